/- The contract of impl.CountShapes. -/
import Derived.Test.YtfghegjlilcafaaShp
import Derived.Test.YtfghegjlilcafaaMps
import Derived.Test.YtfghegjlilcafaaAlk
import Derived.Maps.OwnIn
namespace Go.Proofs.Ytfghegjlilcafaa
open Go Go.RowKit Go.Maps
attribute [local go_sem] Oper.semAt_some

/-- Between two rounds: the number of shapes, the map of what was met. -/
def ShI (n : Nat) (w : World) (k : Nat) (S : List Nat) (W : World) : Prop :=
  ∃ F, W.heap[w.heap.size]? = some (.cells #[.int .i64 (shK n k : Int)] 2 (0, 0)) ∧ SetM 28 (fun c => kyL (n : Int) (dcd c)) (vld (n : Int)) W (w.heap.size + 1) F ∧ MetL n k F ∧
    W.heap[w.heap.size + 1 + 1]? = some (.cells #[.map (some (w.heap.size + 1))] 66 (0, 0)) ∧ Below w.heap.size w W ∧ (∀ b, b ∈ S → b ≠ w.heap.size ∧ b ≠ w.heap.size + 1 ∧ b ≠ w.heap.size + 1 + 1 ∧ b < W.heap.size)

theorem shI_abs (n : Nat) (w : World) (B : Nat) (hB : w.heap.size ≤ B) : Abs B (ShI n w) := by
  rintro k S X Y row ⟨F, h1, h2, h3, h4, h5, h6⟩ hg hr
  refine ⟨F, (hg.block _ (Array.getElem?_eq_some_iff.1 h1).1 (fun e => (h6 _ (hr _ e.symm).2).1 rfl)).trans h1, h2.kept hg (fun e => (h6 _ (hr _ e.symm).2).2.1 rfl), h3, (hg.block _ (Array.getElem?_eq_some_iff.1 h4).1 (fun e => (h6 _ (hr _ e.symm).2).2.2.1 rfl)).trans h4, h5.grown hg h5.size (fun r e => Nat.le_trans hB (hr r e).1), fun b hb => ?_⟩
  obtain ⟨a1, a2, a3, a4⟩ := h6 b hb
  exact ⟨a1, a2, a3, Nat.lt_of_lt_of_le a4 hg.size⟩

theorem shI_fresh (n : Nat) (w : World) : Fresh (ShI n w) := by
  rintro k S X Y b ⟨F, h1, h2, h3, h4, h5, h6⟩ hg hb hbY
  have l1 := (Array.getElem?_eq_some_iff.1 h1).1
  have l4 := (Array.getElem?_eq_some_iff.1 h4).1
  refine ⟨F, (hg.block _ l1 (fun e => by cases e)).trans h1, h2.kept hg (fun e => by cases e), h3, (hg.block _ l4 (fun e => by cases e)).trans h4, h5.grown hg h5.size (fun r e => by cases e), fun c hc => ?_⟩
  rcases List.mem_cons.1 hc with rfl | hc
  · exact ⟨by omega, by omega, by omega, hbY⟩
  · obtain ⟨a1, a2, a3, a4⟩ := h6 c hc
    exact ⟨a1, a2, a3, Nat.lt_of_lt_of_le a4 hg.size⟩

theorem RdM.blocks9 {w w' : World} {B : Nat} {a : Option Addr} {L : List MapN} (h : RdM w B a L) (hs : w.heap.size ≤ w'.heap.size) (he : ∀ b, B ≤ b → b < w.heap.size → w'.heap[b]? = w.heap[b]?) : RdM w' B a L := by
  refine ⟨h.1, ?_⟩
  rcases h.2 with h0 | ⟨g, ha, hB, hg, hc, hf⟩
  · exact Or.inl h0
  · exact Or.inr ⟨g, ha, hB, by omega, fun j hj => (hc j hj).block (he g hB hg), fun x hx => by rw [World.frozen?_of_block (a := ⟨g, x, none⟩) (he g hB hg)]; exact hf x hx⟩

theorem take_app9 {E : List Nat} {j : Nat} (h : j < E.length) : E.take (j + 1) = E.take j ++ [E.getD j 0] := by
  rw [List.take_add_one, List.getElem?_eq_getElem h, List.getD_eq_getElem?_getD, List.getElem?_eq_getElem h]
  rfl

set_option maxRecDepth 100000 in
set_option maxHeartbeats 2000000 in
theorem ishp_any (x : Int) (w : World) :
    Calls Try.prog 34 #[.int .i64 x] w fun e w' => e = .returned (shV x) ∧ Below w.heap.size w w' := by
  by_cases hx : 1 ≤ x ∧ x ≤ 5
  · obtain ⟨n, rfl⟩ := Int.eq_ofNat_of_zero_le (show 0 ≤ x by omega)
    have hn1 : 1 ≤ n := by omega
    have hn5 : n ≤ 5 := by omega
    rw [shV_yes hn1 hn5]
    have g1 : ¬ ((n : Int) < 1) := by omega
    have g2 : ¬ ((n : Int) > 5) := by omega
    have g3 : ¬ ((5 : Int) < (n : Int)) := by omega
    clear hx
    refine (callsIn_wide (n := 5)).1 ?_
    refine callsIn_of_wp_marks Try.func34 rfl trivial ?_ rfl
    simp only [Try.ntmps34, List.size_toArray, List.length_cons, List.length_nil, Nat.reduceAdd, Nat.reduceSub, Array.replicate_succ, Array.replicate_zero, List.push_toArray, List.append_toArray, List.nil_append, List.cons_append]
    have hmm := @run_makeMap Try.prog
    gi_wp2_with (refine ⟨trivial, ?_⟩; gi_at_call 72; refine (callsIn_wide.2 (mapsOf_any (n : Int) _)).mono ?_; rintro e w2 ⟨rfl, hw2⟩)
    clear hmm
    have he : (fun k => #[mv (n : Int) (dgF n k)]) = fun k => #[mv (n : Int) (dcd (cdN n k))] := by
      funext k
      unfold mv cdN
      rw [mcells_ecd (dgF_ok hn1 hn5)]
    have HC := fun m hm => maps_counted hn1 hn5 m hm (w.heap.size + 1 + 1 + 1) w2 (by rw [hw2]; exact halloc_at _ _ _ (by simp))
    rw [he] at HC
    have HC := Lib.hid HC
    have hb2 : Below w.heap.size w w2 := by rw [hw2]; (repeat' (first | (with_reducible exact Below.refl _ _) | (with_reducible refine Below.alloc ?_ ?_ _) | (with_reducible refine Below.setCell ?_ ?_ _) | (with_reducible refine Below.drew ?_) | (with_reducible refine below_drewN ?_ _) | (with_reducible refine Below.trans ?_ (Below.mono (Hid.out (by assumption)) ?_)) | omega | (simp; done) | (simp; omega)))
    have hz2 : w2.heap.size = w.heap.size + 1 + 1 + 1 + 1 := by rw [hw2]; simp
    have hc0 : w2.heap[w.heap.size]? = some (.cells #[.int .i64 (shK n 0 : Int)] 2 (0, 0)) := by rw [hw2]; exact (halloc_lt _ _ _ (by simp; omega)).trans ((halloc_lt _ _ _ (by simp; omega)).trans ((halloc_lt _ _ _ (by simp)).trans (halloc_at _ _ _ rfl)))
    have hm0 : w2.heap[w.heap.size + 1 + 1]? = some (.cells #[.map (some (w.heap.size + 1))] 66 (0, 0)) := by rw [hw2]; exact (halloc_lt _ _ _ (by simp)).trans (halloc_at _ _ _ (by simp))
    have hs0 : SetM 28 (fun c => kyL (n : Int) (dcd c)) (vld (n : Int)) w2 (w.heap.size + 1) [] := by
      rw [hw2]
      have h := setM_made (T := 28) (ky := fun c => kyL (n : Int) (dcd c)) (P := vld (n : Int)) (w.alloc (.cells #[.int .i64 0] 2))
      rw [World.size_alloc] at h
      exact (h.below ((Below.refl _ _).alloc (Nat.le_refl _) _)).below ((Below.refl _ _).alloc (Nat.le_refl _) _)
    have HC0 := Lib.hid hc0
    have HM0 := Lib.hid hm0
    have HS0 := Lib.hid hs0
    have HB2 := Lib.hid hb2
    try rw [← hw2]
    clear hw2 hc0 hm0 hs0 hb2 he g1 g2 g3
    refine range_counted rfl (by omega) (gf := 101) (lb := #[.pointer (some ⟨w.heap.size + 1 + 1 + 1, 0, none⟩)]) rfl trivial (fun _ _ => rfl) (encs := fun k => #[mv (n : Int) (dcd (cdN n k))]) (S0 := [w.heap.size + 1 + 1 + 1]) (N := n ^ n) (HC.out _ (by omega)) (Below.refl _ _) (fun _ => rfl)
      (ShI n w) (shI_abs n w _ (by omega)) (shI_fresh n w) ?start
      (fun k a' W => ∃ Bx, w.heap.size + 1 + 1 + 1 < Bx ∧ W.heap[Bx]? = some (.cells (mcells (n : Int) (dcd (cdN n k))) 28 (0, 0)) ∧
        a' = { tmps := #[.int .i64 (n : Int), undef, .int .i64 0, .int .i64 0, .pointer (some ⟨w.heap.size, 0, none⟩), .pointer (some ⟨w.heap.size + 1 + 1, 0, none⟩), .pointer (some ⟨Bx, 0, none⟩), undef, undef, .int .i64 (n : Int), .bool false, .bool false, .int .i64 (n : Int), .bool false, .bool false, .map (some (w.heap.size + 1)), .int .i64 (n : Int),
          .func (.func 101) #[] #[.pointer (some ⟨w.heap.size + 1 + 1 + 1, 0, none⟩)], mv (n : Int) (dcd (cdN n k)), undef, undef, undef, undef, undef, undef, undef, undef, undef, undef, undef, undef, undef, undef, undef, undef, undef], defers := [] })
      ?hax ?assign ?body ?done
    case start =>
      refine ⟨[], HC0.out, HS0.out, MetL.zero n, HM0.out, HB2.out, fun b hb => ?_⟩
      have : b = w.heap.size + 1 + 1 + 1 := by simpa using hb
      omega
    case hax =>
      rintro k a' _ X Y row ⟨Bx, h1, h2, h3⟩ hg hr
      exact ⟨Bx, h1, (hg.block Bx (Array.getElem?_eq_some_iff.1 h2).1 (fun e => by obtain ⟨_, o, ho, hc⟩ := hr Bx e.symm; rw [h2] at ho; cases ho; cases hc)).trans h2, h3⟩
    case assign =>
      rintro l k S W Kx hk hi hlt hK
      have HK := Lib.hid hK
      clear hi hK
      generalize cdN n k = c at *
      simp only [mv, mcells]
      gi_wp2
      refine HK.out _ _ ?_ ?_
      · exact World.grownBy_alloc _ _ _
      · exact ⟨W.heap.size, by omega, halloc_at _ _ _ rfl, rfl⟩
    case body =>
      rintro l k S a' W hk ⟨F, hc, hset, hmet, hmp, hb, hS⟩ ⟨Bx, hBx, cx, rfl⟩ hlt
      have hv := cdN_vld (k := k) hn1 hn5
      have hlk := hset.look (MT := 66) Try.underlying66 (kyMap (n : Int)) hv
      have hcF := hmet.mem _ hv
      have hNW := fun (E : List Nat) (h' : mtB n k (cdN n k) = false) hE => hmet.new (E := E) hn1 hn5 h' hE
      have hsh := shK_le n k
      have hk9 : k ≤ 3125 := by have := pow_le hn1 hn5; omega
      have hSO := shK_old (n := n) (k := k)
      have hSN := shK_new (n := n) (k := k)
      have hOL := hmet.old
      have e0 := Joins.cell_of_block hc 0
      have m0 := Joins.cell_of_block hmp 0
      simp only [List.getElem?_toArray, List.getElem?_cons_zero] at e0 m0
      obtain ⟨x0, x1, x2, x3, x4, x5⟩ := blk6 cx
      have hc1 : w.heap.size < W.heap.size := (Array.getElem?_eq_some_iff.1 hc).1
      have hm1 : w.heap.size + 1 + 1 < W.heap.size := (Array.getElem?_eq_some_iff.1 hmp).1
      have hBl : Bx < W.heap.size := (Array.getElem?_eq_some_iff.1 cx).1
      have hfz := blk_free hc
      have HCC := Lib.hid hc
      have HSET := Lib.hid hset
      have HMP := Lib.hid hmp
      have HB := Lib.hid hb
      have HS := Lib.hid hS
      have HCX := Lib.hid cx
      have HV := Lib.hid hv
      have HNW := Lib.hid hNW
      have HSO := Lib.hid hSO
      have HSN := Lib.hid hSN
      have HOL := Lib.hid hOL
      have HAL := Lib.hid fun W => ialk_any n (dcd (cdN n k)) hv.2 W
      have hec : ecd (dcd (cdN n k)) = cdN n k := ecd_dcd hv.1
      rw [hec] at HAL
      have HFD := fld_orb
      have HKY := Lib.hid (kyMap (n : Int))
      have HMT := Lib.hid hmet
      clear hc hset hmp hb hS cx hv hNW hSO hSN hOL hec hmet
      unfold ShI
      generalize shK n (k + 1) = y at *
      generalize shK n k = z at *
      cases hmt : mtB n k (cdN n k)
      · rw [hmt] at hcF HSN HNW
        have hnF : cdN n k ∉ F := fun h => by have := hcF.1 h; cases this
        rw [decide_eq_false hnF] at hlk
        have HSN1 := Lib.hid (HSN.out rfl)
        clear hcF hnF HSO HOL hmt
        generalize cdN n k = c at *
        simp only [mv, mcells] at hlk HAL
        gi_wp2_with (refine ⟨trivial, ?_⟩; gi_at_call 73; refine (callsIn_wide.2 (HAL.out _)).mono ?_; rintro e w3 ⟨a, cap, E, rfl, hrd, horb, hb3⟩; have HRD := Lib.hid hrd; have HOR := Lib.hid horb; have HB3 := Lib.hid hb3; have hs3 := hb3.size; (try simp at hs3); clear hrd horb hb3)
        have hc3 : w3.heap[w.heap.size]? = some (.cells #[.int .i64 ((z : Int) + 1)] 2 (0, 0)) := (HB3.out.block _ (by simp; omega)).trans (Joins.block_setCell HCC.out _)
        have hm3 : w3.heap[w.heap.size + 1 + 1]? = some (.cells #[.map (some (w.heap.size + 1))] 66 (0, 0)) := (HB3.out.block _ (by simp; omega)).trans ((hset_ne _ _ _ _ (by simp <;> omega)).trans HMP.out)
        have hset3 := (HSET.out.kept (grown_set9 W w.heap.size 0 (.int .i64 ((z : Int) + 1))) (fun e => by injection e with e; omega)).below HB3.out
        have hbW : Below w.heap.size w w3 := (HB.out.setCell (Nat.le_refl _) _).trans (HB3.out.mono (by simp; omega))
        have hold : ∀ b, b < W.heap.size → b ≠ w.heap.size → w3.heap[b]? = W.heap[b]? := fun b h1 h2 => (HB3.out.block b (by simp; omega)).trans (hset_ne _ _ _ _ h2)
        have hM2 := (HNW.out E trivial HOR.out).2
        have hlen := hM2.len
        rw [List.length_append] at hlen
        have hvE := HOR.out.vl
        have HC3 := Lib.hid hc3
        have HM3 := Lib.hid hm3
        have HS3 := Lib.hid hset3
        have HBW := Lib.hid hbW
        have HOLD := Lib.hid hold
        have HM2 := Lib.hid hM2
        have HVE := Lib.hid hvE
        have hrd0 := HRD.out
        simp only [World.size_setCell] at hrd0
        have HRD0 := Lib.hid hrd0
        clear hc3 hm3 hset3 hbW hold hM2 hvE hrd0 x0 x1 x2 x3 x4 x5 e0 m0 hfz hlk HB3 HRD HOR
        gi_loopw [8, 28] (fun _ i wr => ∃ j : Nat, j ≤ E.length ∧ i = .int .i64 (j : Int) ∧ SetM 28 (fun c => kyL (n : Int) (dcd c)) (vld (n : Int)) wr (w.heap.size + 1) (F ++ E.take j) ∧ w3.heap.size ≤ wr.heap.size ∧ (∀ b, b < w3.heap.size → b ≠ w.heap.size + 1 → wr.heap[b]? = w3.heap[b]?) ∧ Below w.heap.size w wr) (fun _ i _ => E.length - (intOf i).toNat)
        case atStart => exact ⟨0, by omega, rfl, by rw [List.take_zero, List.append_nil]; exact HS3.out, Nat.le_refl _, fun b _ _ => rfl, HBW.out⟩
        case round =>
          obtain ⟨j, hj, rfl, hset, hsz, hkp, hb⟩ := hrel
          have HSX := Lib.hid hset
          have HKP := Lib.hid hkp
          have HBX := Lib.hid hb
          clear hset hkp hb
          by_cases hjE : j < E.length
          · have hjE' : (j : Int) < (E.length : Int) := by omega
            have hvy := HVE.out _ (getD_in j hjE)
            obtain ⟨g, rfl, hat⟩ := (RdM.blocks9 HRD0.out hsz (fun b h1 h2 => HKP.out b h2 (by omega))).at6 j (by rw [moL_len]; exact hjE)
            have hgl := (RdM.blocks9 HRD0.out hsz (fun b h1 h2 => HKP.out b h2 (by omega))).lt9 (by rw [moL_len]; omega)
            rw [moL_at (n : Int) E j hjE] at hat
            obtain ⟨x0, x1, x2, x3, x4, x5⟩ := hat
            simp only [] at x0 x1 x2 x3 x4 x5
            have hmr := (HKP.out (w.heap.size + 1 + 1) (by omega) (by omega)).trans HM3.out
            have m0 := Joins.cell_of_block hmr 0
            simp only [List.getElem?_toArray, List.getElem?_cons_zero] at m0
            have hmrl : w.heap.size + 1 + 1 < wr.heap.size := by omega
            have HKK := Lib.hid (HKY.out.key _ hvy)
            have HVY := Lib.hid hvy
            have HTK : Hid (F ++ E.take (j + 1) = (F ++ E.take j) ++ [E.getD j 0]) := Lib.hid (by rw [take_app9 hjE, List.append_assoc])
            have hTl : (F ++ E.take j).length ≤ 3125 := by rw [List.length_append, List.length_take]; omega
            have HSA := Lib.hid (HSX.out.below ((Below.refl wr.heap.size wr).alloc (Nat.le_refl _) (.cells (mcells (n : Int) (dcd (E.getD j 0))) 28)))
            generalize E.getD j 0 = y9 at *
            generalize F ++ E.take j = FT at *
            clear hmr hvy
            simp only [mv, mcells] at HKK HSA
            gi_wp2_with (gi_at_mapUpdate; refine wpListIn_mapUpdate_own _ rfl _ _ _ 66 rfl 28 4 HKY.out.law Try.underlying66 selR (w.heap.size + 1) FT.length _ rfl HSA.out.1 (by unfold maxLen; omega) _ _ _ rfl rfl HKK.out (.held (.bool true)) [] rfl ?_; intro w5 hmap5 hg5; have HG5 := Lib.hid hg5; have HMP5 := Lib.hid hmap5; have hs5 := hg5.size; (try simp only [World.size_alloc] at hs5); clear hg5 hmap5)
            refine ⟨⟨j + 1, by omega, by simp, by rw [HTK.out]; exact SetM.put HSA.out.2 HVY.out HMP5.out, by omega, fun b h1 h2 => ?_, ?_⟩, by simp [intOf] <;> omega⟩
            · exact (HG5.out.block b (by simp; omega) (fun e => h2 (by injection e))).trans ((halloc_lt _ _ _ (by omega)).trans (HKP.out b h1 h2))
            · exact (HBX.out.alloc HBX.out.size _).grown HG5.out (by simp; omega) (fun r e => by cases e; omega)
          · obtain rfl : j = E.length := by omega
            have hjE' : ¬ ((E.length : Int) < (E.length : Int)) := by omega
            have hfin := HSX.out
            rw [List.take_length] at hfin
            have HFIN := Lib.hid hfin
            clear hfin hjE
            gi_wp2
            refine ⟨by omega, fun b hbS hbW => (HKP.out b (by omega) (HS.out b hbS).2.1).trans (HOLD.out b hbW (HS.out b hbS).1), ?_, F ++ E, HFIN.out, HM2.out, (HKP.out _ (by omega) (by omega)).trans HM3.out, HBX.out, fun b hb => ?_⟩
            · rw [HSN1.out]
              exact (HKP.out w.heap.size (by omega) (by omega)).trans HC3.out
            · obtain ⟨a1, a2, a3, a4⟩ := HS.out b hb
              exact ⟨a1, a2, a3, by omega⟩
      · rw [hmt] at hcF HSO HOL
        have hnF : cdN n k ∈ F := hcF.2 rfl
        rw [decide_eq_true hnF] at hlk
        have HSO1 := Lib.hid (HSO.out rfl)
        have HOL1 := Lib.hid (HOL.out rfl)
        clear hcF hnF HSO HOL hmt
        generalize cdN n k = c at *
        simp only [mv, mcells] at hlk
        gi_wp2
        exact ⟨Nat.le_refl _, fun b _ _ => rfl, F, by rw [HSO1.out]; exact HCC.out, HSET.out, HOL1.out, HMP.out, HB.out, HS.out⟩
    case done =>
      rintro D S W hD ⟨F, hc, hset, hmet, hmp, hb, hS⟩ hDS hK
      have e0 := Joins.cell_of_block hc 0
      simp only [List.getElem?_toArray, List.getElem?_cons_zero] at e0
      have hc1 : w.heap.size < W.heap.size := (Array.getElem?_eq_some_iff.1 hc).1
      have HB := Lib.hid hb
      have HK := Lib.hid hK
      have hsz := hb.size
      clear hc hset hmet hmp hb hS hK
      gi_wp2
      refine ⟨by simp, .inl ⟨_, _, rfl, run_takeDeferred HK.out, ?_⟩⟩
      refine ⟨_, by simp [results, Try.results34, go_sem], rfl, ?_⟩
      exact HB.out.grown (grownBy_putObj' _ D _) hsz (fun k e => by cases e; omega)
  · rw [shV_no hx]
    by_cases h1 : x < 1
    · go_enter Try.func34, Try.ntmps34
      go_wp2_with fail
      go_ret2
      refine ⟨rfl, ?_⟩
      (repeat' (first | (with_reducible exact Below.refl _ _) | (with_reducible refine Below.alloc ?_ ?_ _) | (with_reducible refine Below.setCell ?_ ?_ _) | (with_reducible refine Below.drew ?_) | (with_reducible refine below_drewN ?_ _) | (with_reducible refine Below.trans ?_ (Below.mono (Hid.out (by assumption)) ?_)) | omega | (simp; done) | (simp; omega)))
    · have h2 : x > 5 := by omega
      have h3 : (5 : Int) < x := by omega
      go_enter Try.func34, Try.ntmps34
      go_wp2_with fail
      go_ret2
      refine ⟨rfl, ?_⟩
      (repeat' (first | (with_reducible exact Below.refl _ _) | (with_reducible refine Below.alloc ?_ ?_ _) | (with_reducible refine Below.setCell ?_ ?_ _) | (with_reducible refine Below.drew ?_) | (with_reducible refine below_drewN ?_ _) | (with_reducible refine Below.trans ?_ (Below.mono (Hid.out (by assumption)) ?_)) | omega | (simp; done) | (simp; omega)))

end Go.Proofs.Ytfghegjlilcafaa
