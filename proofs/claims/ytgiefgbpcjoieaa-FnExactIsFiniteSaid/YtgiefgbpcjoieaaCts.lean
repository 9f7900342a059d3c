/- The contract of spec.CountAccepted. -/
import Derived.Test.YtgiefgbpcjoieaaCtp
import Derived.Test.YtgiefgbpcjoieaaAcm
import Derived.Test.YtgiefgbpcjoieaaSrp
import Derived.Test.YtgiefgbpcjoieaaOwn
import Derived.Deep.RegionHeld3
import Derived.StillTailTactics
namespace Go.Proofs.Ytgiefgbpcjoieaa
open Go Go.RowKit

/-- A row of numbers in a block. -/
def Mi (w : World) (g n : Nat) (V : Nat → Int) : Prop := g < w.heap.size ∧ ∀ j, j < n → w.cell? ⟨g, j, none⟩ = some (.int .i64 (V j)) ∧ w.frozen? ⟨g, j, none⟩ = false

theorem Mi.set {w : World} {g n : Nat} {V : Nat → Int} (h : Mi w g n V) (y : Nat) (hy : y < n) (x : Int) : Mi (w.setCell ⟨g, y, none⟩ (.int .i64 x)) g n (upd V y x) := by
  refine ⟨by simpa using h.1, fun j hj => ?_⟩
  rw [World.frozen?_setCell]
  refine ⟨?_, (h.2 j hj).2⟩
  unfold upd
  by_cases e : j = y
  · subst e
    rw [if_pos rfl]
    exact World.cell?_setCell_same _ _ _ (h.2 j hj).1
  · rw [if_neg e, World.cell?_setCell_other _ _ _ _ (by intro q; injection q with _ q; exact e q.symm)]
    exact (h.2 j hj).1

theorem Mi.same {w w' : World} {g n : Nat} {V : Nat → Int} (h : Mi w g n V) (e : w'.heap[g]? = w.heap[g]?) : Mi w' g n V := by
  refine ⟨?_, fun j hj => ?_⟩
  · obtain ⟨o, ho⟩ : ∃ o, w.heap[g]? = some o := ⟨_, Array.getElem?_eq_getElem h.1⟩
    exact (Array.getElem?_eq_some_iff.1 (e.trans ho)).1
  · have h1 := h.2 j hj
    unfold World.cell? World.frozen? at h1 ⊢
    rw [e]
    exact h1

theorem Mi.below {w w' : World} {g n : Nat} {V : Nat → Int} (h : Mi w g n V) (hb : Below w.heap.size w w') : Mi w' g n V := h.same (hb.block _ h.1)

theorem make_ints8 (n : Nat) (hn : n ≤ 5) (w : World) :
    (Instr.makeSlice 23 (.int .i64 (n : Int)) (.int .i64 (n : Int))).run Try.prog w = .ok (.slice (some ⟨w.heap.size, 0, none⟩) n n) (w.alloc (.cells (Array.replicate n (.int .i64 0)) 2)) := by
  rcases (by omega : n = 0 ∨ n = 1 ∨ n = 2 ∨ n = 3 ∨ n = 4 ∨ n = 5) with rfl | rfl | rfl | rfl | rfl | rfl <;> kernel_rfl

theorem mi_new (n : Nat) (w : World) : Mi (w.alloc (.cells (Array.replicate n (.int .i64 0)) 2)) w.heap.size n (fun _ => 0) := by
  have hb : (w.alloc (.cells (Array.replicate n (.int .i64 0)) 2)).heap[w.heap.size]? = some (.cells (Array.replicate n (.int .i64 0)) 2 (0, 0)) := halloc_at _ _ _ rfl
  refine ⟨by simp, fun j hj => ⟨?_, Joins.unfrozen_of_block hb j⟩⟩
  rw [Joins.cell_of_block hb j]
  simp [hj]

theorem mi_one (n F : Nat) (hF : F < n) (w : World) : Mi (w.alloc (.cells ((Array.replicate n (.int .i64 0)).setIfInBounds F (.int .i64 1)) 2)) w.heap.size n (upd (fun _ => 0) F 1) := by
  have hb : (w.alloc (.cells ((Array.replicate n (.int .i64 0)).setIfInBounds F (.int .i64 1)) 2)).heap[w.heap.size]? = some (.cells ((Array.replicate n (.int .i64 0)).setIfInBounds F (.int .i64 1)) 2 (0, 0)) := halloc_at _ _ _ rfl
  refine ⟨by simp, fun j hj => ⟨?_, Joins.unfrozen_of_block hb j⟩⟩
  rw [Joins.cell_of_block hb j]
  unfold upd
  by_cases e : j = F
  · subst e
    rw [if_pos rfl, Array.getElem?_setIfInBounds_self_of_lt (by simpa using hj)]
  · rw [if_neg e, Array.getElem?_setIfInBounds_ne (fun q => e q.symm)]
    simp [hj]

set_option maxRecDepth 100000 in
set_option maxHeartbeats 8000000 in
theorem sCnt_any (L : List MapN) (hl : L.length ≤ 1048576) (F : Int) (S : List Int) (hs : S.length ≤ 1048576) (n : Int) (a b : Option Addr) (c d : Nat) (hc0 : a = none → c = 0) (w : World) (h1 : InRowM w a L) (h2 : InRow w b S) :
    Calls Try.prog 22 #[.agg #[.slice a L.length c, .int .i64 F, .slice b S.length d], .int .i64 n] w (RetRow w.heap.size (cntL L F S n) (cntC L F S n) w) := by
  obtain ⟨i0, hi, hz0, hz1, hz2⟩ := info_parts info_int
  obtain ⟨wb, hwb⟩ : ∃ wb, wb = w.alloc (.cells #[.slice a L.length c, .int .i64 F, .slice b S.length d] 29) := ⟨_, rfl⟩
  have HWB : Hid (Below w.heap.size w wb) := Lib.hid (by rw [hwb]; exact (Below.refl _ _).alloc (Nat.le_refl _) _)
  have hbx : wb.heap[w.heap.size]? = some (.cells #[.slice a L.length c, .int .i64 F, .slice b S.length d] 29 (0, 0)) := by rw [hwb]; exact halloc_at _ _ _ rfl
  have hwz : w.heap.size < wb.heap.size := (Array.getElem?_eq_some_iff.1 hbx).1
  have HBX := Lib.hid hbx
  have f0 := Joins.cell_of_block hbx 0
  have f1 := Joins.cell_of_block hbx 1
  have f2 := Joins.cell_of_block hbx 2
  simp only [List.getElem?_toArray, List.getElem?_cons_zero, List.getElem?_cons_succ] at f0 f1 f2
  have HAC := Lib.hid (sacc_any L hl F S hs a b c d wb (h1.below HWB.out) (h2.below HWB.out))
  have HIN := Lib.hid fun w => in_any n 0 20 w
  clear hbx
  cases hA : accB L F S
  · rw [hA] at HAC
    rw [cntL_no (by rw [cntC_bad hA]; decide), cntC_bad hA]
    clear hA h1 h2
    go_enter Try.func22, Try.ntmps22
    go_wp2_with fail
    rw [← hwb]
    clear hwb
    go_wp2_with fail
    refine HAC.out.mono ?_
    rintro e w1 ⟨rfl, hb⟩
    have HB1 : Hid (Below w.heap.size w w1) := Lib.hid (HWB.out.trans (hb.mono (by omega)))
    clear hb
    go_wp2_with fail
    go_ret2
    exact ⟨none, 0, rfl, ⟨by simp, Or.inl rfl⟩, HB1.out⟩
  by_cases hn : 0 ≤ n ∧ n ≤ 20
  rotate_left
  · have hin : inB n 0 20 = false := by rw [Bool.eq_false_iff]; intro h; exact hn (inB_true.1 h)
    rw [hA] at HAC
    rw [hin] at HIN
    rw [cntL_no (by rw [cntC_out hA hn]; decide), cntC_out hA hn]
    clear hA h1 h2 hn hin
    go_enter Try.func22, Try.ntmps22
    go_wp2_with fail
    rw [← hwb]
    clear hwb
    go_wp2_with fail
    refine HAC.out.mono ?_
    rintro e w1 ⟨rfl, hb⟩
    have HB1 : Hid (Below w.heap.size w w1) := Lib.hid (HWB.out.trans (hb.mono (by omega)))
    clear hb
    go_wp2_with fail
    refine (HIN.out _).mono ?_
    rintro e w2 ⟨rfl, rfl⟩
    go_wp2_with fail
    go_ret2
    exact ⟨none, 0, rfl, ⟨by simp, Or.inl rfl⟩, HB1.out⟩
  have hin : inB n 0 20 = true := inB_true.2 hn
  obtain ⟨hL, hF0, hF1, hS, _⟩ := accB_true hA
  have hce := cntC_good hA hn
  rw [hA] at HAC
  rw [hin] at HIN
  rw [cntL_yes hce, hce]
  obtain ⟨N, rfl⟩ := Int.eq_ofNat_of_zero_le hn.1
  have hN20 : N ≤ 20 := by have := hn.2; omega
  obtain ⟨F, rfl⟩ := Int.eq_ofNat_of_zero_le hF0
  have hfst := hL.fst
  simp only [Int.toNat_natCast]
  obtain ⟨p, hp⟩ : ∃ p, p = (fst0 L).toNat := ⟨_, rfl⟩
  rw [← hp] at hL hfst ⊢
  have hFp : F < p := by omega
  have hp1 := hL.p1
  have hp5 := hL.p5
  have hm6 := hL.l6
  have hpos : 0 < L.length := hL.l1
  have HNX := Lib.hid fun x i (hx : x < p) (hi : i < L.length) => hL.nx hx hi
  have HSV : Hid (∀ j, j < S.length → S.getD j 0 = ((S.getD j 0).toNat : Int) ∧ (S.getD j 0).toNat < p) := Lib.hid fun j hj => by
    have q1 := (pts_asc hS j hj).1
    have q2 := (pts_at hS j hj).2
    rw [hfst] at q2
    omega
  obtain ⟨g, off, rfl, hlt, hat⟩ := h1.at0 hpos
  have h0 : w.cell? ⟨g, off, none⟩ = some (.int .i64 (p : Int)) := by rw [← hfst]; exact hat.1
  have H0 := Lib.hid h0
  have HM := Lib.hid h1
  have HS := Lib.hid h2
  have HCL := Lib.hid (cnK_len (nxP L) L.length p F S)
  have HCS := Lib.hid (cnK_succ (nxP L) L.length p F S)
  have hmk := make_ints8 p hp5
  obtain ⟨m, hm⟩ : ∃ m, m = L.length := ⟨_, rfl⟩
  have HMM := Lib.hid hm
  have hz20 : ¬ ((N : Int) < 0) := by omega
  clear hA h1 h2 hn hin hL hF0 hF1 hS hce hp hat h0 hfst
  rw [← hm] at HCL HCS hm6 hpos HAC HBX f0 hwb ⊢
  clear hm
  go_enter Try.func22, Try.ntmps22
  go_wp2_with fail
  rw [← hwb]
  clear hwb
  go_wp2_with fail
  refine HAC.out.mono ?_
  rintro e w1 ⟨rfl, hb⟩
  have hz := hb.size
  have HB1 : Hid (Below w.heap.size w w1) := Lib.hid (HWB.out.trans (hb.mono (by omega)))
  have hbx := (hb.block _ (by omega)).trans HBX.out
  have f0 := Joins.cell_of_block hbx 0
  have f1 := Joins.cell_of_block hbx 1
  simp only [List.getElem?_toArray, List.getElem?_cons_zero, List.getElem?_cons_succ] at f0 f1
  have HBX := Lib.hid hbx
  have e0 := (HB1.out.cell (p := ⟨g, off, none⟩) hlt).trans H0.out
  have hsz : w.heap.size < w1.heap.size := by omega
  clear hb hbx HAC f2
  go_wp2_with fail
  refine (HIN.out _).mono ?_
  rintro e w2 ⟨rfl, rfl⟩
  have hmi := (mi_new p w2).below ((Below.refl _ _).alloc (Nat.le_refl _) (.cells #[] 2))
  have HMI := Lib.hid ((mi_one p F hFp w2).below ((Below.refl _ _).alloc (Nat.le_refl _) (.cells #[] 2)))
  obtain ⟨eF, eG⟩ := hmi.2 F hFp
  have hFp' : (F : Int) < (p : Int) := by omega
  clear hmi
  go_wp2_with fail
  clear eF eG e0 f0 f1
  go_loopw [6, 7, 8, 9, 10, 11, 12, 13, 14] (fun nw v i _ _ _ _ _ _ wr => ∃ (k g1 : Nat), k ≤ N + 1 ∧ i = .int .i64 k ∧ nw = .slice (some ⟨g1, 0, none⟩) p p ∧ Mi wr g1 p (wyK (nxP L) m p F k) ∧ w2.heap.size ≤ g1 ∧ Own wr w2.heap.size v (cnK (nxP L) m p F S k) ∧ v.ownBlock ≠ some g1 ∧ Below w2.heap.size w2 wr) (fun _ _ i _ _ _ _ _ _ _ => N + 1 - (intOf i).toNat)
  case atStart =>
    refine ⟨0, w2.heap.size, by omega, rfl, rfl, HMI.out, Nat.le_refl _, ?_, by simp [Value.ownBlock], ?_⟩
    · have h := own_empty (w2.alloc (.cells ((Array.replicate p (.int .i64 0)).setIfInBounds F (.int .i64 1)) 2)) w2.heap.size (by simp)
      rw [World.size_alloc] at h
      exact h
    · exact ((Below.refl _ _).alloc (Nat.le_refl _) _).alloc (by simp) _
  case round =>
    obtain ⟨k, g1, hk, rfl, rfl, hmi, hg1, hown, hne, hb⟩ := hrel
    have HMI := Lib.hid hmi
    have HO := Lib.hid hown
    have HNE := Lib.hid hne
    have HBR := Lib.hid hb
    have hzr := hb.size
    have hbx := (hb.block _ hsz).trans HBX.out
    have f0 := Joins.cell_of_block hbx 0
    have f2 := Joins.cell_of_block hbx 2
    simp only [List.getElem?_toArray, List.getElem?_cons_zero, List.getElem?_cons_succ] at f0 f2
    have HBX2 := Lib.hid hbx
    have hszr : w.heap.size < wr.heap.size := by omega
    clear hb hbx hmi hown hne
    obtain ⟨wo, hwo⟩ : ∃ wo, wo = wr := ⟨_, rfl⟩
    subst hwo
    by_cases hkN : k ≤ N
    · have hkN' : (k : Int) ≤ (N : Int) := by omega
      have HSU := Lib.hid (HCS.out k)
      have HLN := Lib.hid (HCL.out k)
      have HWY : Hid (wyK (nxP L) m p F (k + 1) = adP (nxP L) m (wyK (nxP L) m p F k) p) := Lib.hid rfl
      generalize wyK (nxP L) m p F k = V at *
      go_wp2_with fail
      go_loopw [9, 10] (fun s i wx => ∃ j : Nat, j ≤ S.length ∧ i = .int .i64 j ∧ s = .int .i64 (smS V S j) ∧ wx = wo) (fun _ i _ => S.length - (intOf i).toNat)
      case atStart => exact ⟨0, by omega, rfl, rfl, rfl⟩
      case round =>
        obtain ⟨j, hj, rfl, rfl, rfl⟩ := hrel
        by_cases hjs : j < S.length
        · have hjs' : (j : Int) < (S.length : Int) := by omega
          obtain ⟨bS, oS, rfl, hltS, hin⟩ := HS.out.resolve_left (fun e => by rw [e] at hjs; simp at hjs)
          have e1 := ((HB1.out.trans (HBR.out.mono (by omega))).cell (p := ⟨bS, oS + j, none⟩) hltS).trans (hin j hjs)
          obtain ⟨hy1, hy2⟩ := HSV.out j hjs
          have HST : Hid (smS V S (j + 1) = aw (smS V S j) (V (S.getD j 0).toNat)) := Lib.hid rfl
          rw [hy1] at e1
          obtain ⟨y, hy⟩ : ∃ y, y = (S.getD j 0).toNat := ⟨_, rfl⟩
          rw [← hy] at hy2 e1 HST
          have e2 := (HMI.out.2 y hy2).1
          have hy2' : (y : Int) < (p : Int) := by omega
          obtain ⟨z, hz⟩ : ∃ z, z = smS V S (j + 1) := ⟨_, rfl⟩
          have hwr : IntKind.i64.wrap (smS V S j + V y) = z := by rw [hz, HST.out]; rfl
          have HZ := Lib.hid hz
          clear hin hy1 hy hz
          generalize smS V S j = s0 at *
          generalize V y = vy at *
          go_wp2_with fail
          go_roundw
          case rel => exact ⟨j + 1, by omega, by go_num, by rw [HZ.out], trivial⟩
          case measure => simp [intOf]; omega
        · obtain rfl : j = S.length := by omega
          obtain ⟨X, hX⟩ : ∃ X, X = smS V S S.length := ⟨_, rfl⟩
          rw [← hX] at HSU
          have HXX := Lib.hid hX
          rw [← hX]
          clear hX
          have HHB := Lib.hid (World.ownsRow.alloc HO.out (.cells #[.int .i64 X] 2))
          go_wp2_with (at_builtin; refine wpList_append_own_at _ rfl _ _ 23 rfl w2.heap.size 2 i0 (.int .i64 0) 1 8 Try.underlying23 hi hz0 hz1 hz2 rfl (by decide) _ _ _ rfl HHB.out ⟨wr.heap.size, 0, none⟩ 1 1 [.int .i64 X] rfl rfl ?c1 ?c2 ?c3 ?c4 ?c5 ?_)
          case c1 =>
            intro j u hj
            match j, hj with
            | 0, hj => simp at hj; subst hj; simp [Addr.add]
          case c2 => intro u hu; simp at hu; subst hu; rfl
          case c3 => unfold maxLen; rw [HLN.out]; omega
          case c4 => rw [HLN.out]; omega
          case c5 => simp; omega
          intro v' w3 hown' hgrow _ hblk
          have HO3 : Hid (Own w3 w2.heap.size v' (cnK (nxP L) m p F S (k + 1))) := Lib.hid (by
            unfold Own
            rw [HSU.out, List.map_append, List.length_append]
            exact hown')
          have HB3 : Hid (Below w2.heap.size w2 w3) := Lib.hid ((HBR.out.alloc hzr _).grown hgrow (by simp; omega) (fun r e => (World.ownsRow.lt HO.out r e).1))
          have hM2 : Mi (wr.alloc (.cells #[.int .i64 X] 2)) g1 p V := HMI.out.below ((Below.refl _ _).alloc (Nat.le_refl _) _)
          have HM3 : Hid (Mi w3 g1 p V) := Lib.hid (hM2.same (hgrow.block _ hM2.1 (fun e => HNE.out e.symm)))
          have hz3 := hgrow.size
          rw [World.size_alloc] at hz3
          have hg3 := HM3.out.1
          have hbx3 := (HB3.out.block _ hsz).trans HBX.out
          have f0 := Joins.cell_of_block hbx3 0
          simp only [List.getElem?_toArray, List.getElem?_cons_zero] at f0
          have HBX3 := Lib.hid hbx3
          have hsz3 : w.heap.size < w3.heap.size := by omega
          have HNB : Hid (v'.ownBlock ≠ some w3.heap.size) := Lib.hid (fun e => by have := (World.ownsRow.lt HO3.out _ e).2; omega)
          clear hown' hgrow hblk hM2 hbx3 f2
          go_wp2_with fail
          go_loopw [12, 13, 14] (fun i _ _ wx => ∃ x : Nat, x ≤ p ∧ i = .int .i64 x ∧ Mi wx w3.heap.size p (adP (nxP L) m V x) ∧ Below w3.heap.size w3 wx) (fun i _ _ _ => p - (intOf i).toNat)
          case atStart => exact ⟨0, by omega, rfl, mi_new p w3, (Below.refl _ _).alloc (Nat.le_refl _) _⟩
          case round =>
            obtain ⟨x, hx, rfl, hmx, hbx⟩ := hrel
            have HMX := Lib.hid hmx
            have HBW := Lib.hid hbx
            have hzx := hbx.size
            clear hmx hbx
            obtain ⟨wq, hwq⟩ : ∃ wq, wq = wr := ⟨_, rfl⟩
            subst hwq
            by_cases hxp : x < p
            · have hxp' : (x : Int) < (p : Int) := by omega
              have HST : Hid (adP (nxP L) m V (x + 1) = adI (nxP L) V x (adP (nxP L) m V x) m) := Lib.hid rfl
              generalize adP (nxP L) m V x = U at *
              go_wp2_with fail
              go_loopw [13, 14] (fun i _ wx => ∃ y : Nat, y ≤ m ∧ i = .int .i64 y ∧ Mi wx w3.heap.size p (adI (nxP L) V x U y) ∧ Below w3.heap.size w3 wx) (fun i _ _ => m - (intOf i).toNat)
              case atStart => exact ⟨0, by omega, rfl, HMX.out, HBW.out⟩
              case round =>
                obtain ⟨y, hy, rfl, hmx, hbx⟩ := hrel
                have HMY := Lib.hid hmx
                have HBY := Lib.hid hbx
                have hbx9 := (hbx.block _ hsz3).trans HBX3.out
                have f0 := Joins.cell_of_block hbx9 0
                simp only [List.getElem?_toArray, List.getElem?_cons_zero] at f0
                have hvx := ((HM3.out.below hbx).2 x hxp).1
                clear hmx hbx hbx9
                by_cases hym : y < m
                · have hym' : (y : Int) < (m : Int) := by omega
                  have hyL : y < L.length := by rw [← HMM.out]; exact hym
                  obtain ⟨g9, o9, e9, hg9, hat9⟩ := (HM.out.below ((HB1.out.trans (HB3.out.mono (by omega))).trans (HBY.out.mono (by omega)))).at6 y hyL
                  injection e9 with e9
                  injection e9 with e9 e8
                  subst e9 e8
                  have hto := at6_pt hat9 (y := x) (by omega)
                  obtain ⟨hq1, hq2⟩ := HNX.out x y hxp hyL
                  rw [hq2] at hto
                  have HSY : Hid (adI (nxP L) V x U (y + 1) = upd (adI (nxP L) V x U y) (nxP L x y) (aw (adI (nxP L) V x U y (nxP L x y)) (V x))) := Lib.hid rfl
                  generalize nxP L x y = q at *
                  have hq1' : (q : Int) < (p : Int) := by omega
                  have hx5 : (x : Int) < 5 := by omega
                  obtain ⟨hnq, hnf⟩ := HMY.out.2 q hq1
                  obtain ⟨z, hz⟩ : ∃ z, z = aw (adI (nxP L) V x U y q) (V x) := ⟨_, rfl⟩
                  have hwr : IntKind.i64.wrap (adI (nxP L) V x U y q + V x) = z := by rw [hz]; rfl
                  rw [← hz] at HSY
                  have HPUT := Lib.hid fun (w' : World) (h : Mi w' w3.heap.size p (adI (nxP L) V x U y)) => h.set q hq1 z
                  rw [← HSY.out] at HPUT
                  clear hat9 hq2 hz
                  generalize adI (nxP L) V x U y = U2 at *
                  generalize U2 q = A at *
                  generalize V x = Vx at *
                  go_wp2_with fail
                  go_still_tail 12, (by kernel_rfl)
                  go_wp2_with fail
                  go_roundw
                  case rel => exact ⟨y + 1, by omega, by go_num, (HPUT.out _ HMY.out).below (Below.refl _ _).drew, (HBY.out.setCell (Nat.le_refl _) _).drew⟩
                  case measure => simp [intOf]; omega
                · obtain rfl : y = m := by omega
                  have HNX2 : Hid (Mi wr w3.heap.size p (adP (nxP L) y V (x + 1))) := Lib.hid (by rw [HST.out]; exact HMY.out)
                  go_wp2_with fail
                  go_roundw
                  case rel => exact ⟨x + 1, by omega, by go_num, HNX2.out, HBY.out⟩
                  case measure => simp [intOf]; omega
            · obtain rfl : x = p := by omega
              have HNW : Hid (Mi wq w3.heap.size x (wyK (nxP L) m x F (k + 1))) := Lib.hid (by rw [HWY.out]; exact HMX.out)
              have HO4 : Hid (Own wq w2.heap.size v' (cnK (nxP L) m x F S (k + 1))) := Lib.hid ((Turn.of_below (S := fun _ => False) HBW.out).own HO3.out (fun _ _ h => h))
              go_wp2_with fail
              go_roundw
              case rel => exact ⟨k + 1, w3.heap.size, by omega, by go_num, rfl, HNW.out, by omega, HO4.out, HNB.out, HB3.out.trans (HBW.out.mono (by omega))⟩
              case measure => simp [intOf]; omega
    · obtain rfl : k = N + 1 := by omega
      obtain ⟨a2, c2, rfl, hrd⟩ := own_rd HO.out (by rw [HCL.out]; omega)
      have HRD := Lib.hid hrd
      clear hrd HO
      go_wp2_with fail
      go_ret2
      exact ⟨a2, c2, rfl, HRD.out.mono (by omega), HB1.out.trans (HBR.out.mono (by omega))⟩

end Go.Proofs.Ytgiefgbpcjoieaa
