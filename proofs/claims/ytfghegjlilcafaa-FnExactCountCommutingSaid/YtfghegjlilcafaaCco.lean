/- Maps that commute with a map are counted: the contracts of impl.CountCommuting and spec.CountCommuting. -/
import Derived.Test.YtfghegjlilcafaaMps
import Derived.Test.YtfghegjlilcafaaAll
import Derived.Test.YtfghegjlilcafaaComm
import Derived.Maps.OwnIn
import Derived.Deep.RegionHeld3
namespace Go.Proofs.Ytfghegjlilcafaa
open Go Go.RowKit
attribute [local go_sem] Oper.semAt_some

/-- How many of the first k maps commute with f. -/
def ccK (n : Nat) (f : Nat → Int) (k : Nat) : Nat := ((List.range k).filter fun c => comB (n : Int) (dgF n c) f).length
theorem ccK_yes {n : Nat} {f : Nat → Int} {k : Nat} (h : comB (n : Int) (dgF n k) f = true) : ccK n f (k + 1) = ccK n f k + 1 := by
  unfold ccK; rw [List.range_succ, List.filter_append, List.length_append]; simp [h]
theorem ccK_no {n : Nat} {f : Nat → Int} {k : Nat} (h : comB (n : Int) (dgF n k) f = false) : ccK n f (k + 1) = ccK n f k := by
  unfold ccK; rw [List.range_succ, List.filter_append, List.length_append]; simp [h]
theorem ccK_le (n : Nat) (f : Nat → Int) (k : Nat) : ccK n f k ≤ k := by
  unfold ccK; exact Nat.le_trans (List.length_filter_le _ _) (by simp)
def ccV (p : Int) (f : Nat → Int) : Value := .tuple #[.int .i64 (if isB p f = true then (ccK p.toNat f (p.toNat ^ p.toNat) : Int) else 0), .int .i64 (if isB p f = true then 0 else 1)]
theorem ccV_no {p : Int} {f : Nat → Int} (h : isB p f = false) : ccV p f = .tuple #[.int .i64 0, .int .i64 1] := by unfold ccV; rw [h]; rfl
theorem ccV_yes {n : Nat} {f : Nat → Int} (h : isB (n : Int) f = true) : ccV (n : Int) f = .tuple #[.int .i64 (ccK n f (n ^ n) : Int), .int .i64 0] := by unfold ccV; rw [h]; rfl

theorem rowOne {w : World} {b T : Nat} {p : Int} {t : Nat → Int} (h : w.heap[b]? = some (.cells (mcells p t) T (0, 0))) : InRowM w (some ⟨b, 0, none⟩) [((p, t) : MapN)] :=
  Or.inr ⟨b, 0, rfl, (Array.getElem?_eq_some_iff.1 h).1, at_one6 h⟩

theorem comA_one (p : Int) (g f : Nat → Int) : comA p g [(p, f)] = comB p g f := by unfold comA; simp

/-- Between two rounds: the number, the map. -/
def CcI (n : Nat) (f : Nat → Int) (b0 c0 : Nat) (w : World) (k : Nat) (S : List Nat) (W : World) : Prop :=
  W.heap[c0]? = some (.cells #[.int .i64 (ccK n f k : Int)] 2 (0, 0)) ∧ W.heap[b0]? = some (.cells (mcells (n : Int) f) 28 (0, 0)) ∧ Below w.heap.size w W ∧ (∀ b, b ∈ S → b ≠ c0 ∧ b ≠ b0 ∧ b < W.heap.size)

theorem ccI_abs (n : Nat) (f : Nat → Int) (b0 c0 : Nat) (w : World) (B : Nat) (hB : w.heap.size ≤ B) : Abs B (CcI n f b0 c0 w) := by
  rintro k S X Y row ⟨h1, h2, h3, h4⟩ hg hr
  refine ⟨(hg.block _ (Array.getElem?_eq_some_iff.1 h1).1 (fun e => (h4 _ (hr _ e.symm).2).1 rfl)).trans h1, (hg.block _ (Array.getElem?_eq_some_iff.1 h2).1 (fun e => (h4 _ (hr _ e.symm).2).2.1 rfl)).trans h2, h3.grown hg h3.size (fun r e => Nat.le_trans hB (hr r e).1), fun b hb => ?_⟩
  obtain ⟨a1, a2, a3⟩ := h4 b hb
  exact ⟨a1, a2, Nat.lt_of_lt_of_le a3 hg.size⟩

theorem ccI_fresh (n : Nat) (f : Nat → Int) (b0 c0 : Nat) (w : World) : Fresh (CcI n f b0 c0 w) := by
  rintro k S X Y b ⟨h1, h2, h3, h4⟩ hg hb hbY
  have l1 := (Array.getElem?_eq_some_iff.1 h1).1
  have l2 := (Array.getElem?_eq_some_iff.1 h2).1
  refine ⟨(hg.block _ l1 (fun e => by cases e)).trans h1, (hg.block _ l2 (fun e => by cases e)).trans h2, h3.grown hg h3.size (fun r e => by cases e), fun c hc => ?_⟩
  rcases List.mem_cons.1 hc with rfl | hc
  · exact ⟨by omega, by omega, hbY⟩
  · obtain ⟨a1, a2, a3⟩ := h4 c hc
    exact ⟨a1, a2, Nat.lt_of_lt_of_le a3 hg.size⟩

set_option maxRecDepth 100000 in
set_option maxHeartbeats 2000000 in
theorem icco_any (p : Int) (f : Nat → Int) (w : World) :
    Calls Try.prog 50 #[mv p f] w fun e w' => e = .returned (ccV p f) ∧ Below w.heap.size w w' := by
  have HL := fun w => iis_any p f w
  cases hv : isB p f
  · rw [ccV_no hv]
    rw [hv] at HL
    have HL := Lib.hid HL
    simp only [mv, mcells]
    go_enter Try.func50, Try.ntmps50
    go_wp2_with fail
    (refine (HL.out _).mono ?_; rintro e w1 ⟨rfl, hb⟩; obtain ⟨hc, hf⟩ := bcell hb; have hz := hb.size; have Hb := Lib.hid hb; (try simp at hz hc hf); (try (have hy := Nat.lt_of_succ_le hz)); have hz0 : w.heap.size < w1.heap.size := (by omega); clear hb)
    go_wp2_with fail
    go_ret2
    refine ⟨rfl, ?_⟩
    (repeat' (first | (with_reducible exact Below.refl _ _) | (with_reducible refine Below.alloc ?_ ?_ _) | (with_reducible refine Below.setCell ?_ ?_ _) | (with_reducible refine Below.drew ?_) | (with_reducible refine below_drewN ?_ _) | (with_reducible refine Below.trans ?_ (Below.mono (Hid.out (by assumption)) ?_)) | omega | (simp; done) | (simp; omega)))
  obtain ⟨h1, h5⟩ := isB_pts hv
  obtain ⟨n, rfl⟩ := Int.eq_ofNat_of_zero_le (show 0 ≤ p by omega)
  rw [ccV_yes hv]
  rw [hv] at HL
  have HL := Lib.hid HL
  have HV := Lib.hid hv
  have hn1 : 1 ≤ n := by omega
  have hn5 : n ≤ 5 := by omega
  clear hv h1 h5
  refine (callsIn_wide (n := 5)).1 ?_
  refine callsIn_of_wp_marks Try.func50 rfl trivial ?_ rfl
  simp only [Try.ntmps50, List.size_toArray, List.length_cons, List.length_nil, Nat.reduceAdd, Nat.reduceSub, Array.replicate_succ, Array.replicate_zero, List.push_toArray, List.append_toArray, List.nil_append, List.cons_append]
  have hbx : (w.alloc (.cells (mcells (n : Int) f) 28)).heap[w.heap.size]? = some (.cells (mcells (n : Int) f) 28 (0, 0)) := halloc_at _ _ _ rfl
  have HBX := Lib.hid hbx
  clear hbx
  simp only [mv, mcells] at HL
  simp only [mv, mcells]
  gi_wp2_with (first
    | (refine ⟨trivial, ?_⟩; gi_at_call 58; refine (callsIn_wide.2 (HL.out _)).mono ?_; rintro e w1 ⟨rfl, hb⟩; have HB1 := Lib.hid hb; have hz1 := hb.size; (try simp at hz1); have hf1 := (hb.block w.heap.size (by simp)).trans HBX.out; have HF1 := Lib.hid hf1; have y0 := (blk6 hf1).1; have hz2 : w.heap.size < w1.heap.size := (by omega); clear hb hf1)
    | (refine ⟨trivial, ?_⟩; gi_at_call 72; refine (callsIn_wide.2 (mapsOf_any (n : Int) _)).mono ?_; rintro e w2 ⟨rfl, hw2⟩))
  have HC := Lib.hid fun m hm => maps_counted hn1 hn5 m hm (w1.heap.size + 1) w2 (by rw [hw2]; exact halloc_at _ _ _ (by simp))
  have hb2 : Below w.heap.size w w2 := by rw [hw2]; (repeat' (first | (with_reducible exact Below.refl _ _) | (with_reducible refine Below.alloc ?_ ?_ _) | (with_reducible refine Below.setCell ?_ ?_ _) | (with_reducible refine Below.drew ?_) | (with_reducible refine below_drewN ?_ _) | (with_reducible refine Below.trans ?_ (Below.mono (Hid.out (by assumption)) ?_)) | omega | (simp; done) | (simp; omega)))
  have hc0 : w2.heap[w1.heap.size]? = some (.cells #[.int .i64 (ccK n f 0 : Int)] 2 (0, 0)) := by rw [hw2]; exact (halloc_lt _ _ _ (by simp)).trans (halloc_at _ _ _ rfl)
  have hf0 : w2.heap[w.heap.size]? = some (.cells (mcells (n : Int) f) 28 (0, 0)) := by rw [hw2]; exact (halloc_lt _ _ _ (by simp; omega)).trans ((halloc_lt _ _ _ hz2).trans HF1.out)
  have hz3 : w2.heap.size = w1.heap.size + 2 := by rw [hw2]; simp
  have HZ3 := Lib.hid hz3
  have HB2 := Lib.hid hb2
  have HC0 := Lib.hid hc0
  have HF0 := Lib.hid hf0
  have hz4 : w1.heap.size + 1 < w2.heap.size := by omega
  try rw [← hw2]
  clear hw2 hb2 hc0 hf0 y0 hz3
  refine range_counted rfl (by omega) (gf := 101) (lb := #[.pointer (some ⟨w1.heap.size + 1, 0, none⟩)]) rfl trivial (fun _ _ => rfl) (encs := fun k => #[mv (n : Int) (dgF n k)]) (S0 := [w1.heap.size + 1]) (N := n ^ n) (HC.out _ (by omega)) (Below.refl _ _) (fun _ => rfl)
    (CcI n f w.heap.size w1.heap.size w) (ccI_abs n f _ _ w _ (by omega)) (ccI_fresh n f _ _ w) ?start
    (fun k a' W => ∃ Bx, w1.heap.size + 1 < Bx ∧ W.heap[Bx]? = some (.cells (mcells (n : Int) (dgF n k)) 28 (0, 0)) ∧
      a' = { tmps := #[mv (n : Int) f, .pointer (some ⟨w.heap.size, 0, none⟩), .int .i64 0, .int .i64 0, .pointer (some ⟨w1.heap.size, 0, none⟩), .pointer (some ⟨Bx, 0, none⟩), mv (n : Int) f, .bool true, .bool false, .pointer (some ⟨w.heap.size, 0, none⟩), .int .i64 (n : Int),
        .func (.func 101) #[] #[.pointer (some ⟨w1.heap.size + 1, 0, none⟩)], mv (n : Int) (dgF n k), undef, undef, undef, undef, undef, undef, undef], defers := [] })
    ?hax ?assign ?body ?done
  case start =>
    refine ⟨HC0.out, HF0.out, HB2.out, fun b hb => ?_⟩
    have : b = w1.heap.size + 1 := by simpa using hb
    omega
  case hax =>
    rintro k a' _ X Y row ⟨Bx, h1, h2, h3⟩ hg hr
    exact ⟨Bx, h1, (hg.block Bx (Array.getElem?_eq_some_iff.1 h2).1 (fun e => by obtain ⟨_, o, ho, hc⟩ := hr Bx e.symm; rw [h2] at ho; cases ho; cases hc)).trans h2, h3⟩
  case assign =>
    rintro l k S W Kx hk hi hlt hK
    have HK := Lib.hid hK
    clear hi hK
    simp only [mv, mcells]
    gi_wp2
    refine HK.out _ _ ?_ ?_
    · exact World.grownBy_alloc _ _ _
    · exact ⟨W.heap.size, by omega, halloc_at _ _ _ rfl, rfl⟩
  case body =>
    rintro l k S a' W hk ⟨hc, hf, hb, hS⟩ ⟨Bx, hBx, cx, rfl⟩ hlt
    have hc1 : w1.heap.size < W.heap.size := (Array.getElem?_eq_some_iff.1 hc).1
    have hf1 : w.heap.size < W.heap.size := (Array.getElem?_eq_some_iff.1 hf).1
    have hBl : Bx < W.heap.size := (Array.getElem?_eq_some_iff.1 cx).1
    have hcc := ccK_le n f k
    have hk9 : k ≤ 3125 := by have := pow_le hn1 hn5; omega
    obtain ⟨x0, x1, x2, x3, x4, x5⟩ := blk6 cx
    obtain ⟨y0, y1, y2, y3, y4, y5⟩ := blk6 hf
    have HCC := Lib.hid hc
    have HFX := Lib.hid hf
    have HB := Lib.hid hb
    have HS := Lib.hid hS
    have HCO := Lib.hid fun (z : World) hr => icomm_any (n : Int) (dgF n k) (dgF_ok hn1 hn5) [((n : Int), f)] (fun j hj => by
      obtain rfl : j = 0 := by simpa using hj
      exact ⟨rfl, HV.out⟩) (by simp) (some ⟨W.heap.size, 0, none⟩) 1 z hr
    rw [comA_one] at HCO
    simp only [List.length_cons, List.length_nil, Nat.reduceAdd] at HCO
    clear hc hf hb hS cx
    unfold CcI
    cases hcb : comB (n : Int) (dgF n k) f
    · have HST := Lib.hid (ccK_no hcb)
      rw [hcb] at HCO
      clear hcb
      generalize ccK n f (k + 1) = y at *
      generalize ccK n f k = x at *
      generalize dgF n k = g at *
      simp only [mv, mcells] at *
      gi_wp2_with (refine ⟨trivial, ?_⟩; gi_at_call 91; refine (callsIn_wide.2 (HCO.out _ (rowOne (halloc_at _ _ _ rfl)))).mono ?_; rintro e w3 ⟨rfl, hb⟩; have HB3 := Lib.hid (((Below.refl _ _).alloc (Nat.le_refl _) _).trans (hb.mono (by simp))); clear hb)
      refine ⟨HB3.out.size, fun b _ hbW => HB3.out.block b hbW, ?_, (HB3.out.block _ hf1).trans HFX.out, HB.out.trans (HB3.out.mono HB.out.size), fun b hb => ?_⟩
      · rw [HST.out]; exact (HB3.out.block _ hc1).trans HCC.out
      · have q1 := HS.out b hb
        have q2 := HB3.out.size
        omega
    · have HST := Lib.hid (ccK_yes hcb)
      rw [hcb] at HCO
      clear hcb
      generalize ccK n f (k + 1) = y at *
      generalize ccK n f k = x at *
      generalize dgF n k = g at *
      simp only [mv, mcells] at *
      gi_wp2_with (refine ⟨trivial, ?_⟩; gi_at_call 91; refine (callsIn_wide.2 (HCO.out _ (rowOne (halloc_at _ _ _ rfl)))).mono ?_; rintro e w3 ⟨rfl, hb⟩; have HB3 := Lib.hid (((Below.refl _ _).alloc (Nat.le_refl _) _).trans (hb.mono (by simp))); have hc3 := (HB3.out.block _ hc1).trans HCC.out; have e0 := Joins.cell_of_block hc3 0; simp only [List.getElem?_toArray, List.getElem?_cons_zero] at e0; have hfr := Joins.unfrozen_of_block hc3 0; have HC3 := Lib.hid hc3; have hz3 := HB3.out.size; clear hb hc3)
      have hfc : w.heap.size ≠ w1.heap.size := by omega
      refine ⟨by simpa using hz3, fun b hb hbW => (hset_ne _ _ _ _ (HS.out b hb).1).trans (HB3.out.block b hbW), ?_, (hset_ne _ _ _ _ hfc).trans ((HB3.out.block _ hf1).trans HFX.out), (HB.out.trans (HB3.out.mono HB.out.size)).setCell (by simp; omega) _, fun b hb => ?_⟩
      · rw [HST.out]; exact Joins.block_setCell HC3.out _
      · have q1 := HS.out b hb
        simp
        omega
  case done =>
    rintro D S W hD ⟨hc, hf, hb, hS⟩ hDS hK
    have e0 := Joins.cell_of_block hc 0
    simp only [List.getElem?_toArray, List.getElem?_cons_zero] at e0
    have hc1 : w1.heap.size < W.heap.size := (Array.getElem?_eq_some_iff.1 hc).1
    have HB := Lib.hid hb
    have HK := Lib.hid hK
    have hsz := hb.size
    clear hc hf hb hS hK
    gi_wp2
    refine ⟨by simp, .inl ⟨_, _, rfl, run_takeDeferred HK.out, ?_⟩⟩
    refine ⟨_, by simp [results, Try.results50, go_sem], rfl, ?_⟩
    exact HB.out.grown (grownBy_putObj' _ D _) hsz (fun k e => by cases e; omega)

set_option maxRecDepth 100000 in
set_option maxHeartbeats 4000000 in
theorem scco_any (p : Int) (f : Nat → Int) (w : World) :
    Calls Try.prog 49 #[mv p f] w fun e w' => e = .returned (ccV p f) ∧ Below w.heap.size w w' := by
  have HL := fun w => lis_any p f w
  cases hv : isB p f
  · rw [ccV_no hv]
    rw [hv] at HL
    have HL := Lib.hid HL
    simp only [mv, mcells]
    go_enter Try.func49, Try.ntmps49
    go_wp2_with fail
    (refine (HL.out _).mono ?_; rintro e w1 ⟨rfl, hb⟩; obtain ⟨hc, hf⟩ := bcell hb; have hz := hb.size; have Hb := Lib.hid hb; (try simp at hz hc hf); (try (have hy := Nat.lt_of_succ_le hz)); have hz0 : w.heap.size < w1.heap.size := (by omega); clear hb)
    go_wp2_with fail
    go_ret2
    refine ⟨rfl, ?_⟩
    (repeat' (first | (with_reducible exact Below.refl _ _) | (with_reducible refine Below.alloc ?_ ?_ _) | (with_reducible refine Below.setCell ?_ ?_ _) | (with_reducible refine Below.drew ?_) | (with_reducible refine below_drewN ?_ _) | (with_reducible refine Below.trans ?_ (Below.mono (Hid.out (by assumption)) ?_)) | omega | (simp; done) | (simp; omega)))
  obtain ⟨h1, h5⟩ := isB_pts hv
  obtain ⟨n, rfl⟩ := Int.eq_ofNat_of_zero_le (show 0 ≤ p by omega)
  rw [ccV_yes hv]
  rw [hv] at HL
  have HL := Lib.hid HL
  have HV := Lib.hid hv
  have hn1 : 1 ≤ n := by omega
  have hn5 : n ≤ 5 := by omega
  have hN := pow_le hn1 hn5
  have HA := Lib.hid fun w => sall_any n hn1 hn5 w
  have HLEN := Lib.hid (allM_len n (n ^ n))
  have HAT := Lib.hid fun k (h : k < n ^ n) => allM_at (n := n) h z0
  have HT1 := Lib.hid fun k w => times_any (n : Int) (dgF n k) f (dgF_ok hn1 hn5) HV.out w
  have HT2 := Lib.hid fun k w => times_any (n : Int) f (dgF n k) HV.out (dgF_ok hn1 hn5) w
  obtain ⟨N, hNe⟩ : ∃ N, N = n ^ n := ⟨_, rfl⟩
  rw [← hNe] at hN HA HLEN HAT ⊢
  clear hv h1 h5 hNe
  simp only [mv, mcells] at HL
  simp only [mv, mcells]
  go_enter Try.func49, Try.ntmps49
  go_wp2_with fail
  (refine (HL.out _).mono ?_; rintro e w1 ⟨rfl, hb⟩; obtain ⟨hc, hf⟩ := bcell hb; have hz := hb.size; have Hb := Lib.hid hb; (try simp at hz hc hf); (try (have hy := Nat.lt_of_succ_le hz)); have hz0 : w.heap.size < w1.heap.size := (by omega); clear hb)
  have Hb1 := Hb
  go_wp2_with fail
  refine (HA.out _).mono ?_
  rintro e w2 ⟨v, rfl, hown, hb⟩
  obtain ⟨a, cap, rfl, hrd⟩ := ownM_rd hown (by rw [HLEN.out]; omega)
  have HRD := Lib.hid hrd.inRow
  have HB2 := Lib.hid hb
  have hz2 := hb.size
  have hb0 : Below w.heap.size w w2 := by (repeat' (first | (with_reducible exact Below.refl _ _) | (with_reducible refine Below.alloc ?_ ?_ _) | (with_reducible refine Below.setCell ?_ ?_ _) | (with_reducible refine Below.drew ?_) | (with_reducible refine below_drewN ?_ _) | (with_reducible refine Below.trans ?_ (Below.mono (Hid.out (by assumption)) ?_)) | omega | (simp; done) | (simp; omega)))
  have hx0 : w2.heap[w.heap.size]? = some (.cells (mcells (n : Int) f) 28 (0, 0)) := by
    simp only [mcells]
    (repeat' (first | omega | (rw [hdrew]) | (with_reducible assumption) | (with_reducible exact Hid.out (by assumption)) | (with_reducible rfl) | ((with_reducible refine halloc_at _ _ _ ?_) <;> (first | (with_reducible rfl) | omega | (simp; done))) | (with_reducible refine chain6 ?_) | (with_reducible refine Eq.trans (hset_ne _ _ _ _ ?_) ?_) | (with_reducible refine Eq.trans (halloc_lt _ _ _ ?_) ?_) | (with_reducible refine Eq.trans (Below.block (Hid.out (by assumption)) _ ?_) ?_) | (simp; done) | (simp; omega)))
  have hzw : w.heap.size < w2.heap.size := by omega
  have HB0 := Lib.hid hb0
  have HX0 := Lib.hid hx0
  rw [HLEN.out]
  clear hown hrd hb hb0 hx0 hc hf hz hz0 hy Hb
  go_wp2_with fail
  go_loopw [5, 6] (fun s i wr => ∃ k : Nat, k ≤ N ∧ i = .int .i64 k ∧ s = .int .i64 (ccK n f k : Int) ∧ Below w2.heap.size w2 wr) (fun _ i _ => N - (intOf i).toNat)
  case atStart => exact ⟨0, by omega, rfl, rfl, Below.refl _ _⟩
  case round =>
    obtain ⟨k, hk, rfl, rfl, hb⟩ := hrel
    have HBR := Lib.hid hb
    have hsr := hb.size
    have hkl := ccK_le n f k
    by_cases hkN : k < N
    · have hkN' : (k : Int) < (N : Int) := by omega
      obtain ⟨b1, o1, rfl, hl1, hat⟩ := (HRD.out.below hb).at6 k (by rw [HLEN.out]; exact hkN)
      rw [HAT.out k hkN] at hat
      obtain ⟨y0, y1, y2, y3, y4, y5⟩ := hat
      obtain ⟨x0, x1, x2, x3, x4, x5⟩ := blk6 ((hb.block _ hzw).trans HX0.out)
      have hl2 : w.heap.size < wr.heap.size := by omega
      have hq1 := fun z => HT1.out k z
      have hq2 := fun z => HT2.out k z
      have heq := runEqM (n : Int) (mul (n : Int) (dgF n k) f) (n : Int) (mul (n : Int) f (dgF n k))
      have hcb : eqB (n : Int) (mul (n : Int) (dgF n k) f) (n : Int) (mul (n : Int) f (dgF n k)) = comB (n : Int) (dgF n k) f := rfl
      rw [hcb] at heq
      have HYE := Lib.hid fun h => ccK_yes (n := n) (f := f) (k := k) h
      have HNO := Lib.hid fun h => ccK_no (n := n) (f := f) (k := k) h
      clear hb hcb
      generalize comB (n : Int) (dgF n k) f = B at *
      generalize dgF n k = g at *
      generalize mul (n : Int) g f = m1 at *
      generalize mul (n : Int) f g = m2 at *
      simp only [mv, mcells] at hq1 hq2 heq
      have HQ1 := Lib.hid hq1
      have HQ2 := Lib.hid hq2
      clear hq1 hq2
      have r0 : ∀ z, Below wr.heap.size wr z → z.cell? ⟨b1, o1 + k * 6, none⟩ = some (.int .i64 (n : Int)) := fun z h => (h.cell (p := ⟨b1, _, none⟩) hl1).trans y0
      have r1 : ∀ z, Below wr.heap.size wr z → z.cell? ⟨b1, o1 + k * 6 + 1, none⟩ = some (.int .i64 (g 0)) := fun z h => (h.cell (p := ⟨b1, _, none⟩) hl1).trans y1
      have r2 : ∀ z, Below wr.heap.size wr z → z.cell? ⟨b1, o1 + k * 6 + 2, none⟩ = some (.int .i64 (g 1)) := fun z h => (h.cell (p := ⟨b1, _, none⟩) hl1).trans y2
      have r3 : ∀ z, Below wr.heap.size wr z → z.cell? ⟨b1, o1 + k * 6 + 3, none⟩ = some (.int .i64 (g 2)) := fun z h => (h.cell (p := ⟨b1, _, none⟩) hl1).trans y3
      have r4 : ∀ z, Below wr.heap.size wr z → z.cell? ⟨b1, o1 + k * 6 + 4, none⟩ = some (.int .i64 (g 3)) := fun z h => (h.cell (p := ⟨b1, _, none⟩) hl1).trans y4
      have r5 : ∀ z, Below wr.heap.size wr z → z.cell? ⟨b1, o1 + k * 6 + 5, none⟩ = some (.int .i64 (g 4)) := fun z h => (h.cell (p := ⟨b1, _, none⟩) hl1).trans y5
      have q0 : ∀ z, Below wr.heap.size wr z → z.cell? ⟨w.heap.size, 0, none⟩ = some (.int .i64 (n : Int)) := fun z h => (h.cell (p := ⟨w.heap.size, _, none⟩) hl2).trans x0
      have q1 : ∀ z, Below wr.heap.size wr z → z.cell? ⟨w.heap.size, 1, none⟩ = some (.int .i64 (f 0)) := fun z h => (h.cell (p := ⟨w.heap.size, _, none⟩) hl2).trans x1
      have q2 : ∀ z, Below wr.heap.size wr z → z.cell? ⟨w.heap.size, 2, none⟩ = some (.int .i64 (f 1)) := fun z h => (h.cell (p := ⟨w.heap.size, _, none⟩) hl2).trans x2
      have q3 : ∀ z, Below wr.heap.size wr z → z.cell? ⟨w.heap.size, 3, none⟩ = some (.int .i64 (f 2)) := fun z h => (h.cell (p := ⟨w.heap.size, _, none⟩) hl2).trans x3
      have q4 : ∀ z, Below wr.heap.size wr z → z.cell? ⟨w.heap.size, 4, none⟩ = some (.int .i64 (f 3)) := fun z h => (h.cell (p := ⟨w.heap.size, _, none⟩) hl2).trans x4
      have q5 : ∀ z, Below wr.heap.size wr z → z.cell? ⟨w.heap.size, 5, none⟩ = some (.int .i64 (f 4)) := fun z h => (h.cell (p := ⟨w.heap.size, _, none⟩) hl2).trans x5
      clear y0 y1 y2 y3 y4 y5 x0 x1 x2 x3 x4 x5
      cases B with
      | true =>
        have HST := Lib.hid (HYE.out rfl)
        generalize ccK n f k = x at *
        go_upto_region 9 with fail
        go_region_held3 (fun w' => Below wr.heap.size wr w') (first | (with_reducible assumption) | ((repeat' (first | (with_reducible exact Below.refl _ _) | (with_reducible refine Below.alloc ?_ ?_ _) | (with_reducible refine Below.setCell ?_ ?_ _) | (with_reducible refine Below.drew ?_) | (with_reducible refine below_drewN ?_ _) | (with_reducible refine Below.trans ?_ (Below.mono (Hid.out (by assumption)) ?_)) | omega | (simp; done) | (simp; omega))); done)) (first | (go_at_call 78; (with_reducible refine (HQ1.out _).mono ?_); rintro e w1 ⟨rfl, hb⟩; skip; obtain ⟨hc, hf⟩ := bcell hb; have hz := hb.size; have Hb := Lib.hid hb; (try simp at hz hc hf); (try (have hy := Nat.lt_of_succ_le hz)); have hz0 : wr.heap.size ≤ w1.heap.size := (by omega); (try (have hz1 : wr.heap.size < w1.heap.size := (by omega))); clear hb) | (go_at_call 78; (with_reducible refine (HQ2.out _).mono ?_); rintro e w1 ⟨rfl, hb⟩; skip; obtain ⟨hc, hf⟩ := bcell hb; have hz := hb.size; have Hb := Lib.hid hb; (try simp at hz hc hf); (try (have hy := Nat.lt_of_succ_le hz)); have hz0 : wr.heap.size ≤ w1.heap.size := (by omega); (try (have hz1 : wr.heap.size < w1.heap.size := (by omega))); clear hb))
        all_goals
          go_wp2_with fail
          go_roundw
          case rel => exact ⟨k + 1, by omega, by go_num, by rw [HST.out]; rfl, HBR.out.trans (Below.mono (by (repeat' (first | (with_reducible exact Below.refl _ _) | (with_reducible refine Below.alloc ?_ ?_ _) | (with_reducible refine Below.setCell ?_ ?_ _) | (with_reducible refine Below.drew ?_) | (with_reducible refine below_drewN ?_ _) | (with_reducible refine Below.trans ?_ (Below.mono (Hid.out (by assumption)) ?_)) | omega | (simp; done) | (simp; omega)))) hsr)⟩
          case measure => simp [intOf]; omega
      | false =>
        have HST := Lib.hid (HNO.out rfl)
        generalize ccK n f k = x at *
        go_upto_region 9 with fail
        go_region_held3 (fun w' => Below wr.heap.size wr w') (first | (with_reducible assumption) | ((repeat' (first | (with_reducible exact Below.refl _ _) | (with_reducible refine Below.alloc ?_ ?_ _) | (with_reducible refine Below.setCell ?_ ?_ _) | (with_reducible refine Below.drew ?_) | (with_reducible refine below_drewN ?_ _) | (with_reducible refine Below.trans ?_ (Below.mono (Hid.out (by assumption)) ?_)) | omega | (simp; done) | (simp; omega))); done)) (first | (go_at_call 78; (with_reducible refine (HQ1.out _).mono ?_); rintro e w1 ⟨rfl, hb⟩; skip; obtain ⟨hc, hf⟩ := bcell hb; have hz := hb.size; have Hb := Lib.hid hb; (try simp at hz hc hf); (try (have hy := Nat.lt_of_succ_le hz)); have hz0 : wr.heap.size ≤ w1.heap.size := (by omega); (try (have hz1 : wr.heap.size < w1.heap.size := (by omega))); clear hb) | (go_at_call 78; (with_reducible refine (HQ2.out _).mono ?_); rintro e w1 ⟨rfl, hb⟩; skip; obtain ⟨hc, hf⟩ := bcell hb; have hz := hb.size; have Hb := Lib.hid hb; (try simp at hz hc hf); (try (have hy := Nat.lt_of_succ_le hz)); have hz0 : wr.heap.size ≤ w1.heap.size := (by omega); (try (have hz1 : wr.heap.size < w1.heap.size := (by omega))); clear hb))
        all_goals
          go_wp2_with fail
          go_roundw
          case rel => exact ⟨k + 1, by omega, by go_num, by rw [HST.out], HBR.out.trans (Below.mono (by (repeat' (first | (with_reducible exact Below.refl _ _) | (with_reducible refine Below.alloc ?_ ?_ _) | (with_reducible refine Below.setCell ?_ ?_ _) | (with_reducible refine Below.drew ?_) | (with_reducible refine below_drewN ?_ _) | (with_reducible refine Below.trans ?_ (Below.mono (Hid.out (by assumption)) ?_)) | omega | (simp; done) | (simp; omega)))) hsr)⟩
          case measure => simp [intOf]; omega
    · obtain rfl : k = N := by omega
      have hkN' : ¬ ((k : Int) < (k : Int)) := by omega
      clear hb
      go_wp2_with fail
      go_ret2
      exact ⟨rfl, HB0.out.trans (HBR.out.mono (by omega))⟩

end Go.Proofs.Ytfghegjlilcafaa
