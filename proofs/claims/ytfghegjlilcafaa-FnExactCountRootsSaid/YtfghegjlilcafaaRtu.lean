/- The contracts of spec.CountRoots. -/
import Derived.Test.YtfghegjlilcafaaRtt
import Derived.Deep.DeepCutAuto
namespace Go.Proofs.Ytfghegjlilcafaa
open Go Go.RowKit

set_option maxRecDepth 100000 in
set_option maxHeartbeats 4000000 in
theorem scrt_any (p : Int) (t : Nat → Int) (k0 : Int) (w : World) :
    Calls Try.prog 47 #[mv p t, .int .i64 k0] w fun e w' => e = .returned (rtV p t k0) ∧ Below w.heap.size w w' := by
  have HCD := Lib.hid fun w => scode9_any p t k0 w
  by_cases hC : rtC p t k0 = 0
  rotate_left
  · rw [show rtV p t k0 = .tuple #[.int .i64 0, .int .i64 (rtC p t k0)] by unfold rtV; rw [rtR_bad hC]; rfl]
    have hC2 : (rtC p t k0 != 0) = true := by simpa using hC
    clear hC
    generalize rtC p t k0 = C at *
    simp only [mv, mcells] at *
    go_enter Try.func47, Try.ntmps47
    go_wp2_with fail
    (refine (HCD.out _).mono ?_; rintro e w1 ⟨rfl, hb⟩; obtain ⟨hc, hf⟩ := bcell hb; have hz := hb.size; have Hb := Lib.hid hb; (try simp at hz hc hf); (try (have hy := Nat.lt_of_succ_le hz)); have hz0 : w.heap.size < w1.heap.size := (by omega); clear hb)
    go_wp2_with fail
    go_ret2
    refine ⟨rfl, ?_⟩
    (repeat' (first | (with_reducible exact Below.refl _ _) | (with_reducible refine Below.alloc ?_ ?_ _) | (with_reducible refine Below.setCell ?_ ?_ _) | (with_reducible refine Below.drew ?_) | (with_reducible refine below_drewN ?_ _) | (with_reducible refine Below.trans ?_ (Below.mono (Hid.out (by assumption)) ?_)) | omega | (simp; done) | (simp; omega)))
  have hv : isB p t = true := by
    cases hv : isB p t
    · rw [(rtC_1 hv).1] at hC; cases hC
    · rfl
  have hkk : 1 ≤ k0 ∧ k0 ≤ 6 := by
    by_cases hk : 1 ≤ k0 ∧ k0 ≤ 6
    · exact hk
    · rw [(rtC_2 hv hk).1] at hC; cases hC
  obtain ⟨h1, h5⟩ := isB_pts hv
  obtain ⟨n, rfl⟩ := Int.eq_ofNat_of_zero_le (show 0 ≤ p by omega)
  obtain ⟨K, rfl⟩ := Int.eq_ofNat_of_zero_le (show 0 ≤ k0 by omega)
  obtain ⟨hk1, hk6⟩ := hkk
  have hn1 : 1 ≤ n := by omega
  have hn5 : n ≤ 5 := by omega
  have hRR := (rtC_0 hv (show 1 ≤ K by omega) (show K ≤ 6 by omega)).2
  rw [show rtV (n : Int) t (K : Int) = .tuple #[.int .i64 ((rtL n t K (n ^ n)).length : Int), .int .i64 0] by unfold rtV; rw [hRR, hC]]
  rw [hC] at HCD
  have HV := Lib.hid hv
  have hN := pow_le hn1 hn5
  have HA := Lib.hid fun w => sall_any n hn1 hn5 w
  have HLEN := Lib.hid (allM_len n (n ^ n))
  have HAT := Lib.hid fun k (h : k < n ^ n) => allM_at (n := n) h z0
  have HPW := Lib.hid fun k w => spow_any (n : Int) (dgF n k) (dgF_ok hn1 hn5) (K : Int) (by omega) (by omega) w
  simp only [Int.toNat_natCast] at HPW
  obtain ⟨N, hNe⟩ : ∃ N, N = n ^ n := ⟨_, rfl⟩
  rw [← hNe] at hN HA HLEN HAT ⊢
  clear hv h1 h5 hNe hC hRR
  simp only [mv, mcells] at HCD
  simp only [mv, mcells]
  go_enter Try.func47, Try.ntmps47
  go_wp2_with fail
  (refine (HCD.out _).mono ?_; rintro e w1 ⟨rfl, hb⟩; obtain ⟨hc, hf⟩ := bcell hb; have hz := hb.size; have Hb := Lib.hid hb; (try simp at hz hc hf); (try (have hy := Nat.lt_of_succ_le hz)); have hz0 : w.heap.size < w1.heap.size := (by omega); clear hb)
  have Hb1 := Hb
  have BXF : Hid (w1.heap[w.heap.size]? = some (.cells (mcells (n : Int) t) 28 (0, 0))) := Lib.hid (by
    simp only [mcells]
    (repeat' (first | omega | (rw [hdrew]) | (with_reducible assumption) | (with_reducible exact Hid.out (by assumption)) | (with_reducible rfl) | ((with_reducible refine halloc_at _ _ _ ?_) <;> (first | (with_reducible rfl) | omega | (simp; done))) | (with_reducible refine chain6 ?_) | (with_reducible refine Eq.trans (hset_ne _ _ _ _ ?_) ?_) | (with_reducible refine Eq.trans (halloc_lt _ _ _ ?_) ?_) | (with_reducible refine Eq.trans (Below.block (Hid.out (by assumption)) _ ?_) ?_) | (simp; done) | (simp; omega))))
  have e0 := (blk6 BXF.out).1
  go_wp2_with fail
  refine (HA.out _).mono ?_
  rintro e w2 ⟨v, rfl, hown, hb⟩
  obtain ⟨a, cap, rfl, hrd⟩ := ownM_rd hown (by rw [HLEN.out]; omega)
  have HRD := Lib.hid hrd.inRow
  have HB2 := Lib.hid hb
  have hz2 := hb.size
  have hb0 : Below w.heap.size w w2 := by (repeat' (first | (with_reducible exact Below.refl _ _) | (with_reducible refine Below.alloc ?_ ?_ _) | (with_reducible refine Below.setCell ?_ ?_ _) | (with_reducible refine Below.drew ?_) | (with_reducible refine below_drewN ?_ _) | (with_reducible refine Below.trans ?_ (Below.mono (Hid.out (by assumption)) ?_)) | omega | (simp; done) | (simp; omega)))
  have hx0 : w2.heap[w.heap.size]? = some (.cells (mcells (n : Int) t) 28 (0, 0)) := (hb.block _ (by omega)).trans BXF.out
  have hzw : w.heap.size < w2.heap.size := by omega
  have HB0 := Lib.hid hb0
  have HX0 := Lib.hid hx0
  rw [HLEN.out]
  clear hown hrd hb hb0 hx0 hc hf hz hz0 hy Hb e0
  go_wp2_with fail
  go_loopw [8, 9] (fun s i wr => ∃ k : Nat, k ≤ N ∧ i = .int .i64 k ∧ s = .int .i64 ((rtL n t K k).length : Int) ∧ Below w2.heap.size w2 wr) (fun _ i _ => N - (intOf i).toNat)
  case atStart => exact ⟨0, by omega, rfl, rfl, Below.refl _ _⟩
  case round =>
    obtain ⟨k, hk, rfl, rfl, hb⟩ := hrel
    have hkl := rtL_le n t K k
    have HBR := Lib.hid hb
    have hsr := hb.size
    by_cases hkN : k < N
    · have hkN' : (k : Int) < (N : Int) := by omega
      obtain ⟨b1, o1, rfl, hl1, hat⟩ := (HRD.out.below hb).at6 k (by rw [HLEN.out]; exact hkN)
      rw [HAT.out k hkN] at hat
      obtain ⟨y0, y1, y2, y3, y4, y5⟩ := hat
      obtain ⟨x0, x1, x2, x3, x4, x5⟩ := blk6 ((hb.block _ hzw).trans HX0.out)
      have hl2 : w.heap.size < wr.heap.size := by omega
      have hq1 := fun z => HPW.out k z
      have heq := runEqM (n : Int) (pow (n : Int) (dgF n k) K) (n : Int) t
      have hcb : eqB (n : Int) (pow (n : Int) (dgF n k) K) (n : Int) t = rtB n t K k := rfl
      rw [hcb] at heq
      have HYE := Lib.hid fun h => rtL_yes (n := n) (t := t) (k := K) (m := k) h
      have HNO := Lib.hid fun h => rtL_no (n := n) (t := t) (k := K) (m := k) h
      clear hb hcb
      generalize rtB n t K k = B at *
      generalize pow (n : Int) (dgF n k) K = m1 at *
      generalize dgF n k = g at *
      simp only [mv, mcells] at hq1 heq
      have HQ1 := Lib.hid hq1
      clear hq1
      have r0 : ∀ z, Below wr.heap.size wr z → z.cell? ⟨b1, o1 + k * 6, none⟩ = some (.int .i64 (n : Int)) := fun z h => (h.cell (p := ⟨b1, _, none⟩) hl1).trans y0
      have r1 : ∀ z, Below wr.heap.size wr z → z.cell? ⟨b1, o1 + k * 6 + 1, none⟩ = some (.int .i64 (g 0)) := fun z h => (h.cell (p := ⟨b1, _, none⟩) hl1).trans y1
      have r2 : ∀ z, Below wr.heap.size wr z → z.cell? ⟨b1, o1 + k * 6 + 2, none⟩ = some (.int .i64 (g 1)) := fun z h => (h.cell (p := ⟨b1, _, none⟩) hl1).trans y2
      have r3 : ∀ z, Below wr.heap.size wr z → z.cell? ⟨b1, o1 + k * 6 + 3, none⟩ = some (.int .i64 (g 2)) := fun z h => (h.cell (p := ⟨b1, _, none⟩) hl1).trans y3
      have r4 : ∀ z, Below wr.heap.size wr z → z.cell? ⟨b1, o1 + k * 6 + 4, none⟩ = some (.int .i64 (g 3)) := fun z h => (h.cell (p := ⟨b1, _, none⟩) hl1).trans y4
      have r5 : ∀ z, Below wr.heap.size wr z → z.cell? ⟨b1, o1 + k * 6 + 5, none⟩ = some (.int .i64 (g 4)) := fun z h => (h.cell (p := ⟨b1, _, none⟩) hl1).trans y5
      have q0 : ∀ z, Below wr.heap.size wr z → z.cell? ⟨w.heap.size, 0, none⟩ = some (.int .i64 (n : Int)) := fun z h => (h.cell (p := ⟨w.heap.size, _, none⟩) hl2).trans x0
      have q1 : ∀ z, Below wr.heap.size wr z → z.cell? ⟨w.heap.size, 1, none⟩ = some (.int .i64 (t 0)) := fun z h => (h.cell (p := ⟨w.heap.size, _, none⟩) hl2).trans x1
      have q2 : ∀ z, Below wr.heap.size wr z → z.cell? ⟨w.heap.size, 2, none⟩ = some (.int .i64 (t 1)) := fun z h => (h.cell (p := ⟨w.heap.size, _, none⟩) hl2).trans x2
      have q3 : ∀ z, Below wr.heap.size wr z → z.cell? ⟨w.heap.size, 3, none⟩ = some (.int .i64 (t 2)) := fun z h => (h.cell (p := ⟨w.heap.size, _, none⟩) hl2).trans x3
      have q4 : ∀ z, Below wr.heap.size wr z → z.cell? ⟨w.heap.size, 4, none⟩ = some (.int .i64 (t 3)) := fun z h => (h.cell (p := ⟨w.heap.size, _, none⟩) hl2).trans x4
      have q5 : ∀ z, Below wr.heap.size wr z → z.cell? ⟨w.heap.size, 5, none⟩ = some (.int .i64 (t 4)) := fun z h => (h.cell (p := ⟨w.heap.size, _, none⟩) hl2).trans x5
      clear y0 y1 y2 y3 y4 y5 x0 x1 x2 x3 x4 x5
      cases B with
      | true =>
        have HST : Hid ((rtL n t K (k + 1)).length = (rtL n t K k).length + 1) := Lib.hid (by rw [HYE.out rfl, List.length_append]; rfl)
        generalize (rtL n t K k).length = x at *
        obtain ⟨y, hy⟩ : ∃ y, y = (rtL n t K (k + 1)).length := ⟨_, rfl⟩
        rw [← hy] at HST
        have HYY := Lib.hid hy
        clear hy
        go_upto_region 8 with fail
        go_region_held3 (fun w' => Below wr.heap.size wr w') (first | (with_reducible assumption) | ((repeat' (first | (with_reducible exact Below.refl _ _) | (with_reducible refine Below.alloc ?_ ?_ _) | (with_reducible refine Below.setCell ?_ ?_ _) | (with_reducible refine Below.drew ?_) | (with_reducible refine below_drewN ?_ _) | (with_reducible refine Below.trans ?_ (Below.mono (Hid.out (by assumption)) ?_)) | omega | (simp; done) | (simp; omega))); done)) (first | (go_at_call 56; (with_reducible refine (HQ1.out _).mono ?_); rintro e w1 ⟨rfl, hb⟩; skip; obtain ⟨hc, hf⟩ := bcell hb; have hz := hb.size; have Hb := Lib.hid hb; (try simp at hz hc hf); (try (have hy := Nat.lt_of_succ_le hz)); have hz0 : wr.heap.size ≤ w1.heap.size := (by omega); (try (have hz1 : wr.heap.size < w1.heap.size := (by omega))); clear hb))
        all_goals
          go_wp2_with fail
          go_roundw
          case rel => exact ⟨k + 1, by omega, by go_num, by rw [← HYY.out, HST.out]; rfl, HBR.out.trans (Below.mono (by (repeat' (first | (with_reducible exact Below.refl _ _) | (with_reducible refine Below.alloc ?_ ?_ _) | (with_reducible refine Below.setCell ?_ ?_ _) | (with_reducible refine Below.drew ?_) | (with_reducible refine below_drewN ?_ _) | (with_reducible refine Below.trans ?_ (Below.mono (Hid.out (by assumption)) ?_)) | omega | (simp; done) | (simp; omega)))) hsr)⟩
          case measure => simp [intOf]; omega
      | false =>
        have HST : Hid ((rtL n t K (k + 1)).length = (rtL n t K k).length) := Lib.hid (by rw [HNO.out rfl])
        generalize (rtL n t K k).length = x at *
        go_upto_region 8 with fail
        go_region_held3 (fun w' => Below wr.heap.size wr w') (first | (with_reducible assumption) | ((repeat' (first | (with_reducible exact Below.refl _ _) | (with_reducible refine Below.alloc ?_ ?_ _) | (with_reducible refine Below.setCell ?_ ?_ _) | (with_reducible refine Below.drew ?_) | (with_reducible refine below_drewN ?_ _) | (with_reducible refine Below.trans ?_ (Below.mono (Hid.out (by assumption)) ?_)) | omega | (simp; done) | (simp; omega))); done)) (first | (go_at_call 56; (with_reducible refine (HQ1.out _).mono ?_); rintro e w1 ⟨rfl, hb⟩; skip; obtain ⟨hc, hf⟩ := bcell hb; have hz := hb.size; have Hb := Lib.hid hb; (try simp at hz hc hf); (try (have hy := Nat.lt_of_succ_le hz)); have hz0 : wr.heap.size ≤ w1.heap.size := (by omega); (try (have hz1 : wr.heap.size < w1.heap.size := (by omega))); clear hb))
        all_goals
          go_wp2_with fail
          go_roundw
          case rel => exact ⟨k + 1, by omega, by go_num, by rw [HST.out], HBR.out.trans (Below.mono (by (repeat' (first | (with_reducible exact Below.refl _ _) | (with_reducible refine Below.alloc ?_ ?_ _) | (with_reducible refine Below.setCell ?_ ?_ _) | (with_reducible refine Below.drew ?_) | (with_reducible refine below_drewN ?_ _) | (with_reducible refine Below.trans ?_ (Below.mono (Hid.out (by assumption)) ?_)) | omega | (simp; done) | (simp; omega)))) hsr)⟩
          case measure => simp [intOf]; omega
    · obtain rfl : k = N := by omega
      have hkN' : ¬ ((k : Int) < (k : Int)) := by omega
      clear hb
      go_wp2_with fail
      go_ret2
      exact ⟨rfl, HB0.out.trans (HBR.out.mono (by omega))⟩

end Go.Proofs.Ytfghegjlilcafaa
