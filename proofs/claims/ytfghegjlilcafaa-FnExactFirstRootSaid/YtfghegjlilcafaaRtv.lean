/- The contracts of spec.FirstRoot. -/
import Derived.Test.YtfghegjlilcafaaRtt
import Derived.Deep.DeepCutAuto
namespace Go.Proofs.Ytfghegjlilcafaa
open Go Go.RowKit

theorem rtL_pre (n : Nat) (t : Nat → Int) (K m : Nat) : ∀ d, ∃ r, rtL n t K (m + d) = rtL n t K m ++ r
  | 0 => ⟨[], by simp⟩
  | d + 1 => by
    obtain ⟨r, hr⟩ := rtL_pre n t K m d
    cases hb : rtB n t K (m + d)
    · exact ⟨r, by rw [← Nat.add_assoc, rtL_no hb, hr]⟩
    · exact ⟨r ++ [((n : Int), dgF n (m + d))], by rw [← Nat.add_assoc, rtL_yes hb, hr, List.append_assoc]⟩

set_option maxRecDepth 100000 in
set_option maxHeartbeats 4000000 in
theorem sfrt_any (p : Int) (t : Nat → Int) (k0 : Int) (w : World) :
    Calls Try.prog 45 #[mv p t, .int .i64 k0] w fun e w' => e = .returned (frV p t k0) ∧ Below w.heap.size w w' := by
  have HCD := Lib.hid fun w => scode9_any p t k0 w
  by_cases hC : rtC p t k0 = 0
  rotate_left
  · rw [frV_bad hC]
    have hC2 : (rtC p t k0 != 0) = true := by simpa using hC
    clear hC
    generalize rtC p t k0 = C at *
    simp only [mv, mcells] at *
    go_enter Try.func45, Try.ntmps45
    go_wp2_with fail
    (refine (HCD.out _).mono ?_; rintro e w1 ⟨rfl, hb⟩; obtain ⟨hc, hf⟩ := bcell hb; have hz := hb.size; have Hb := Lib.hid hb; (try simp at hz hc hf); (try (have hy := Nat.lt_of_succ_le hz)); have hz0 : w.heap.size < w1.heap.size := (by omega); have hz1 : w.heap.size + 1 < w1.heap.size := (by omega); clear hb)
    go_wp2_with fail
    refine bodyPost_ret (v := .tuple #[mv 0 fun _ => 0, .int .i64 C]) (by simp [results, Try.results45, go_sem, *]) rfl ⟨rfl, ?_⟩
    (repeat' (first | (with_reducible exact Below.refl _ _) | (with_reducible refine Below.alloc ?_ ?_ _) | (with_reducible refine Below.setCell ?_ ?_ _) | (with_reducible refine Below.drew ?_) | (with_reducible refine below_drewN ?_ _) | (with_reducible refine Below.trans ?_ (Below.mono (Hid.out (by assumption)) ?_)) | omega | (simp; done) | (simp; omega)))
  have hv : isB p t = true := by
    cases hv : isB p t
    · rw [(rtC_1 hv).1] at hC; cases hC
    · rfl
  have hkk : 1 ≤ k0 ∧ k0 ≤ 6 := by
    by_cases hk : 1 ≤ k0 ∧ k0 ≤ 6
    · exact hk
    · rw [(rtC_2 hv hk).1] at hC; cases hC
  obtain ⟨h1, h5⟩ := isB_pts hv
  obtain ⟨n, rfl⟩ := Int.eq_ofNat_of_zero_le (show 0 ≤ p by omega)
  obtain ⟨K, rfl⟩ := Int.eq_ofNat_of_zero_le (show 0 ≤ k0 by omega)
  obtain ⟨hk1, hk6⟩ := hkk
  have hn1 : 1 ≤ n := by omega
  have hn5 : n ≤ 5 := by omega
  have hRR := (rtC_0 hv (show 1 ≤ K by omega) (show K ≤ 6 by omega)).2
  have HNONE := Lib.hid fun h : (rtL n t K (n ^ n)).length = 0 => frV_none hC (by rw [hRR]; exact h)
  have HSOME := Lib.hid fun h : (rtL n t K (n ^ n)).length ≠ 0 => frV_some hC (by rw [hRR]; exact h)
  rw [hRR] at HSOME
  rw [hC] at HCD
  have HV := Lib.hid hv
  have hN := pow_le hn1 hn5
  have HA := Lib.hid fun w => sall_any n hn1 hn5 w
  have HLEN := Lib.hid (allM_len n (n ^ n))
  have HAT := Lib.hid fun k (h : k < n ^ n) => allM_at (n := n) h z0
  have HPW := Lib.hid fun k w => spow_any (n : Int) (dgF n k) (dgF_ok hn1 hn5) (K : Int) (by omega) (by omega) w
  simp only [Int.toNat_natCast] at HPW
  obtain ⟨N, hNe⟩ : ∃ N, N = n ^ n := ⟨_, rfl⟩
  rw [← hNe] at hN HA HLEN HAT HNONE HSOME
  have HNE := Lib.hid hNe
  clear hv h1 h5 hNe hC hRR
  simp only [mv, mcells] at HCD
  simp only [mv, mcells]
  go_enter Try.func45, Try.ntmps45
  go_wp2_with fail
  (refine (HCD.out _).mono ?_; rintro e w1 ⟨rfl, hb⟩; obtain ⟨hc, hf⟩ := bcell hb; have hz := hb.size; have Hb := Lib.hid hb; (try simp at hz hc hf); (try (have hy := Nat.lt_of_succ_le hz)); have hz0 : w.heap.size < w1.heap.size := (by omega); have hz1 : w.heap.size + 1 < w1.heap.size := (by omega); clear hb)
  have Hb1 := Hb
  have BXF : Hid (w1.heap[w.heap.size]? = some (.cells (mcells (n : Int) t) 28 (0, 0))) := Lib.hid (by
    simp only [mcells]
    (repeat' (first | omega | (rw [hdrew]) | (with_reducible assumption) | (with_reducible exact Hid.out (by assumption)) | (with_reducible rfl) | ((with_reducible refine halloc_at _ _ _ ?_) <;> (first | (with_reducible rfl) | omega | (simp; done))) | (with_reducible refine chain6 ?_) | (with_reducible refine Eq.trans (hset_ne _ _ _ _ ?_) ?_) | (with_reducible refine Eq.trans (halloc_lt _ _ _ ?_) ?_) | (with_reducible refine Eq.trans (Below.block (Hid.out (by assumption)) _ ?_) ?_) | (simp; done) | (simp; omega))))
  have BXZ : Hid (w1.heap[w.heap.size + 1]? = some (.cells (mcells 0 fun _ => 0) 28 (0, 0))) := Lib.hid (by
    simp only [mcells]
    (repeat' (first | omega | (rw [hdrew]) | (with_reducible assumption) | (with_reducible exact Hid.out (by assumption)) | (with_reducible rfl) | ((with_reducible refine halloc_at _ _ _ ?_) <;> (first | (with_reducible rfl) | omega | (simp; done))) | (with_reducible refine chain6 ?_) | (with_reducible refine Eq.trans (hset_ne _ _ _ _ ?_) ?_) | (with_reducible refine Eq.trans (halloc_lt _ _ _ ?_) ?_) | (with_reducible refine Eq.trans (Below.block (Hid.out (by assumption)) _ ?_) ?_) | (simp; done) | (simp; omega))))
  have e0 := (blk6 BXF.out).1
  go_wp2_with fail
  refine (HA.out _).mono ?_
  rintro e w2 ⟨v, rfl, hown, hb⟩
  obtain ⟨a, cap, rfl, hrd⟩ := ownM_rd hown (by rw [HLEN.out]; omega)
  have HRD := Lib.hid hrd.inRow
  have HB2 := Lib.hid hb
  have hz2 := hb.size
  have hb0 : Below w.heap.size w w2 := by (repeat' (first | (with_reducible exact Below.refl _ _) | (with_reducible refine Below.alloc ?_ ?_ _) | (with_reducible refine Below.setCell ?_ ?_ _) | (with_reducible refine Below.drew ?_) | (with_reducible refine below_drewN ?_ _) | (with_reducible refine Below.trans ?_ (Below.mono (Hid.out (by assumption)) ?_)) | omega | (simp; done) | (simp; omega)))
  have hx0 : w2.heap[w.heap.size]? = some (.cells (mcells (n : Int) t) 28 (0, 0)) := (hb.block _ (by omega)).trans BXF.out
  have hzw : w.heap.size < w2.heap.size := by omega
  have hx1 : w2.heap[w.heap.size + 1]? = some (.cells (mcells 0 fun _ => 0) 28 (0, 0)) := (hb.block _ (by omega)).trans BXZ.out
  have HX1 := Lib.hid hx1
  have hzw1 : w.heap.size + 1 < w2.heap.size := by omega
  clear hx1
  have HB0 := Lib.hid hb0
  have HX0 := Lib.hid hx0
  rw [HLEN.out]
  clear hown hrd hb hb0 hx0 hc hf hz hz0 hy Hb e0
  go_wp2_with fail
  go_loopw [8] (fun i wr => ∃ k : Nat, k ≤ N ∧ i = .int .i64 k ∧ (rtL n t K k).length = 0 ∧ Below w2.heap.size w2 wr) (fun i _ => N - (intOf i).toNat)
  case atStart => exact ⟨0, by omega, rfl, rfl, Below.refl _ _⟩
  case round =>
    obtain ⟨k, hk, rfl, hzl, hb⟩ := hrel
    have HZL := Lib.hid hzl
    clear hzl
    have HBR := Lib.hid hb
    have hsr := hb.size
    by_cases hkN : k < N
    · have hkN' : (k : Int) < (N : Int) := by omega
      obtain ⟨b1, o1, rfl, hl1, hat⟩ := (HRD.out.below hb).at6 k (by rw [HLEN.out]; exact hkN)
      rw [HAT.out k hkN] at hat
      obtain ⟨y0, y1, y2, y3, y4, y5⟩ := hat
      obtain ⟨x0, x1, x2, x3, x4, x5⟩ := blk6 ((hb.block _ hzw).trans HX0.out)
      have hl2 : w.heap.size < wr.heap.size := by omega
      have hq1 := fun z => HPW.out k z
      have heq := runEqM (n : Int) (pow (n : Int) (dgF n k) K) (n : Int) t
      have hcb : eqB (n : Int) (pow (n : Int) (dgF n k) K) (n : Int) t = rtB n t K k := rfl
      rw [hcb] at heq
      have HYE := Lib.hid fun h => rtL_yes (n := n) (t := t) (k := K) (m := k) h
      have HNO := Lib.hid fun h => rtL_no (n := n) (t := t) (k := K) (m := k) h
      clear hb hcb
      generalize rtB n t K k = B at *
      obtain ⟨G, hG⟩ : ∃ G : MapN, G = ((n : Int), dgF n k) := ⟨_, rfl⟩
      rw [← hG] at HYE
      have HGG : Hid (G.1 = (n : Int) ∧ G.2 = dgF n k) := Lib.hid (by rw [hG]; exact ⟨rfl, rfl⟩)
      clear hG
      generalize pow (n : Int) (dgF n k) K = m1 at *
      generalize dgF n k = g at *
      simp only [mv, mcells] at hq1 heq
      have HQ1 := Lib.hid hq1
      clear hq1
      have r0 : ∀ z, Below wr.heap.size wr z → z.cell? ⟨b1, o1 + k * 6, none⟩ = some (.int .i64 (n : Int)) := fun z h => (h.cell (p := ⟨b1, _, none⟩) hl1).trans y0
      have r1 : ∀ z, Below wr.heap.size wr z → z.cell? ⟨b1, o1 + k * 6 + 1, none⟩ = some (.int .i64 (g 0)) := fun z h => (h.cell (p := ⟨b1, _, none⟩) hl1).trans y1
      have r2 : ∀ z, Below wr.heap.size wr z → z.cell? ⟨b1, o1 + k * 6 + 2, none⟩ = some (.int .i64 (g 1)) := fun z h => (h.cell (p := ⟨b1, _, none⟩) hl1).trans y2
      have r3 : ∀ z, Below wr.heap.size wr z → z.cell? ⟨b1, o1 + k * 6 + 3, none⟩ = some (.int .i64 (g 2)) := fun z h => (h.cell (p := ⟨b1, _, none⟩) hl1).trans y3
      have r4 : ∀ z, Below wr.heap.size wr z → z.cell? ⟨b1, o1 + k * 6 + 4, none⟩ = some (.int .i64 (g 3)) := fun z h => (h.cell (p := ⟨b1, _, none⟩) hl1).trans y4
      have r5 : ∀ z, Below wr.heap.size wr z → z.cell? ⟨b1, o1 + k * 6 + 5, none⟩ = some (.int .i64 (g 4)) := fun z h => (h.cell (p := ⟨b1, _, none⟩) hl1).trans y5
      have q0 : ∀ z, Below wr.heap.size wr z → z.cell? ⟨w.heap.size, 0, none⟩ = some (.int .i64 (n : Int)) := fun z h => (h.cell (p := ⟨w.heap.size, _, none⟩) hl2).trans x0
      have q1 : ∀ z, Below wr.heap.size wr z → z.cell? ⟨w.heap.size, 1, none⟩ = some (.int .i64 (t 0)) := fun z h => (h.cell (p := ⟨w.heap.size, _, none⟩) hl2).trans x1
      have q2 : ∀ z, Below wr.heap.size wr z → z.cell? ⟨w.heap.size, 2, none⟩ = some (.int .i64 (t 1)) := fun z h => (h.cell (p := ⟨w.heap.size, _, none⟩) hl2).trans x2
      have q3 : ∀ z, Below wr.heap.size wr z → z.cell? ⟨w.heap.size, 3, none⟩ = some (.int .i64 (t 2)) := fun z h => (h.cell (p := ⟨w.heap.size, _, none⟩) hl2).trans x3
      have q4 : ∀ z, Below wr.heap.size wr z → z.cell? ⟨w.heap.size, 4, none⟩ = some (.int .i64 (t 3)) := fun z h => (h.cell (p := ⟨w.heap.size, _, none⟩) hl2).trans x4
      have q5 : ∀ z, Below wr.heap.size wr z → z.cell? ⟨w.heap.size, 5, none⟩ = some (.int .i64 (t 4)) := fun z h => (h.cell (p := ⟨w.heap.size, _, none⟩) hl2).trans x5
      have s9 : ∀ z, Below wr.heap.size wr z → z.heap[w.heap.size + 1]? = some (.cells (mcells 0 fun _ => 0) 28 (0, 0)) := fun z h => (h.block _ (by omega)).trans ((HBR.out.block _ hzw1).trans HX1.out)
      have s0 : ∀ z, Below wr.heap.size wr z → z.cell? ⟨w.heap.size + 1, 0, none⟩ = some (.int .i64 0) := fun z h => (blk6 (s9 z h)).1
      have s1 : ∀ z, Below wr.heap.size wr z → z.cell? ⟨w.heap.size + 1, 1, none⟩ = some (.int .i64 0) := fun z h => (blk6 (s9 z h)).2.1
      have s2 : ∀ z, Below wr.heap.size wr z → z.cell? ⟨w.heap.size + 1, 2, none⟩ = some (.int .i64 0) := fun z h => (blk6 (s9 z h)).2.2.1
      have s3 : ∀ z, Below wr.heap.size wr z → z.cell? ⟨w.heap.size + 1, 3, none⟩ = some (.int .i64 0) := fun z h => (blk6 (s9 z h)).2.2.2.1
      have s4 : ∀ z, Below wr.heap.size wr z → z.cell? ⟨w.heap.size + 1, 4, none⟩ = some (.int .i64 0) := fun z h => (blk6 (s9 z h)).2.2.2.2.1
      have s5 : ∀ z, Below wr.heap.size wr z → z.cell? ⟨w.heap.size + 1, 5, none⟩ = some (.int .i64 0) := fun z h => (blk6 (s9 z h)).2.2.2.2.2
      have sf : ∀ z i, Below wr.heap.size wr z → z.frozen? ⟨w.heap.size + 1, i, none⟩ = false := fun z i h => blk_free (s9 z h) i
      have HS9 := Lib.hid s9
      clear y0 y1 y2 y3 y4 y5 x0 x1 x2 x3 x4 x5 s9
      cases B with
      | true =>
        have HV1 : Hid (frV (n : Int) t (K : Int) = .tuple #[mv (n : Int) g, .int .i64 0]) := Lib.hid (by
          obtain ⟨r, hr⟩ := rtL_pre n t K (k + 1) (N - (k + 1))
          have h0 : rtL n t K k = [] := List.length_eq_zero_iff.1 HZL.out
          rw [show k + 1 + (N - (k + 1)) = N by omega, HYE.out rfl, h0] at hr
          have h3 := HSOME.out (by rw [hr]; simp)
          rw [hr] at h3
          rw [h3]
          show Value.tuple #[mv G.1 G.2, .int .i64 0] = _
          rw [HGG.out.1, HGG.out.2])
        go_upto_region 8 with fail
        go_region_held3 (fun w' => Below wr.heap.size wr w') (first | (with_reducible assumption) | ((repeat' (first | (with_reducible exact Below.refl _ _) | (with_reducible refine Below.alloc ?_ ?_ _) | (with_reducible refine Below.setCell ?_ ?_ _) | (with_reducible refine Below.drew ?_) | (with_reducible refine below_drewN ?_ _) | (with_reducible refine Below.trans ?_ (Below.mono (Hid.out (by assumption)) ?_)) | omega | (simp; done) | (simp; omega))); done)) (first | (go_at_call 56; (with_reducible refine (HQ1.out _).mono ?_); rintro e w1 ⟨rfl, hb⟩; skip; obtain ⟨hc, hf⟩ := bcell hb; have hz := hb.size; have Hb := Lib.hid hb; (try simp at hz hc hf); (try (have hy := Nat.lt_of_succ_le hz)); have hz0 : wr.heap.size ≤ w1.heap.size := (by omega); (try (have hz1 : wr.heap.size < w1.heap.size := (by omega))); clear hb))
        all_goals
          go_wp2_with fail
          refine bodyPost_ret (v := .tuple #[mv (n : Int) g, .int .i64 0]) (by simp [results, Try.results45, go_sem, *]) rfl ⟨by rw [HV1.out], ?_⟩
          have HBF := Lib.hid (HB0.out.trans (HBR.out.mono (by omega)))
          (repeat' (first | (with_reducible exact Below.refl _ _) | (with_reducible refine Below.alloc ?_ ?_ _) | (with_reducible refine Below.setCell ?_ ?_ _) | (with_reducible refine Below.drew ?_) | (with_reducible refine below_drewN ?_ _) | (with_reducible refine Below.trans ?_ (Below.mono (Hid.out (by assumption)) ?_)) | omega | (simp; done) | (simp; omega)))
      | false =>
        clear s0 s1 s2 s3 s4 s5 sf
        have HST : Hid ((rtL n t K (k + 1)).length = 0) := Lib.hid (by rw [HNO.out rfl]; exact HZL.out)
        go_upto_region 8 with fail
        go_region_held3 (fun w' => Below wr.heap.size wr w') (first | (with_reducible assumption) | ((repeat' (first | (with_reducible exact Below.refl _ _) | (with_reducible refine Below.alloc ?_ ?_ _) | (with_reducible refine Below.setCell ?_ ?_ _) | (with_reducible refine Below.drew ?_) | (with_reducible refine below_drewN ?_ _) | (with_reducible refine Below.trans ?_ (Below.mono (Hid.out (by assumption)) ?_)) | omega | (simp; done) | (simp; omega))); done)) (first | (go_at_call 56; (with_reducible refine (HQ1.out _).mono ?_); rintro e w1 ⟨rfl, hb⟩; skip; obtain ⟨hc, hf⟩ := bcell hb; have hz := hb.size; have Hb := Lib.hid hb; (try simp at hz hc hf); (try (have hy := Nat.lt_of_succ_le hz)); have hz0 : wr.heap.size ≤ w1.heap.size := (by omega); (try (have hz1 : wr.heap.size < w1.heap.size := (by omega))); clear hb))
        all_goals
          go_wp2_with fail
          go_roundw
          case rel => exact ⟨k + 1, by omega, by go_num, HST.out, HBR.out.trans (Below.mono (by (repeat' (first | (with_reducible exact Below.refl _ _) | (with_reducible refine Below.alloc ?_ ?_ _) | (with_reducible refine Below.setCell ?_ ?_ _) | (with_reducible refine Below.drew ?_) | (with_reducible refine below_drewN ?_ _) | (with_reducible refine Below.trans ?_ (Below.mono (Hid.out (by assumption)) ?_)) | omega | (simp; done) | (simp; omega)))) hsr)⟩
          case measure => simp [intOf]; omega
    · obtain rfl : k = N := by omega
      have hkN' : ¬ ((k : Int) < (k : Int)) := by omega
      have HV1 := Lib.hid (HNONE.out HZL.out)
      have hx := (HBR.out.block _ hzw1).trans HX1.out
      obtain ⟨e0, e1, e2, e3, e4, e5⟩ := blk6 hx
      have hfr := blk_free hx
      have hzz : w.heap.size + 1 < wr.heap.size := (Array.getElem?_eq_some_iff.1 hx).1
      clear hb hx
      go_wp2_with fail
      refine bodyPost_ret (v := .tuple #[mv 0 fun _ => 0, .int .i64 4]) (by simp [results, Try.results45, go_sem, *]) rfl ⟨by rw [HV1.out], ?_⟩
      have HBF := Lib.hid (HB0.out.trans (HBR.out.mono (by omega)))
      (repeat' (first | (with_reducible exact Below.refl _ _) | (with_reducible refine Below.alloc ?_ ?_ _) | (with_reducible refine Below.setCell ?_ ?_ _) | (with_reducible refine Below.drew ?_) | (with_reducible refine below_drewN ?_ _) | (with_reducible refine Below.trans ?_ (Below.mono (Hid.out (by assumption)) ?_)) | omega | (simp; done) | (simp; omega)))

end Go.Proofs.Ytfghegjlilcafaa
