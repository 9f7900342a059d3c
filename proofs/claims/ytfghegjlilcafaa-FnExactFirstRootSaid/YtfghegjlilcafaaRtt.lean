/- The contracts of impl.CountRoots, impl.FirstRoot, spec.l09Code, spec.CountRoots and spec.FirstRoot. -/
import Derived.Test.YtfghegjlilcafaaRts
import Derived.Test.YtfghegjlilcafaaChk
import Derived.Deep.RegionHeld3
namespace Go.Proofs.Ytfghegjlilcafaa
open Go Go.RowKit

def rtV (p : Int) (t : Nat → Int) (k : Int) : Value := .tuple #[.int .i64 ((rtR p t k).length : Int), .int .i64 (rtC p t k)]
def frH (p : Int) (t : Nat → Int) (k : Int) : MapN := (rtR p t k).getD 0 z0
def frC (p : Int) (t : Nat → Int) (k : Int) : Int := if rtC p t k = 0 then (if (rtR p t k).length = 0 then 4 else 0) else rtC p t k
def frV (p : Int) (t : Nat → Int) (k : Int) : Value := .tuple #[mv (frH p t k).1 (frH p t k).2, .int .i64 (frC p t k)]
theorem rtR_bad {p : Int} {t : Nat → Int} {k : Int} (h : rtC p t k ≠ 0) : rtR p t k = [] := by unfold rtR; rw [if_neg h]
theorem frV_bad {p : Int} {t : Nat → Int} {k : Int} (h : rtC p t k ≠ 0) : frV p t k = .tuple #[mv 0 fun _ => 0, .int .i64 (rtC p t k)] := by
  unfold frV frH frC; rw [if_neg h, rtR_bad h]; rfl
theorem frV_none {p : Int} {t : Nat → Int} {k : Int} (h : rtC p t k = 0) (h2 : (rtR p t k).length = 0) : frV p t k = .tuple #[mv 0 fun _ => 0, .int .i64 4] := by
  unfold frV frH frC; rw [if_pos h, if_pos h2, List.length_eq_zero_iff.1 h2]; rfl
theorem frV_some {p : Int} {t : Nat → Int} {k : Int} (h : rtC p t k = 0) (h2 : (rtR p t k).length ≠ 0) : frV p t k = .tuple #[mv ((rtR p t k).getD 0 z0).1 ((rtR p t k).getD 0 z0).2, .int .i64 0] := by
  unfold frV frH frC; rw [if_pos h, if_neg h2]
theorem rtR_le (p : Int) (t : Nat → Int) (k : Int) : (rtR p t k).length ≤ 3125 := by
  by_cases h : rtC p t k = 0
  · have hv : isB p t = true := by
      cases hv : isB p t
      · rw [(rtC_1 hv).1] at h; cases h
      · rfl
    obtain ⟨h1, h5⟩ := isB_pts hv
    unfold rtR
    rw [if_pos h]
    exact Nat.le_trans (rtL_le _ _ _ _) (pow_le (by omega) (by omega))
  · rw [rtR_bad h]; simp

set_option maxRecDepth 100000 in
set_option maxHeartbeats 2000000 in
theorem icrt_any (p : Int) (t : Nat → Int) (k : Int) (w : World) :
    Calls Try.prog 48 #[mv p t, .int .i64 k] w fun e w' => e = .returned (rtV p t k) ∧ Below w.heap.size w w' := by
  have H := Lib.hid fun w => irts_any p t k w
  have HLE := Lib.hid (rtR_le p t k)
  unfold rtV
  generalize rtR p t k = R at *
  generalize rtC p t k = C at *
  simp only [mv, mcells] at *
  go_enter Try.func48, Try.ntmps48
  go_wp2_with fail
  refine (H.out _).mono ?_
  rintro e w1 ⟨v, rfl, hown, hb⟩
  obtain ⟨a, c, rfl, hrd⟩ := ownM_rd hown (by have := HLE.out; omega)
  have HB := Lib.hid hb
  clear hown hb hrd
  go_wp2_with fail
  go_ret2
  refine ⟨rfl, ?_⟩
  (repeat' (first | (with_reducible exact Below.refl _ _) | (with_reducible refine Below.alloc ?_ ?_ _) | (with_reducible refine Below.setCell ?_ ?_ _) | (with_reducible refine Below.drew ?_) | (with_reducible refine below_drewN ?_ _) | (with_reducible refine Below.trans ?_ (Below.mono (Hid.out (by assumption)) ?_)) | omega | (simp; done) | (simp; omega)))

set_option maxRecDepth 100000 in
set_option maxHeartbeats 2000000 in
theorem ifrt_any (p : Int) (t : Nat → Int) (k : Int) (w : World) :
    Calls Try.prog 46 #[mv p t, .int .i64 k] w fun e w' => e = .returned (frV p t k) ∧ Below w.heap.size w w' := by
  have H := Lib.hid fun w => irts_any p t k w
  have HLE := Lib.hid (rtR_le p t k)
  by_cases hC : rtC p t k = 0
  rotate_left
  · rw [frV_bad hC]
    have hC2 : (rtC p t k != 0) = true := by simpa using hC
    clear hC
    generalize rtR p t k = R at *
    generalize rtC p t k = C at *
    simp only [mv, mcells] at *
    go_enter Try.func46, Try.ntmps46
    go_wp2_with fail
    refine (H.out _).mono ?_
    rintro e w1 ⟨v, rfl, hown, hb⟩
    obtain ⟨a, c, rfl, hrd⟩ := ownM_rd hown (by have := HLE.out; omega)
    have HB := Lib.hid hb
    obtain ⟨hc, hf⟩ := bcell hb
    have hz := hb.size
    (try simp at hz hc hf)
    have hz0 : w.heap.size < w1.heap.size := by omega
    have hz1 : w.heap.size + 1 < w1.heap.size := by omega
    clear hown hb hrd
    go_wp2_with fail
    refine bodyPost_ret (v := .tuple #[mv 0 fun _ => 0, .int .i64 C]) (by simp [results, Try.results46, go_sem, *]) rfl ⟨rfl, ?_⟩
    (repeat' (first | (with_reducible exact Below.refl _ _) | (with_reducible refine Below.alloc ?_ ?_ _) | (with_reducible refine Below.setCell ?_ ?_ _) | (with_reducible refine Below.drew ?_) | (with_reducible refine below_drewN ?_ _) | (with_reducible refine Below.trans ?_ (Below.mono (Hid.out (by assumption)) ?_)) | omega | (simp; done) | (simp; omega)))
  by_cases hL : (rtR p t k).length = 0
  · rw [frV_none hC hL]
    rw [hC] at H
    clear hC
    generalize rtR p t k = R at *
    simp only [mv, mcells] at *
    go_enter Try.func46, Try.ntmps46
    go_wp2_with fail
    refine (H.out _).mono ?_
    rintro e w1 ⟨v, rfl, hown, hb⟩
    obtain ⟨a, c, rfl, hrd⟩ := ownM_rd hown (by have := HLE.out; omega)
    rw [hL]
    have HB := Lib.hid hb
    obtain ⟨hc, hf⟩ := bcell hb
    have hz := hb.size
    (try simp at hz hc hf)
    have hz0 : w.heap.size < w1.heap.size := by omega
    have hz1 : w.heap.size + 1 < w1.heap.size := by omega
    clear hown hb hrd hL
    go_wp2_with fail
    refine bodyPost_ret (v := .tuple #[mv 0 fun _ => 0, .int .i64 4]) (by simp [results, Try.results46, go_sem, *]) rfl ⟨rfl, ?_⟩
    (repeat' (first | (with_reducible exact Below.refl _ _) | (with_reducible refine Below.alloc ?_ ?_ _) | (with_reducible refine Below.setCell ?_ ?_ _) | (with_reducible refine Below.drew ?_) | (with_reducible refine below_drewN ?_ _) | (with_reducible refine Below.trans ?_ (Below.mono (Hid.out (by assumption)) ?_)) | omega | (simp; done) | (simp; omega)))
  · rw [frV_some hC hL]
    rw [hC] at H
    clear hC
    generalize rtR p t k = R at *
    obtain ⟨q, hq⟩ : ∃ q, q = (R.getD 0 z0).1 := ⟨_, rfl⟩
    obtain ⟨s, hs⟩ : ∃ s, s = (R.getD 0 z0).2 := ⟨_, rfl⟩
    rw [← hq, ← hs]
    have HQ := Lib.hid hq
    have HSS := Lib.hid hs
    clear hq hs
    simp only [mv, mcells] at *
    go_enter Try.func46, Try.ntmps46
    go_wp2_with fail
    refine (H.out _).mono ?_
    rintro e w1 ⟨v, rfl, hown, hb⟩
    obtain ⟨a, c, rfl, hrd⟩ := ownM_rd hown (by have := HLE.out; omega)
    obtain ⟨b1, o1, rfl, hl1, hat⟩ := hrd.inRow.at6 0 (by omega)
    rw [Nat.zero_mul, Nat.add_zero] at hat
    obtain ⟨y0, y1, y2, y3, y4, y5⟩ := hat
    rw [← HQ.out] at y0
    rw [← HSS.out] at y1 y2 y3 y4 y5
    have hb1 : (⟨w.heap.size + 1, 0, none⟩ : Addr) ≠ ⟨b1, o1, none⟩ ∨ True := Or.inr trivial
    have HB := Lib.hid hb
    obtain ⟨hc, hf⟩ := bcell hb
    have hz := hb.size
    (try simp at hz hc hf)
    have hz0 : w.heap.size < w1.heap.size := by omega
    have hz1 : w.heap.size + 1 < w1.heap.size := by omega
    have hl0 : ((R.length : Int) == 0) = false := by simp; intro e; exact hL (by rw [e]; rfl)
    obtain ⟨L, hLL⟩ : ∃ L, L = R.length := ⟨_, rfl⟩
    rw [← hLL] at hl0 hL ⊢
    have hL1 : 0 < L := by omega
    have hL2 : (0 : Int) < (L : Int) := by omega
    clear hown hb hrd hL hb1 hLL
    go_wp2_with fail
    refine bodyPost_ret (v := .tuple #[mv q s, .int .i64 0]) (by simp [results, Try.results46, go_sem, *]) rfl ⟨rfl, ?_⟩
    (repeat' (first | (with_reducible exact Below.refl _ _) | (with_reducible refine Below.alloc ?_ ?_ _) | (with_reducible refine Below.setCell ?_ ?_ _) | (with_reducible refine Below.drew ?_) | (with_reducible refine below_drewN ?_ _) | (with_reducible refine Below.trans ?_ (Below.mono (Hid.out (by assumption)) ?_)) | omega | (simp; done) | (simp; omega)))

theorem scode9_any (p : Int) (t : Nat → Int) (k : Int) (w : World) :
    Calls Try.prog 89 #[mv p t, .int .i64 k] w fun e w' => e = .returned (.int .i64 (rtC p t k)) ∧ Below w.heap.size w w' := by
  have HL := fun w => lis_any p t w
  have HIN := fun w => in_any k 1 6 w
  cases hv : isB p t
  · rw [(rtC_1 hv).1]
    rw [hv] at HL
    have HL := Lib.hid HL
    clear hv
    simp only [mv, mcells] at *
    go_enter Try.func89, Try.ntmps89
    go_wp2_with fail
    (refine (HL.out _).mono ?_; rintro e w1 ⟨rfl, hb⟩; obtain ⟨hc, hf⟩ := bcell hb; have hz := hb.size; have Hb := Lib.hid hb; (try simp at hz hc hf); (try (have hy := Nat.lt_of_succ_le hz)); have hz0 : w.heap.size < w1.heap.size := (by omega); clear hb)
    go_wp2_with fail
    go_ret
    refine ⟨rfl, ?_⟩
    (repeat' (first | (with_reducible exact Below.refl _ _) | (with_reducible refine Below.alloc ?_ ?_ _) | (with_reducible refine Below.setCell ?_ ?_ _) | (with_reducible refine Below.drew ?_) | (with_reducible refine below_drewN ?_ _) | (with_reducible refine Below.trans ?_ (Below.mono (Hid.out (by assumption)) ?_)) | omega | (simp; done) | (simp; omega)))
  · rw [hv] at HL
    have HL := Lib.hid HL
    by_cases hk : 1 ≤ k ∧ k ≤ 6
    · rw [show rtC p t k = 0 by unfold rtC; rw [if_pos hv, if_pos hk]]
      rw [inB_true.2 hk] at HIN
      have HIN := Lib.hid HIN
      clear hv hk
      simp only [mv, mcells] at *
      go_enter Try.func89, Try.ntmps89
      go_wp2_with fail
      (refine (HL.out _).mono ?_; rintro e w1 ⟨rfl, hb⟩; obtain ⟨hc, hf⟩ := bcell hb; have hz := hb.size; have Hb := Lib.hid hb; (try simp at hz hc hf); (try (have hy := Nat.lt_of_succ_le hz)); have hz0 : w.heap.size < w1.heap.size := (by omega); clear hb)
      go_wp2_with fail
      refine (HIN.out _).mono ?_
      rintro e w2 ⟨rfl, rfl⟩
      go_wp2_with fail
      go_ret
      refine ⟨rfl, ?_⟩
      (repeat' (first | (with_reducible exact Below.refl _ _) | (with_reducible refine Below.alloc ?_ ?_ _) | (with_reducible refine Below.setCell ?_ ?_ _) | (with_reducible refine Below.drew ?_) | (with_reducible refine below_drewN ?_ _) | (with_reducible refine Below.trans ?_ (Below.mono (Hid.out (by assumption)) ?_)) | omega | (simp; done) | (simp; omega)))
    · rw [(rtC_2 hv hk).1]
      have hin : inB k 1 6 = false := by rw [Bool.eq_false_iff]; intro h; exact hk (inB_true.1 h)
      rw [hin] at HIN
      have HIN := Lib.hid HIN
      clear hv hk hin
      simp only [mv, mcells] at *
      go_enter Try.func89, Try.ntmps89
      go_wp2_with fail
      (refine (HL.out _).mono ?_; rintro e w1 ⟨rfl, hb⟩; obtain ⟨hc, hf⟩ := bcell hb; have hz := hb.size; have Hb := Lib.hid hb; (try simp at hz hc hf); (try (have hy := Nat.lt_of_succ_le hz)); have hz0 : w.heap.size < w1.heap.size := (by omega); clear hb)
      go_wp2_with fail
      refine (HIN.out _).mono ?_
      rintro e w2 ⟨rfl, rfl⟩
      go_wp2_with fail
      go_ret
      refine ⟨rfl, ?_⟩
      (repeat' (first | (with_reducible exact Below.refl _ _) | (with_reducible refine Below.alloc ?_ ?_ _) | (with_reducible refine Below.setCell ?_ ?_ _) | (with_reducible refine Below.drew ?_) | (with_reducible refine below_drewN ?_ _) | (with_reducible refine Below.trans ?_ (Below.mono (Hid.out (by assumption)) ?_)) | omega | (simp; done) | (simp; omega)))

end Go.Proofs.Ytfghegjlilcafaa
