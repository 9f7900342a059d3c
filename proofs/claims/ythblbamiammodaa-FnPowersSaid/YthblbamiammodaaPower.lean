/- The contracts of spec.PowerOf and impl.PowerOf. -/
import Derived.Test.YthblbamiammodaaPow
import Derived.Test.YthblbamiammodaaProd
namespace Go.Proofs.Ythblbamiammodaa
open Go.RowKit

def powC (p : Int) (t : Nat → Int) (k : Int) : Int := if isB p t = true then (if 0 ≤ k ∧ k ≤ 1000000000000 then 0 else 2) else 1

def powV (p : Int) (t : Nat → Int) (k : Int) : Value := .tuple #[mv (resP (powC p t k) p) (resT (powC p t k) (pow p t k.toNat)), .int .i64 (powC p t k)]

theorem powV_1 {p : Int} {t : Nat → Int} {k : Int} (h : isB p t = false) : powV p t k = .tuple #[mv 0 fun _ => 0, .int .i64 1] := by
  unfold powV powC; rw [if_neg (by rw [h]; exact Bool.false_ne_true)]; rfl

theorem powV_2 {p : Int} {t : Nat → Int} {k : Int} (h : isB p t = true) (h' : ¬ (0 ≤ k ∧ k ≤ 1000000000000)) : powV p t k = .tuple #[mv 0 fun _ => 0, .int .i64 2] := by
  unfold powV powC; rw [if_pos h, if_neg h']; rfl

theorem powV_0 {p : Int} {t : Nat → Int} {k : Int} (h : isB p t = true) (h' : 0 ≤ k ∧ k ≤ 1000000000000) : powV p t k = .tuple #[mv p (pow p t k.toNat), .int .i64 0] := by
  unfold powV powC; rw [if_pos h, if_pos h']; rfl

set_option maxHeartbeats 1000000 in
theorem sPow_any (p : Int) (t : Nat → Int) (k : Int) (w : World) :
    Calls Try.prog 7 #[mv p t, .int .i64 k] w fun e w' => e = .returned (powV p t k) ∧ Below w.heap.size w w' := by
  cases hv : isB p t
  · rw [powV_1 hv]
    simp only [mv, mcells]
    go_enter Try.func7, Try.ntmps7
    go_wp2_with fail
    (refine (lis_any p t _).mono ?_; rintro e w1 ⟨rfl, hb⟩; obtain ⟨hc, hf⟩ := bcell hb; have hz := hb.size; have Hb := Lib.hid hb; (try simp at hz hc hf); (try (have hy := Nat.lt_of_succ_le hz)); have hz0 : w.heap.size < w1.heap.size := (by omega); have hz1 : w.heap.size + 1 < w1.heap.size := (by omega); clear hb)
    go_wp2_with fail
    refine bodyPost_ret (v := .tuple #[mv 0 fun _ => 0, .int .i64 1]) (by simp [results, Try.results7, go_sem, *]) rfl ⟨rfl, ?_⟩
    (repeat' (first | (with_reducible exact Below.refl _ _) | (with_reducible refine Below.alloc ?_ ?_ _) | (with_reducible refine Below.setCell ?_ ?_ _) | (with_reducible refine Below.drew ?_) | (with_reducible refine below_drewN ?_ _) | (with_reducible refine Below.trans ?_ (Below.mono (Hid.out (by assumption)) ?_)) | omega | (simp; done) | (simp; omega)))
  · by_cases h : 0 ≤ k ∧ k ≤ 1000000000000
    · rw [powV_0 hv h]
      have HV := Lib.hid fun w => spow_any p t hv k h.1 h.2 w
      obtain ⟨ha, hb9⟩ := h
      have hin : inB k 0 1000000000000 = true := inB_true.2 ⟨ha, hb9⟩
      simp only [mv, mcells]
      go_enter Try.func7, Try.ntmps7
      go_wp2_with fail
      (refine (lis_any p t _).mono ?_; rintro e w1 ⟨rfl, hb⟩; obtain ⟨hc, hf⟩ := bcell hb; have hz := hb.size; have Hb := Lib.hid hb; (try simp at hz hc hf); (try (have hy := Nat.lt_of_succ_le hz)); have hz0 : w.heap.size < w1.heap.size := (by omega); have hz1 : w.heap.size + 1 < w1.heap.size := (by omega); clear hb)
      go_wp2_with fail
      refine (in_any _ _ _ _).mono ?_
      rintro e w2 ⟨rfl, rfl⟩
      go_wp2_with fail
      (refine (HV.out _).mono ?_; rintro e w1 ⟨rfl, hb⟩; simp only [mv, mcells]; obtain ⟨hc, hf⟩ := bcell hb; have hz := hb.size; have Hb := Lib.hid hb; (try simp at hz hc hf); (try (have hy := Nat.lt_of_succ_le hz)); have hz0 : w.heap.size < w1.heap.size := (by omega); have hz1 : w.heap.size + 1 < w1.heap.size := (by omega); clear hb)
      go_wp2_with fail
      refine bodyPost_ret (v := .tuple #[mv p (pow p t k.toNat), .int .i64 0]) (by simp [results, Try.results7, go_sem, *]) rfl ⟨rfl, ?_⟩
      (repeat' (first | (with_reducible exact Below.refl _ _) | (with_reducible refine Below.alloc ?_ ?_ _) | (with_reducible refine Below.setCell ?_ ?_ _) | (with_reducible refine Below.drew ?_) | (with_reducible refine below_drewN ?_ _) | (with_reducible refine Below.trans ?_ (Below.mono (Hid.out (by assumption)) ?_)) | omega | (simp; done) | (simp; omega)))
    · rw [powV_2 hv h]
      have hin : inB k 0 1000000000000 = false := by rw [Bool.eq_false_iff]; intro h'; exact h (inB_true.1 h')
      clear h
      simp only [mv, mcells]
      go_enter Try.func7, Try.ntmps7
      go_wp2_with fail
      (refine (lis_any p t _).mono ?_; rintro e w1 ⟨rfl, hb⟩; obtain ⟨hc, hf⟩ := bcell hb; have hz := hb.size; have Hb := Lib.hid hb; (try simp at hz hc hf); (try (have hy := Nat.lt_of_succ_le hz)); have hz0 : w.heap.size < w1.heap.size := (by omega); have hz1 : w.heap.size + 1 < w1.heap.size := (by omega); clear hb)
      go_wp2_with fail
      refine (in_any _ _ _ _).mono ?_
      rintro e w2 ⟨rfl, rfl⟩
      go_wp2_with fail
      refine bodyPost_ret (v := .tuple #[mv 0 fun _ => 0, .int .i64 2]) (by simp [results, Try.results7, go_sem, *]) rfl ⟨rfl, ?_⟩
      (repeat' (first | (with_reducible exact Below.refl _ _) | (with_reducible refine Below.alloc ?_ ?_ _) | (with_reducible refine Below.setCell ?_ ?_ _) | (with_reducible refine Below.drew ?_) | (with_reducible refine below_drewN ?_ _) | (with_reducible refine Below.trans ?_ (Below.mono (Hid.out (by assumption)) ?_)) | omega | (simp; done) | (simp; omega)))

set_option maxHeartbeats 1000000 in
theorem iPow_any (p : Int) (t : Nat → Int) (k : Int) (w : World) :
    Calls Try.prog 6 #[mv p t, .int .i64 k] w fun e w' => e = .returned (powV p t k) ∧ Below w.heap.size w w' := by
  cases hv : isB p t
  · rw [powV_1 hv]
    simp only [mv, mcells]
    go_enter Try.func6, Try.ntmps6
    go_wp2_with fail
    (refine (iis_any p t _).mono ?_; rintro e w1 ⟨rfl, hb⟩; obtain ⟨hc, hf⟩ := bcell hb; have hz := hb.size; have Hb := Lib.hid hb; (try simp at hz hc hf); (try (have hy := Nat.lt_of_succ_le hz)); have hz0 : w.heap.size < w1.heap.size := (by omega); have hz1 : w.heap.size + 1 < w1.heap.size := (by omega); clear hb)
    go_wp2_with fail
    refine bodyPost_ret (v := .tuple #[mv 0 fun _ => 0, .int .i64 1]) (by simp [results, Try.results6, go_sem, *]) rfl ⟨rfl, ?_⟩
    (repeat' (first | (with_reducible exact Below.refl _ _) | (with_reducible refine Below.alloc ?_ ?_ _) | (with_reducible refine Below.setCell ?_ ?_ _) | (with_reducible refine Below.drew ?_) | (with_reducible refine below_drewN ?_ _) | (with_reducible refine Below.trans ?_ (Below.mono (Hid.out (by assumption)) ?_)) | omega | (simp; done) | (simp; omega)))
  · by_cases h : 0 ≤ k ∧ k ≤ 1000000000000
    · rw [powV_0 hv h]
      have HV := Lib.hid fun w => ipow_any p t hv k h.1 h.2 w
      obtain ⟨ha, hb9⟩ := h
      simp only [mv, mcells]
      go_enter Try.func6, Try.ntmps6
      go_wp2_with fail
      (refine (iis_any p t _).mono ?_; rintro e w1 ⟨rfl, hb⟩; obtain ⟨hc, hf⟩ := bcell hb; have hz := hb.size; have Hb := Lib.hid hb; (try simp at hz hc hf); (try (have hy := Nat.lt_of_succ_le hz)); have hz0 : w.heap.size < w1.heap.size := (by omega); have hz1 : w.heap.size + 1 < w1.heap.size := (by omega); clear hb)
      go_wp2_with fail
      (refine (HV.out _).mono ?_; rintro e w1 ⟨rfl, hb⟩; simp only [mv, mcells]; obtain ⟨hc, hf⟩ := bcell hb; have hz := hb.size; have Hb := Lib.hid hb; (try simp at hz hc hf); (try (have hy := Nat.lt_of_succ_le hz)); have hz0 : w.heap.size < w1.heap.size := (by omega); have hz1 : w.heap.size + 1 < w1.heap.size := (by omega); clear hb)
      go_wp2_with fail
      refine bodyPost_ret (v := .tuple #[mv p (pow p t k.toNat), .int .i64 0]) (by simp [results, Try.results6, go_sem, *]) rfl ⟨rfl, ?_⟩
      (repeat' (first | (with_reducible exact Below.refl _ _) | (with_reducible refine Below.alloc ?_ ?_ _) | (with_reducible refine Below.setCell ?_ ?_ _) | (with_reducible refine Below.drew ?_) | (with_reducible refine below_drewN ?_ _) | (with_reducible refine Below.trans ?_ (Below.mono (Hid.out (by assumption)) ?_)) | omega | (simp; done) | (simp; omega)))
    · rw [powV_2 hv h]
      by_cases hlo : k < 0
      · clear h
        simp only [mv, mcells]
        go_enter Try.func6, Try.ntmps6
        go_wp2_with fail
        (refine (iis_any p t _).mono ?_; rintro e w1 ⟨rfl, hb⟩; obtain ⟨hc, hf⟩ := bcell hb; have hz := hb.size; have Hb := Lib.hid hb; (try simp at hz hc hf); (try (have hy := Nat.lt_of_succ_le hz)); have hz0 : w.heap.size < w1.heap.size := (by omega); have hz1 : w.heap.size + 1 < w1.heap.size := (by omega); clear hb)
        go_wp2_with fail
        refine bodyPost_ret (v := .tuple #[mv 0 fun _ => 0, .int .i64 2]) (by simp [results, Try.results6, go_sem, *]) rfl ⟨rfl, ?_⟩
        (repeat' (first | (with_reducible exact Below.refl _ _) | (with_reducible refine Below.alloc ?_ ?_ _) | (with_reducible refine Below.setCell ?_ ?_ _) | (with_reducible refine Below.drew ?_) | (with_reducible refine below_drewN ?_ _) | (with_reducible refine Below.trans ?_ (Below.mono (Hid.out (by assumption)) ?_)) | omega | (simp; done) | (simp; omega)))
      · have hhi : 1000000000000 < k := by omega
        clear h
        simp only [mv, mcells]
        go_enter Try.func6, Try.ntmps6
        go_wp2_with fail
        (refine (iis_any p t _).mono ?_; rintro e w1 ⟨rfl, hb⟩; obtain ⟨hc, hf⟩ := bcell hb; have hz := hb.size; have Hb := Lib.hid hb; (try simp at hz hc hf); (try (have hy := Nat.lt_of_succ_le hz)); have hz0 : w.heap.size < w1.heap.size := (by omega); have hz1 : w.heap.size + 1 < w1.heap.size := (by omega); clear hb)
        go_wp2_with fail
        refine bodyPost_ret (v := .tuple #[mv 0 fun _ => 0, .int .i64 2]) (by simp [results, Try.results6, go_sem, *]) rfl ⟨rfl, ?_⟩
        (repeat' (first | (with_reducible exact Below.refl _ _) | (with_reducible refine Below.alloc ?_ ?_ _) | (with_reducible refine Below.setCell ?_ ?_ _) | (with_reducible refine Below.drew ?_) | (with_reducible refine below_drewN ?_ _) | (with_reducible refine Below.trans ?_ (Below.mono (Hid.out (by assumption)) ?_)) | omega | (simp; done) | (simp; omega)))
end Go.Proofs.Ythblbamiammodaa
