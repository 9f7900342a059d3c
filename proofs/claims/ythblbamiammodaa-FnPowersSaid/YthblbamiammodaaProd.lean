/- The contracts of spec.l01Like, spec.ProductOf and impl.ProductOf: both give the same code and the same product. -/
import Derived.Test.YthblbamiammodaaBase
namespace Go.Proofs.Ythblbamiammodaa
open Go.RowKit

/-- The code of two maps with as many points. -/
def likeC (p : Int) (f : Nat → Int) (q : Int) (g : Nat → Int) : Int := if isB p f = true ∧ isB q g = true then (if p = q then 0 else 2) else 1

theorem like_any (p : Int) (f : Nat → Int) (q : Int) (g : Nat → Int) (w : World) :
    Calls Try.prog 61 #[mv p f, mv q g] w fun e w' => e = .returned (.int .i64 (likeC p f q g)) ∧ Below w.heap.size w w' := by
  cases hf : isB p f
  · have hL : likeC p f q g = 1 := by simp [likeC, hf]
    rw [hL]
    clear hL
    simp only [mv, mcells]
    go_enter Try.func61, Try.ntmps61
    go_wp2_with (go_at_call 40; (with_reducible refine (lis_any p f _).mono ?_); rintro e w1 ⟨rfl, hb⟩; obtain ⟨hc, hf⟩ := bcell hb; have hz := hb.size; have Hb := Lib.hid hb; (try simp at hz hc hf); (try (have hy := Nat.lt_of_succ_le hz)); have hz0 : w.heap.size < w1.heap.size := (by omega); have hz1 : w.heap.size + 1 < w1.heap.size := (by omega); clear hb)
    go_ret
    refine ⟨rfl, ?_⟩
    (repeat' (first | (with_reducible exact Below.refl _ _) | (with_reducible refine Below.alloc ?_ ?_ _) | (with_reducible refine Below.setCell ?_ ?_ _) | (with_reducible refine Below.drew ?_) | (with_reducible refine below_drewN ?_ _) | (with_reducible refine Below.trans ?_ (Below.mono (Hid.out (by assumption)) ?_)) | omega | (simp; done) | (simp; omega)))
  · cases hg : isB q g
    · have hL : likeC p f q g = 1 := by simp [likeC, hg]
      rw [hL]
      clear hL
      simp only [mv, mcells]
      go_enter Try.func61, Try.ntmps61
      go_wp2_with fail
      (refine (lis_any p f _).mono ?_; rintro e w1 ⟨rfl, hb⟩; obtain ⟨hc, hf⟩ := bcell hb; have hz := hb.size; have Hb := Lib.hid hb; (try simp at hz hc hf); (try (have hy := Nat.lt_of_succ_le hz)); have hz0 : w.heap.size < w1.heap.size := (by omega); have hz1 : w.heap.size + 1 < w1.heap.size := (by omega); clear hb)
      go_wp2_with fail
      (refine (lis_any q g _).mono ?_; rintro e w1 ⟨rfl, hb⟩; obtain ⟨hc, hf⟩ := bcell hb; have hz := hb.size; have Hb := Lib.hid hb; (try simp at hz hc hf); (try (have hy := Nat.lt_of_succ_le hz)); have hz0 : w.heap.size < w1.heap.size := (by omega); have hz1 : w.heap.size + 1 < w1.heap.size := (by omega); clear hb)
      go_wp2_with fail
      go_ret
      refine ⟨rfl, ?_⟩
      (repeat' (first | (with_reducible exact Below.refl _ _) | (with_reducible refine Below.alloc ?_ ?_ _) | (with_reducible refine Below.setCell ?_ ?_ _) | (with_reducible refine Below.drew ?_) | (with_reducible refine below_drewN ?_ _) | (with_reducible refine Below.trans ?_ (Below.mono (Hid.out (by assumption)) ?_)) | omega | (simp; done) | (simp; omega)))
    · by_cases hpq : p = q
      · have hL : likeC p f q g = 0 := by unfold likeC; rw [if_pos ⟨hf, hg⟩, if_pos hpq]
        rw [hL]
        clear hL
        have hb : (p != q) = false := by simp [hpq]
        have HPQ := Lib.hid hpq
        clear hpq
        simp only [mv, mcells]
        go_enter Try.func61, Try.ntmps61
        go_wp2_with fail
        (refine (lis_any p f _).mono ?_; rintro e w1 ⟨rfl, hb⟩; obtain ⟨hc, hf⟩ := bcell hb; have hz := hb.size; have Hb := Lib.hid hb; (try simp at hz hc hf); (try (have hy := Nat.lt_of_succ_le hz)); have hz0 : w.heap.size < w1.heap.size := (by omega); have hz1 : w.heap.size + 1 < w1.heap.size := (by omega); clear hb)
        go_wp2_with fail
        (refine (lis_any q g _).mono ?_; rintro e w1 ⟨rfl, hb⟩; obtain ⟨hc, hf⟩ := bcell hb; have hz := hb.size; have Hb := Lib.hid hb; (try simp at hz hc hf); (try (have hy := Nat.lt_of_succ_le hz)); have hz0 : w.heap.size < w1.heap.size := (by omega); have hz1 : w.heap.size + 1 < w1.heap.size := (by omega); clear hb)
        go_wp2_with fail
        go_ret
        refine ⟨rfl, ?_⟩
        (repeat' (first | (with_reducible exact Below.refl _ _) | (with_reducible refine Below.alloc ?_ ?_ _) | (with_reducible refine Below.setCell ?_ ?_ _) | (with_reducible refine Below.drew ?_) | (with_reducible refine below_drewN ?_ _) | (with_reducible refine Below.trans ?_ (Below.mono (Hid.out (by assumption)) ?_)) | omega | (simp; done) | (simp; omega)))
      · have hL : likeC p f q g = 2 := by simp [likeC, hf, hg, hpq]
        rw [hL]
        clear hL
        have hb : (p != q) = true := by simp [hpq]
        simp only [mv, mcells]
        go_enter Try.func61, Try.ntmps61
        go_wp2_with fail
        (refine (lis_any p f _).mono ?_; rintro e w1 ⟨rfl, hb⟩; obtain ⟨hc, hf⟩ := bcell hb; have hz := hb.size; have Hb := Lib.hid hb; (try simp at hz hc hf); (try (have hy := Nat.lt_of_succ_le hz)); have hz0 : w.heap.size < w1.heap.size := (by omega); have hz1 : w.heap.size + 1 < w1.heap.size := (by omega); clear hb)
        go_wp2_with fail
        (refine (lis_any q g _).mono ?_; rintro e w1 ⟨rfl, hb⟩; obtain ⟨hc, hf⟩ := bcell hb; have hz := hb.size; have Hb := Lib.hid hb; (try simp at hz hc hf); (try (have hy := Nat.lt_of_succ_le hz)); have hz0 : w.heap.size < w1.heap.size := (by omega); have hz1 : w.heap.size + 1 < w1.heap.size := (by omega); clear hb)
        go_wp2_with fail
        go_ret
        refine ⟨rfl, ?_⟩
        (repeat' (first | (with_reducible exact Below.refl _ _) | (with_reducible refine Below.alloc ?_ ?_ _) | (with_reducible refine Below.setCell ?_ ?_ _) | (with_reducible refine Below.drew ?_) | (with_reducible refine below_drewN ?_ _) | (with_reducible refine Below.trans ?_ (Below.mono (Hid.out (by assumption)) ?_)) | omega | (simp; done) | (simp; omega)))

theorem like_cases (p : Int) (f : Nat → Int) (q : Int) (g : Nat → Int) :
    (isB p f = true ∧ isB q g = true ∧ p = q ∧ likeC p f q g = 0) ∨ (isB p f = true ∧ isB q g = true ∧ p ≠ q ∧ likeC p f q g = 2) ∨ ((isB p f = false ∨ isB q g = false) ∧ likeC p f q g = 1) := by
  unfold likeC
  cases hf : isB p f <;> cases hg : isB q g <;> by_cases h : p = q <;> simp [h]

/-- What ProductOf answers. -/
def prodV (p : Int) (f : Nat → Int) (q : Int) (g : Nat → Int) : Value := .tuple #[mv (resP (likeC p f q g) p) (resT (likeC p f q g) (mul p f g)), .int .i64 (likeC p f q g)]

theorem prodV_0 {p : Int} {f : Nat → Int} {q : Int} {g : Nat → Int} (h : likeC p f q g = 0) : prodV p f q g = .tuple #[mv p (mul p f g), .int .i64 0] := by
  unfold prodV; rw [h]; rfl

theorem prodV_1 {p : Int} {f : Nat → Int} {q : Int} {g : Nat → Int} (h : likeC p f q g = 1) : prodV p f q g = .tuple #[mv 0 fun _ => 0, .int .i64 1] := by
  unfold prodV; rw [h]; rfl

theorem prodV_2 {p : Int} {f : Nat → Int} {q : Int} {g : Nat → Int} (h : likeC p f q g = 2) : prodV p f q g = .tuple #[mv 0 fun _ => 0, .int .i64 2] := by
  unfold prodV; rw [h]; rfl



set_option maxHeartbeats 400000 in
theorem iprod_any (p : Int) (f : Nat → Int) (q : Int) (g : Nat → Int) (w : World) :
    Calls Try.prog 22 #[mv p f, mv q g] w fun e w' => e = .returned (prodV p f q g) ∧ Below w.heap.size w w' := by
  cases hf : isB p f
  · rw [prodV_1 (by simp [likeC, hf])]
    simp only [mv, mcells]
    go_enter Try.func22, Try.ntmps22
    go_wp2_with fail
    (refine (iis_any p f _).mono ?_; rintro e w1 ⟨rfl, hb⟩; obtain ⟨hc, hf⟩ := bcell hb; have hz := hb.size; have Hb := Lib.hid hb; (try simp at hz hc hf); (try (have hy := Nat.lt_of_succ_le hz)); have hz0 : w.heap.size < w1.heap.size := (by omega); have hz1 : w.heap.size + 1 < w1.heap.size := (by omega); have hz2 : w.heap.size + 1 + 1 < w1.heap.size := (by omega); clear hb)
    go_wp2_with fail
    refine bodyPost_ret (v := .tuple #[mv 0 fun _ => 0, .int .i64 1]) (by simp [results, Try.results22, go_sem, *]) rfl ⟨rfl, ?_⟩
    (repeat' (first | (with_reducible exact Below.refl _ _) | (with_reducible refine Below.alloc ?_ ?_ _) | (with_reducible refine Below.setCell ?_ ?_ _) | (with_reducible refine Below.drew ?_) | (with_reducible refine below_drewN ?_ _) | (with_reducible refine Below.trans ?_ (Below.mono (Hid.out (by assumption)) ?_)) | omega | (simp; done) | (simp; omega)))
  · cases hg : isB q g
    · rw [prodV_1 (by simp [likeC, hg])]
      simp only [mv, mcells]
      go_enter Try.func22, Try.ntmps22
      go_wp2_with fail
      (refine (iis_any p f _).mono ?_; rintro e w1 ⟨rfl, hb⟩; obtain ⟨hc, hf⟩ := bcell hb; have hz := hb.size; have Hb := Lib.hid hb; (try simp at hz hc hf); (try (have hy := Nat.lt_of_succ_le hz)); have hz0 : w.heap.size < w1.heap.size := (by omega); have hz1 : w.heap.size + 1 < w1.heap.size := (by omega); have hz2 : w.heap.size + 1 + 1 < w1.heap.size := (by omega); clear hb)
      go_wp2_with fail
      (refine (iis_any q g _).mono ?_; rintro e w1 ⟨rfl, hb⟩; obtain ⟨hc, hf⟩ := bcell hb; have hz := hb.size; have Hb := Lib.hid hb; (try simp at hz hc hf); (try (have hy := Nat.lt_of_succ_le hz)); have hz0 : w.heap.size < w1.heap.size := (by omega); have hz1 : w.heap.size + 1 < w1.heap.size := (by omega); have hz2 : w.heap.size + 1 + 1 < w1.heap.size := (by omega); clear hb)
      go_wp2_with fail
      refine bodyPost_ret (v := .tuple #[mv 0 fun _ => 0, .int .i64 1]) (by simp [results, Try.results22, go_sem, *]) rfl ⟨rfl, ?_⟩
      (repeat' (first | (with_reducible exact Below.refl _ _) | (with_reducible refine Below.alloc ?_ ?_ _) | (with_reducible refine Below.setCell ?_ ?_ _) | (with_reducible refine Below.drew ?_) | (with_reducible refine below_drewN ?_ _) | (with_reducible refine Below.trans ?_ (Below.mono (Hid.out (by assumption)) ?_)) | omega | (simp; done) | (simp; omega)))
    · by_cases hpq : p = q
      · subst hpq
        rw [prodV_0 (by unfold likeC; rw [if_pos ⟨hf, hg⟩, if_pos rfl])]
        have HW := Lib.hid fun w => product_any p f g hf hg w
        simp only [mv, mcells]
        go_enter Try.func22, Try.ntmps22
        go_wp2_with fail
        (refine (iis_any p f _).mono ?_; rintro e w1 ⟨rfl, hb⟩; obtain ⟨hc, hf⟩ := bcell hb; have hz := hb.size; have Hb := Lib.hid hb; (try simp at hz hc hf); (try (have hy := Nat.lt_of_succ_le hz)); have hz0 : w.heap.size < w1.heap.size := (by omega); have hz1 : w.heap.size + 1 < w1.heap.size := (by omega); have hz2 : w.heap.size + 1 + 1 < w1.heap.size := (by omega); clear hb)
        go_wp2_with fail
        (refine (iis_any p g _).mono ?_; rintro e w1 ⟨rfl, hb⟩; obtain ⟨hc, hf⟩ := bcell hb; have hz := hb.size; have Hb := Lib.hid hb; (try simp at hz hc hf); (try (have hy := Nat.lt_of_succ_le hz)); have hz0 : w.heap.size < w1.heap.size := (by omega); have hz1 : w.heap.size + 1 < w1.heap.size := (by omega); have hz2 : w.heap.size + 1 + 1 < w1.heap.size := (by omega); clear hb)
        go_wp2_with fail
        (refine (HW.out _).mono ?_; rintro e w1 ⟨rfl, hb⟩; simp only [mv, mcells]; obtain ⟨hc, hf⟩ := bcell hb; have hz := hb.size; have Hb := Lib.hid hb; (try simp at hz hc hf); (try (have hy := Nat.lt_of_succ_le hz)); have hz0 : w.heap.size < w1.heap.size := (by omega); have hz1 : w.heap.size + 1 < w1.heap.size := (by omega); have hz2 : w.heap.size + 1 + 1 < w1.heap.size := (by omega); clear hb)
        go_wp2_with fail
        refine bodyPost_ret (v := .tuple #[mv p (mul p f g), .int .i64 0]) (by simp [results, Try.results22, go_sem, *]) rfl ⟨rfl, ?_⟩
        (repeat' (first | (with_reducible exact Below.refl _ _) | (with_reducible refine Below.alloc ?_ ?_ _) | (with_reducible refine Below.setCell ?_ ?_ _) | (with_reducible refine Below.drew ?_) | (with_reducible refine below_drewN ?_ _) | (with_reducible refine Below.trans ?_ (Below.mono (Hid.out (by assumption)) ?_)) | omega | (simp; done) | (simp; omega)))
      · rw [prodV_2 (by unfold likeC; rw [if_pos ⟨hf, hg⟩, if_neg hpq])]
        have hb : (p != q) = true := by simp [hpq]
        simp only [mv, mcells]
        go_enter Try.func22, Try.ntmps22
        go_wp2_with fail
        (refine (iis_any p f _).mono ?_; rintro e w1 ⟨rfl, hb⟩; obtain ⟨hc, hf⟩ := bcell hb; have hz := hb.size; have Hb := Lib.hid hb; (try simp at hz hc hf); (try (have hy := Nat.lt_of_succ_le hz)); have hz0 : w.heap.size < w1.heap.size := (by omega); have hz1 : w.heap.size + 1 < w1.heap.size := (by omega); have hz2 : w.heap.size + 1 + 1 < w1.heap.size := (by omega); clear hb)
        go_wp2_with fail
        (refine (iis_any q g _).mono ?_; rintro e w1 ⟨rfl, hb⟩; obtain ⟨hc, hf⟩ := bcell hb; have hz := hb.size; have Hb := Lib.hid hb; (try simp at hz hc hf); (try (have hy := Nat.lt_of_succ_le hz)); have hz0 : w.heap.size < w1.heap.size := (by omega); have hz1 : w.heap.size + 1 < w1.heap.size := (by omega); have hz2 : w.heap.size + 1 + 1 < w1.heap.size := (by omega); clear hb)
        go_wp2_with fail
        refine bodyPost_ret (v := .tuple #[mv 0 fun _ => 0, .int .i64 2]) (by simp [results, Try.results22, go_sem, *]) rfl ⟨rfl, ?_⟩
        (repeat' (first | (with_reducible exact Below.refl _ _) | (with_reducible refine Below.alloc ?_ ?_ _) | (with_reducible refine Below.setCell ?_ ?_ _) | (with_reducible refine Below.drew ?_) | (with_reducible refine below_drewN ?_ _) | (with_reducible refine Below.trans ?_ (Below.mono (Hid.out (by assumption)) ?_)) | omega | (simp; done) | (simp; omega)))
end Go.Proofs.Ythblbamiammodaa
