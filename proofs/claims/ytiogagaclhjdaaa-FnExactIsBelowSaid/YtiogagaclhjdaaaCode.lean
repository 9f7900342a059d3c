/- Maps of at most five points told by one number each: their images are its digits in base 5, the first one foremost. -/
import Derived.Test.YtiogagaclhjdaaaPowm
import Derived.Test.YtiogagaclhjdaaaIcm
namespace Go.Proofs.Ytiogagaclhjdaaa
open Go.RowKit

/-- The map with a number. -/
def dcd (c : Nat) : Nat → Int
  | 0 => ((c / 625 % 5 : Nat) : Int)
  | 1 => ((c / 125 % 5 : Nat) : Int)
  | 2 => ((c / 25 % 5 : Nat) : Int)
  | 3 => ((c / 5 % 5 : Nat) : Int)
  | 4 => ((c % 5 : Nat) : Int)
  | _ => 0

/-- The number of a map. -/
def ecd (t : Nat → Int) : Nat := (t 0).toNat * 625 + (t 1).toNat * 125 + (t 2).toNat * 25 + (t 3).toNat * 5 + (t 4).toNat

/-- A number is that of a map with p points. -/
def vld (p : Int) (c : Nat) : Prop := c < 3125 ∧ isB p (dcd c) = true

theorem isB_dig {p : Int} {t : Nat → Int} (h : isB p t = true) (i : Nat) (hi : i < 5) : 0 ≤ t i ∧ t i < 5 := by
  have hp := isB_pts h
  by_cases c : (i : Int) < p
  · have := ok_at h i c; omega
  · have := ok_past h i (by omega) hi; omega

theorem dcd_ecd {p : Int} {t : Nat → Int} (h : isB p t = true) (i : Nat) (hi : i < 5) : dcd (ecd t) i = t i := by
  have h0 := isB_dig h 0 (by omega)
  have h1 := isB_dig h 1 (by omega)
  have h2 := isB_dig h 2 (by omega)
  have h3 := isB_dig h 3 (by omega)
  have h4 := isB_dig h 4 (by omega)
  rcases (by omega : i = 0 ∨ i = 1 ∨ i = 2 ∨ i = 3 ∨ i = 4) with rfl | rfl | rfl | rfl | rfl <;> (simp only [dcd, ecd]; omega)

theorem ecd_dcd {c : Nat} (h : c < 3125) : ecd (dcd c) = c := by
  simp only [ecd, dcd, Int.toNat_natCast]; omega

theorem isB_congr {p : Int} {s t : Nat → Int} (h : ∀ i, i < 5 → s i = t i) : isB p s = isB p t := by
  rw [Bool.eq_iff_iff, isB_true, isB_true]
  unfold okAt
  constructor
  · rintro ⟨a, b, c⟩; exact ⟨a, b, fun i hi => by rw [← h i hi]; exact c i hi⟩
  · rintro ⟨a, b, c⟩; exact ⟨a, b, fun i hi => by rw [h i hi]; exact c i hi⟩

theorem ecd_lt {p : Int} {t : Nat → Int} (h : isB p t = true) : ecd t < 3125 := by
  have h0 := isB_dig h 0 (by omega)
  have h1 := isB_dig h 1 (by omega)
  have h2 := isB_dig h 2 (by omega)
  have h3 := isB_dig h 3 (by omega)
  have h4 := isB_dig h 4 (by omega)
  unfold ecd; omega

theorem vld_ecd {p : Int} {t : Nat → Int} (h : isB p t = true) : vld p (ecd t) :=
  ⟨ecd_lt h, by rw [isB_congr (fun i hi => dcd_ecd h i hi)]; exact h⟩

theorem mcells_ecd {p : Int} {t : Nat → Int} (h : isB p t = true) : mcells p (dcd (ecd t)) = mcells p t := mcells_ext rfl fun i hi => dcd_ecd h i hi

theorem mul_congr {p : Int} {f f' g g' : Nat → Int} (hf : isB p f = true) (ef : ∀ i, i < 5 → f i = f' i) (eg : ∀ i, i < 5 → g i = g' i) : mul p f g = mul p f' g' := by
  funext i
  have hp := isB_pts hf
  by_cases c : (i : Int) < p
  · have := ok_at hf i c
    rw [mul_lt _ _ _ c, mul_lt _ _ _ c, ← ef i (by omega), eg _ (by omega)]
  · rw [mul_ge _ _ _ (by omega), mul_ge _ _ _ (by omega)]

/-- The product of two maps, by numbers. -/
def mulC (p : Int) (a b : Nat) : Nat := ecd (mul p (dcd a) (dcd b))
/-- The identity, by its number. -/
def idC (p : Int) : Nat := ecd (idn p)

theorem mulC_vld {p : Int} {a b : Nat} (ha : vld p a) (hb : vld p b) : vld p (mulC p a b) := vld_ecd (mul_ok ha.2 hb.2)
theorem idC_vld {p : Int} (h1 : 1 ≤ p) (h5 : p ≤ 5) : vld p (idC p) := vld_ecd (idn_ok h1 h5)
theorem mulC_cells {p : Int} {a b : Nat} (ha : vld p a) (hb : vld p b) : mcells p (mul p (dcd a) (dcd b)) = mcells p (dcd (mulC p a b)) := (mcells_ecd (mul_ok ha.2 hb.2)).symm

theorem dcd_inj {a b : Nat} (ha : a < 3125) (hb : b < 3125) (h : ∀ i, i < 5 → dcd a i = dcd b i) : a = b := by
  have h0 := h 0 (by omega)
  have h1 := h 1 (by omega)
  have h2 := h 2 (by omega)
  have h3 := h 3 (by omega)
  have h4 := h 4 (by omega)
  simp only [dcd] at h0 h1 h2 h3 h4
  omega

end Go.Proofs.Ytiogagaclhjdaaa
