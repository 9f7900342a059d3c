/- The contracts of spec.ImageOf and impl.ImageOf. -/
import Derived.Test.YthdjajelbpccpaaDoorBits
import Derived.Test.YthdjajelbpccpaaDoorPoints
import Derived.Test.YthdjajelbpccpaaDoorFixed
import Derived.Deep.RegionHeld3
namespace Go.Proofs.YthdjajelbpccpaaDoor
open Go.RowKit

/-- The image of a list of points; empty if the code is not 0. -/
def imsL (p : Int) (t : Nat → Int) (L : List Int) : List Int := if setC p t L = 0 then asc (movK t (memB L) p.toNat) else []

theorem setC_zero {p : Int} {t : Nat → Int} {L : List Int} (h : setC p t L = 0) : isB p t = true ∧ ptsB p L = true := by
  unfold setC ptsC at h
  constructor
  · cases hv : isB p t
    · rw [if_neg (by rw [hv]; exact Bool.false_ne_true)] at h; omega
    · rfl
  · cases hv : ptsB p L
    · split at h
      · rw [if_neg (by rw [hv]; exact Bool.false_ne_true)] at h; omega
      · omega
    · rfl

theorem setC_cases (p : Int) (t : Nat → Int) (L : List Int) : setC p t L = 0 ∨ (setC p t L ≠ 0 ∧ isB p t = false ∧ setC p t L = 1) ∨ (setC p t L ≠ 0 ∧ isB p t = true ∧ ptsB p L = false ∧ setC p t L = 2) := by
  unfold setC ptsC
  cases isB p t <;> cases ptsB p L <;> simp
end Go.Proofs.YthdjajelbpccpaaDoor
