/- The contract of spec.l01Set. -/
import Derived.Test.YthblbamiammodaaPts
namespace Go.Proofs.Ythblbamiammodaa
open Go.RowKit

theorem ok_nonneg {n : Int} {L : List Int} : ∀ k, (∀ j, j < k + 1 → okK n L j = true) → 0 ≤ L.getD k 0
  | 0, h => by
    have := h 0 (by omega)
    unfold okK before at this
    simp at this
    have := this.1
    simpa using (by omega : (0:Int) ≤ L[0]?.getD 0)
  | k + 1, h => by
    have h0 := ok_nonneg k (fun j hj => h j (by omega))
    have := h (k + 1) (by omega)
    unfold okK at this
    rw [before_succ] at this
    simp only [Bool.and_eq_true, decide_eq_true_eq] at this
    omega

def ptsC (p : Int) (L : List Int) : Int := if ptsB p L = true then 0 else 2

def setC (p : Int) (f : Nat → Int) (L : List Int) : Int := if isB p f = true then ptsC p L else 1
end Go.Proofs.Ythblbamiammodaa
