/- Whether a list is an ascending list of points: the contract of impl.areAscendingPoints. -/
import Derived.Test.YthblbamiammodaaSl
namespace Go.Proofs.Ythblbamiammodaa
open Go.RowKit

/-- The number before place k, and -1 before the first. -/
def before (L : List Int) (k : Nat) : Int := if k = 0 then -1 else L.getD (k - 1) 0

def okK (n : Int) (L : List Int) (k : Nat) : Bool := decide (before L k < L.getD k 0) && decide (L.getD k 0 < n)

def ptsB (n : Int) (L : List Int) : Bool := (List.range L.length).all (okK n L)

theorem ptsB_true {n : Int} {L : List Int} (h : ∀ k, k < L.length → okK n L k = true) : ptsB n L = true := by
  unfold ptsB; rw [List.all_eq_true]; intro k hk; exact h k (by simpa using hk)

theorem ptsB_false {n : Int} {L : List Int} (k : Nat) (hk : k < L.length) (h : okK n L k = false) : ptsB n L = false := by
  unfold ptsB; rw [List.all_eq_false]; exact ⟨k, by simpa using hk, by rw [h]; exact Bool.false_ne_true⟩

theorem before_succ (L : List Int) (k : Nat) : before L (k + 1) = L.getD k 0 := by
  unfold before; rw [if_neg (by omega)]; rfl
end Go.Proofs.Ythblbamiammodaa
