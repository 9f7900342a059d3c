/- The contract of (pointSet).ascending: the ascending list of a set, in new memory. -/
import Derived.Test.YtpbfpogddpmpmaaSet
namespace Go.Proofs.Ytpbfpogddpmpmaa
open Go.RowKit

/-- The call returns a list of its own. -/
def RetOwn (B : Nat) (L : List Int) (w : World) (e : Ending) (w' : World) : Prop := ∃ v, e = .returned v ∧ Own w' B v L ∧ Below w.heap.size w w'
end Go.Proofs.Ytpbfpogddpmpmaa
