/- From a contract of a law's walk to its row: what an argument of the law holds, opened. -/
import Derived.Test.YthblbamiammodaaRows
import Derived.Test.YthblbamiammodaaBase
import Derived.ProofKit
import Derived.OpenShut
import Derived.Below
import Derived.ChangeOld
namespace Go.Proofs.Ythblbamiammodaa
open Go.ChangeShapes Go.WideShapes Go.ChangeAt Go.RowKit

theorem own : ownKnob Try.prog.godebug = none := by kernel_rfl

theorem laidOut : laidOutB Try.prog = true := by kernel_rfl

theorem cellsI : Try.prog.cellsOf 2 = 1 := by kernel_rfl

theorem cellsA : Try.prog.cellsOf 24 = 5 := by kernel_rfl



def tOf (a b c d e : Int) : Nat → Int | 0 => a | 1 => b | 2 => c | 3 => d | _ => e
end Go.Proofs.Ythblbamiammodaa
