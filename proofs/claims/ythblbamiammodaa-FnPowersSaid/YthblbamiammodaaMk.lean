/- Facts of the whole program that each law of the seat asks for, proved once. -/
import Derived.Test.YthblbamiammodaaRows
import Derived.Test.YthblbamiammodaaChecked
import Derived.KernelRfl
import Derived.JoinedOf
namespace Go.Proofs.Ythblbamiammodaa
open Go

set_option maxRecDepth 100000 in
set_option maxHeartbeats 4000000 in
theorem mk_enter : Try.pinned.checked.prog.mayEnter = true := by kernel_rfl
set_option maxRecDepth 100000 in
set_option maxHeartbeats 4000000 in
theorem mk_lifts : (Rows.fnPowersRow.lifted == Try.pinned.checked.prog.liftsFinal) = true := by kernel_rfl
set_option maxRecDepth 100000 in
set_option maxHeartbeats 4000000 in
theorem mk_make : (Try.pinned.checked.prog.make == some Rows.fnPowersRow.make) = true := by kernel_rfl

end Go.Proofs.Ythblbamiammodaa
