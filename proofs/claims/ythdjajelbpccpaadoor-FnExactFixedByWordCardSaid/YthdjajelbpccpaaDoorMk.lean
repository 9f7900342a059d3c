/- Facts of the whole program that each law of the seat asks for, proved once. -/
import Derived.Test.YthdjajelbpccpaaDoorRows
import Derived.Test.YthdjajelbpccpaaDoorChecked
import Derived.KernelRfl
import Derived.JoinedOf
namespace Go.Proofs.YthdjajelbpccpaaDoor
open Go

set_option maxRecDepth 100000 in
set_option maxHeartbeats 4000000 in
theorem mk_enter : Tryd.pinned.checked.prog.mayEnter = true := by kernel_rfl
set_option maxRecDepth 100000 in
set_option maxHeartbeats 4000000 in
theorem mk_lifts : (Rows.fnExactLeadPointRow.lifted == Tryd.pinned.checked.prog.liftsFinal) = true := by kernel_rfl
set_option maxRecDepth 100000 in
set_option maxHeartbeats 4000000 in
theorem mk_make : (Tryd.pinned.checked.prog.make == some Rows.fnExactLeadPointRow.make) = true := by kernel_rfl

end Go.Proofs.YthdjajelbpccpaaDoor
