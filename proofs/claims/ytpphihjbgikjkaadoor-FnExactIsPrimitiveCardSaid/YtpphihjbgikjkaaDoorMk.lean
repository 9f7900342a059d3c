/- Facts of the whole program that each law of the seat asks for, proved once. -/
import Derived.Test.YtpphihjbgikjkaaDoorRows
import Derived.Test.YtpphihjbgikjkaaDoorChecked
import Derived.KernelRfl
import Derived.JoinedOf
namespace Go.Proofs.YtpphihjbgikjkaaDoor
open Go

set_option maxRecDepth 100000 in
set_option maxHeartbeats 4000000 in
theorem mk_enter : Tryd.pinned.checked.prog.mayEnter = true := by kernel_rfl
set_option maxRecDepth 100000 in
set_option maxHeartbeats 4000000 in
theorem mk_lifts : (Rows.fnExactStrongPartsRow.lifted == Tryd.pinned.checked.prog.liftsFinal) = true := by kernel_rfl
set_option maxRecDepth 100000 in
set_option maxHeartbeats 4000000 in
theorem mk_make : (Tryd.pinned.checked.prog.make == some Rows.fnExactStrongPartsRow.make) = true := by kernel_rfl

end Go.Proofs.YtpphihjbgikjkaaDoor
