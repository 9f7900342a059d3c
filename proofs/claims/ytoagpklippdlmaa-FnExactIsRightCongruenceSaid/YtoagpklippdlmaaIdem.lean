/- The contracts of impl.isIdempotent and spec.l01Idempotent. -/
import Derived.Test.YtoagpklippdlmaaIdem0
import Derived.Test.YtoagpklippdlmaaBase
import Derived.Deep.RegionHeld3
namespace Go.Proofs.Ytoagpklippdlmaa
open Go.RowKit

/-- Whether a map is idempotent. -/
def idemB (p : Int) (t : Nat → Int) : Bool := eqB p (mul p t t) p t





def idemV (p : Int) (t : Nat → Int) : Value := if isB p t = true then .tuple #[.bool (idemB p t), .int .i64 0] else .tuple #[.bool false, .int .i64 1]
end Go.Proofs.Ytoagpklippdlmaa
