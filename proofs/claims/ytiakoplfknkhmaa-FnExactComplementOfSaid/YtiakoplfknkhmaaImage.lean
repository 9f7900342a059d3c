/- The contracts of spec.l01Image, spec.l01Ones and spec.l01Rank. -/
import Derived.Test.YtiakoplfknkhmaaSl
namespace Go.Proofs.Ytiakoplfknkhmaa
open Go.RowKit

theorem or_mask (b : Nat → Bool) (j : Nat) (hj : j < 5) : bits BinOp.or IntKind.i64 (mask b) (wrap64 (2 ^ j)) = mask (setB b j) := by
  unfold mask setB
  rcases (by omega : j = 0 ∨ j = 1 ∨ j = 2 ∨ j = 3 ∨ j = 4) with rfl | rfl | rfl | rfl | rfl <;> cases b 0 <;> cases b 1 <;> cases b 2 <;> cases b 3 <;> cases b 4 <;> decide +kernel

/-- The number of the digits 1. -/
def ones : Nat → Nat → Int
  | 0, _ => 0
  | f + 1, n => if n = 0 then 0 else (n % 2 : Nat) + ones f (n / 2)

theorem ones_mask (b : Nat → Bool) : ones 6 (mask b).toNat = (asc b).length := by
  unfold mask asc ascK
  simp only [List.range, List.range.loop, List.filter]
  cases b 0 <;> cases b 1 <;> cases b 2 <;> cases b 3 <;> cases b 4 <;> decide +kernel
end Go.Proofs.Ytiakoplfknkhmaa
