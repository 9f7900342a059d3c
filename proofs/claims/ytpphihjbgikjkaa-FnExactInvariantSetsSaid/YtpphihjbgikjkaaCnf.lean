/- The contracts of impl.factorial, choose, toThePower, countOnto, and of the counting methods; spec.l09Choose and spec.l09Power. -/
import Derived.Test.YtpphihjbgikjkaaCnn
namespace Go.Proofs.Ytpphihjbgikjkaa
open Go Go.RowKit

theorem mulI {a b m : Nat} (h : a * b ≤ m) : 0 ≤ (a : Int) * (b : Int) ∧ (a : Int) * (b : Int) ≤ (m : Int) := by
  rw [← Int.natCast_mul]; omega

theorem ret_n {a : Int} {b : Nat} (h : a = (b : Int)) : Ending.returned (.int .i64 a) = .returned (.int .i64 (b : Int)) := by rw [h]





















end Go.Proofs.Ytpphihjbgikjkaa
