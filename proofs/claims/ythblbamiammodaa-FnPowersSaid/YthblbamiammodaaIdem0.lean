/- Two maps compared by ==. -/
import Derived.Test.YthblbamiammodaaBase
namespace Go.Proofs.Ythblbamiammodaa
open Go.RowKit

def eqA (s : Nat → Int) (t : Nat → Int) : Bool := s 0 == t 0 && (s 1 == t 1 && (s 2 == t 2 && (s 3 == t 3 && s 4 == t 4)))

def eqB (p : Int) (s : Nat → Int) (q : Int) (t : Nat → Int) : Bool := p == q && eqA s t

theorem range5 : [0:5].toList = [0, 1, 2, 3, 4] := rfl

theorem partA (s : Nat → Int) (i : Nat) (hi : i < 5) (w : World) : (Go.part 2 #[.int .i64 (s 0), .int .i64 (s 1), .int .i64 (s 2), .int .i64 (s 3), .int .i64 (s 4)] i).run Try.prog w = .ok (.int .i64 (s i)) w := by
  rcases (by omega : i = 0 ∨ i = 1 ∨ i = 2 ∨ i = 3 ∨ i = 4) with rfl | rfl | rfl | rfl | rfl <;> kernel_rfl

theorem sizeI (w : World) : (sizeOf 2).run Try.prog w = .ok 1 w := by kernel_rfl

theorem eqInt (d : Nat) (a b : Int) (w : World) : (Op.equalIn (d + 1) 2 (.int .i64 a) (.int .i64 b)).run Try.prog w = .ok (a == b) w := run_equalIn_int w d _ _ _ a b Try.underlying2

theorem eqArr (d : Nat) (s : Nat → Int) (t : Nat → Int) (w : World) :
    (Op.equalIn (d + 1 + 1) 24 (.agg #[.int .i64 (s 0), .int .i64 (s 1), .int .i64 (s 2), .int .i64 (s 3), .int .i64 (s 4)]) (.agg #[.int .i64 (t 0), .int .i64 (t 1), .int .i64 (t 2), .int .i64 (t 3), .int .i64 (t 4)])).run Try.prog w = .ok (eqA s t) w := by
  rw [Op.equalIn]
  simp only [Sem.run_bind, run_underlying Try.underlying24, Result.andThen_ok, sizeI, Nat.mul_one]
  simp only [Std.Legacy.Range.forIn_eq_forIn_range', Std.Legacy.Range.size]
  simp only [show List.range' 0 5 1 = [0, 1, 2, 3, 4] from rfl, Nat.sub_zero, Nat.reduceSub, Nat.reduceAdd, Nat.div_one, List.forIn_cons, Sem.run_bind, partA s 0 (by omega), partA t 0 (by omega), Result.andThen_ok, eqInt]
  unfold eqA
  by_cases h0 : s 0 = t 0
  · by_cases h1 : s 1 = t 1
    · by_cases h2 : s 2 = t 2
      · by_cases h3 : s 3 = t 3
        · by_cases h4 : s 4 = t 4
          · simp [go_sem, h0, h1, h2, h3, h4]
          · simp [go_sem, h0, h1, h2, h3, h4]
        · simp [go_sem, h0, h1, h2, h3]
      · simp [go_sem, h0, h1, h2]
    · simp [go_sem, h0, h1]
  · simp [go_sem, h0]

theorem eqM (p : Int) (s : Nat → Int) (q : Int) (t : Nat → Int) (w : World) :
    (Op.equalIn 10000 26 (.agg #[.int .i64 p, .int .i64 (s 0), .int .i64 (s 1), .int .i64 (s 2), .int .i64 (s 3), .int .i64 (s 4)]) (.agg #[.int .i64 q, .int .i64 (t 0), .int .i64 (t 1), .int .i64 (t 2), .int .i64 (t 3), .int .i64 (t 4)])).run Try.prog w = .ok (eqB p s q t) w := by
  have h := eqArr 9997 s t w
  simp only [Nat.reduceAdd] at h
  rw [run_equalIn_agg _ _ _ _ _ (by kernel_rfl) (by kernel_rfl)]
  simp [go_sem, Program.fieldsOf, Op.eqFields, h]
  unfold eqB
  by_cases e : p = q
  · simp [e]; cases eqA s t <;> simp
  · simp [e]

theorem runEqM (p : Int) (s : Nat → Int) (q : Int) (t : Nat → Int) (w : World) :
    (binOp .eql 26 (.agg #[.int .i64 p, .int .i64 (s 0), .int .i64 (s 1), .int .i64 (s 2), .int .i64 (s 3), .int .i64 (s 4)]) (.agg #[.int .i64 q, .int .i64 (t 0), .int .i64 (t 1), .int .i64 (t 2), .int .i64 (t 3), .int .i64 (t 4)])).run Try.prog w = .ok (.bool (eqB p s q t)) w := by
  rw [run_eql_struct, eqM]; rfl

theorem runNeM (p : Int) (s : Nat → Int) (q : Int) (t : Nat → Int) (w : World) :
    (binOp .neq 26 (.agg #[.int .i64 p, .int .i64 (s 0), .int .i64 (s 1), .int .i64 (s 2), .int .i64 (s 3), .int .i64 (s 4)]) (.agg #[.int .i64 q, .int .i64 (t 0), .int .i64 (t 1), .int .i64 (t 2), .int .i64 (t 3), .int .i64 (t 4)])).run Try.prog w = .ok (.bool (!eqB p s q t)) w := by
  rw [run_neq_struct, eqM]; rfl
end Go.Proofs.Ythblbamiammodaa
