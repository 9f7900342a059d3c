/- The contracts of spec.l01Like, spec.ProductOf and impl.ProductOf: both give the same code and the same product. -/
import Derived.Test.YtiogagaclhjdaaaBase
namespace Go.Proofs.Ytiogagaclhjdaaa
open Go.RowKit

/-- The code of two maps with as many points. -/
def likeC (p : Int) (f : Nat → Int) (q : Int) (g : Nat → Int) : Int := if isB p f = true ∧ isB q g = true then (if p = q then 0 else 2) else 1



theorem like_cases (p : Int) (f : Nat → Int) (q : Int) (g : Nat → Int) :
    (isB p f = true ∧ isB q g = true ∧ p = q ∧ likeC p f q g = 0) ∨ (isB p f = true ∧ isB q g = true ∧ p ≠ q ∧ likeC p f q g = 2) ∨ ((isB p f = false ∨ isB q g = false) ∧ likeC p f q g = 1) := by
  unfold likeC
  cases hf : isB p f <;> cases hg : isB q g <;> by_cases h : p = q <;> simp [h]

/-- What ProductOf answers. -/
def prodV (p : Int) (f : Nat → Int) (q : Int) (g : Nat → Int) : Value := .tuple #[mv (resP (likeC p f q g) p) (resT (likeC p f q g) (mul p f g)), .int .i64 (likeC p f q g)]

theorem prodV_0 {p : Int} {f : Nat → Int} {q : Int} {g : Nat → Int} (h : likeC p f q g = 0) : prodV p f q g = .tuple #[mv p (mul p f g), .int .i64 0] := by
  unfold prodV; rw [h]; rfl

theorem prodV_1 {p : Int} {f : Nat → Int} {q : Int} {g : Nat → Int} (h : likeC p f q g = 1) : prodV p f q g = .tuple #[mv 0 fun _ => 0, .int .i64 1] := by
  unfold prodV; rw [h]; rfl

theorem prodV_2 {p : Int} {f : Nat → Int} {q : Int} {g : Nat → Int} (h : likeC p f q g = 2) : prodV p f q g = .tuple #[mv 0 fun _ => 0, .int .i64 2] := by
  unfold prodV; rw [h]; rfl
end Go.Proofs.Ytiogagaclhjdaaa
