/- What a function of chapter 4 over a list and an element gives. -/
import Derived.Test.YtpbfpogddpmpmaaAll
import Derived.Test.YtpbfpogddpmpmaaIdl
namespace Go.Proofs.Ytpbfpogddpmpmaa
open Go Go.RowKit

noncomputable def onL (N : Int → List Nat → Nat → List Nat) (L : List MapN) (q : Int) (s : Nat → Int) : List MapN := if witC L [(q, s)] = 0 then mE (fst0 L) (N (fst0 L) (elsK L) (ecd s)) else []
noncomputable def onB (N : Int → List Nat → Nat → Bool) (L : List MapN) (q : Int) (s : Nat → Int) : Bool := decide (witC L [(q, s)] = 0) && N (fst0 L) (elsK L) (ecd s)
noncomputable def onV (N : Int → List Nat → Nat → Bool) (L : List MapN) (q : Int) (s : Nat → Int) : Value := .tuple #[.bool (onB N L q s), .int .i64 (witC L [(q, s)])]

variable {L : List MapN} {q : Int} {s : Nat → Int}
theorem onL_0 {N : Int → List Nat → Nat → List Nat} (h : witC L [(q, s)] = 0) : onL N L q s = mE (fst0 L) (N (fst0 L) (elsK L) (ecd s)) := by unfold onL; rw [if_pos h]
theorem onL_1 {N : Int → List Nat → Nat → List Nat} (h : witC L [(q, s)] ≠ 0) : onL N L q s = [] := by unfold onL; rw [if_neg h]
theorem onV_0 {N : Int → List Nat → Nat → Bool} (h : witC L [(q, s)] = 0) : onV N L q s = .tuple #[.bool (N (fst0 L) (elsK L) (ecd s)), .int .i64 0] := by unfold onV onB; rw [h]; simp
theorem onV_1 {N : Int → List Nat → Nat → Bool} (h : witC L [(q, s)] ≠ 0) : onV N L q s = .tuple #[.bool false, .int .i64 (witC L [(q, s)])] := by unfold onV onB; rw [decide_eq_false h]; rfl

/-- What a list and an element are. -/
theorem on_good (h : witC L [(q, s)] = 0) : Mon q (elsK L) ∧ fst0 L = q ∧ isB q s = true ∧ ecd s ∈ elsK L ∧ mv q (dcd (ecd s)) = mv q s := by
  obtain ⟨_, _, _, hO⟩ := wit_all h
  obtain ⟨h1, h2, h3⟩ := hO (q, s) (by simp)
  have hm := mon_els (witC_good h).1
  have h1' : fst0 L = q := h1.symm
  rw [h1'] at hm
  exact ⟨hm, h1', h2, h3, congrArg Value.agg (mcells_ecd h2)⟩

/-- The same of a list alone. -/
noncomputable def alL (N : Int → List Nat → List Nat) (L : List MapN) : List MapN := if witC L [] = 0 then mE (fst0 L) (N (fst0 L) (elsK L)) else []
noncomputable def alB (N : Int → List Nat → Bool) (L : List MapN) : Bool := decide (witC L [] = 0) && N (fst0 L) (elsK L)
noncomputable def alV (N : Int → List Nat → Bool) (L : List MapN) : Value := .tuple #[.bool (alB N L), .int .i64 (witC L [])]
theorem alL_0 {N : Int → List Nat → List Nat} (h : witC L [] = 0) : alL N L = mE (fst0 L) (N (fst0 L) (elsK L)) := by unfold alL; rw [if_pos h]
theorem alL_1 {N : Int → List Nat → List Nat} (h : witC L [] ≠ 0) : alL N L = [] := by unfold alL; rw [if_neg h]
theorem alV_0 {N : Int → List Nat → Bool} (h : witC L [] = 0) : alV N L = .tuple #[.bool (N (fst0 L) (elsK L)), .int .i64 0] := by unfold alV alB; rw [h]; simp
theorem alV_1 {N : Int → List Nat → Bool} (h : witC L [] ≠ 0) : alV N L = .tuple #[.bool false, .int .i64 (witC L [])] := by unfold alV alB; rw [decide_eq_false h]; rfl
theorem witC_els : witC L [] = elsC L [] := by
  unfold witC witB
  by_cases h : elsC L [] = 0
  · rw [if_pos h, h]; rfl
  · rw [if_neg h]

end Go.Proofs.Ytpbfpogddpmpmaa
