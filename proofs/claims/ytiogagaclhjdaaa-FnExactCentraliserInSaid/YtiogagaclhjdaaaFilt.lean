/- The contract of spec.IdempotentsOf: the elements that a test keeps. -/
import Derived.Test.YtiogagaclhjdaaaSzr
import Derived.Test.YtiogagaclhjdaaaIdem
namespace Go.Proofs.Ytiogagaclhjdaaa
open Go.RowKit Go.Maps

/-- The elements that a test keeps, or nothing. -/
noncomputable def filL (q : Int → Nat → Bool) (L : List MapN) : List MapN := if elsC L [] = 0 then mE (fst0 L) ((elsK L).filter (q (fst0 L))) else []

theorem filL_bad {q : Int → Nat → Bool} {L : List MapN} (h : elsC L [] ≠ 0) : filL q L = [] := by unfold filL; rw [if_neg h]
theorem filL_good {q : Int → Nat → Bool} {L : List MapN} (h : elsC L [] = 0) : filL q L = mE (fst0 L) ((elsK L).filter (q (fst0 L))) := by unfold filL; rw [if_pos h]

theorem filt_succ (q : Nat → Bool) (K : List Nat) (k : Nat) (hk : k < K.length) : (K.take (k + 1)).filter q = (K.take k).filter q ++ (if q (K.getD k 0) = true then [K.getD k 0] else []) := by
  rw [List.take_add_one, List.getElem?_eq_getElem hk, List.filter_append]
  have e : K.getD k 0 = K[k] := by rw [List.getD_eq_getElem?_getD, List.getElem?_eq_getElem hk]; rfl
  rw [e]
  simp only [Option.toList_some, List.filter_cons, List.filter_nil]

theorem filt_le (q : Nat → Bool) (K : List Nat) (k : Nat) : ((K.take k).filter q).length ≤ K.length := Nat.le_trans (List.length_filter_le _ _) (by rw [List.length_take]; omega)



end Go.Proofs.Ytiogagaclhjdaaa
