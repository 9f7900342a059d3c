/- The contracts of (*monoid).elementsThat at isIdempotent and of impl.IdempotentsOf. -/
import Derived.Test.YtaabenkbcbpccaaFilt
namespace Go.Proofs.Ytaabenkbcbpccaa
open Go.RowKit Go.Maps

theorem ownM_nil {w : World} {B : Nat} : OwnM w B (.slice none 0 0) [] := ⟨by simp [mcels_nil], Or.inl ⟨rfl, rfl⟩⟩



theorem thatI_nil (b : Nat) (mo : Option Nat) (fv : Value) (w : World)
    (hm : w.heap[b]? = some (.cells #[.slice none 0 0, .map mo] 72 (0, 0))) :
    Calls Try.prog 52 #[.pointer (some ⟨b, 0, none⟩), fv] w
      fun e w' => e = .returned (.slice none 0 0) ∧ w' = w := by
  have m0 := Joins.cell_of_block hm 0
  simp only [List.getElem?_toArray, List.getElem?_cons_zero] at m0
  clear hm
  go_enter Try.func52, Try.ntmps52
  go_wp2_with fail
  refine wp_loop_rounds 1 ?_
  rw [rounds_succ]
  go_wp2_with fail
  go_ret
  exact ⟨rfl, rfl⟩

end Go.Proofs.Ytaabenkbcbpccaa
