/- The contract of laws.toInt64S: a copy of a list that came in. -/
import Derived.Test.YtadljicbegemlaaSl
namespace Go.Proofs.Ytadljicbegemlaa
open Go.RowKit

/-- A list that came in: empty, or its cells lie at an address. -/
def InRow (w : World) (a : Option Addr) (L : List Int) : Prop :=
  L = [] ∨ ∃ b off, a = some ⟨b, off, none⟩ ∧ b < w.heap.size ∧ ∀ i, i < L.length → w.cell? ⟨b, off + i, none⟩ = some (.int .i64 (L.getD i 0))

theorem InRow.below {w w' : World} {a : Option Addr} {L : List Int} (h : InRow w a L) (hb : Below w.heap.size w w') : InRow w' a L := by
  rcases h with h0 | ⟨b, off, ha, hlt, hc⟩
  · exact Or.inl h0
  · exact Or.inr ⟨b, off, ha, by have := hb.size; omega, fun i hi => by rw [hb.cell (p := ⟨b, off + i, none⟩) hlt]; exact hc i hi⟩

/-- The call returns a copy of its own. -/
def RetCopy (L : List Int) (w : World) (e : Ending) (w' : World) : Prop :=
  ∃ a, e = .returned (.slice a L.length L.length) ∧ Rd w' w.heap.size a L ∧ Below w.heap.size w w' ∧ a = some ⟨w.heap.size, 0, none⟩ ∧ w.heap.size < w'.heap.size



end Go.Proofs.Ytadljicbegemlaa
