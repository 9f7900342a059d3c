/- A world in which the package's error lies in its variable. -/
import Derived.Test.YtpphihjbgikjkaaDoorBase
namespace Go.Proofs.YtpphihjbgikjkaaDoor
open Go Go.RowKit

/-- The variable holds the error. -/
def Er (w : World) : Prop := ∃ E : Addr, w.cell? ⟨0, 0, none⟩ = some (.iface 96 (.pointer (some E)))

theorem Er.below {w w' : World} {B : Nat} (h : Er w) (hb : Below B w w') (hB : w.heap.size ≤ B) : Er w' := by
  obtain ⟨E, hE⟩ := h
  have h0 := World.block_lt_of_cell? w _ hE
  exact ⟨E, ((hb.mono hB).cell (p := ⟨0, 0, none⟩) h0).trans hE⟩

theorem Er.bel {w w' : World} (h : Er w) (hb : Below w.heap.size w w') : Er w' := h.below hb (Nat.le_refl _)

end Go.Proofs.YtpphihjbgikjkaaDoor
