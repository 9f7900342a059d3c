/- The contracts of spec.SizeOf and impl.SizeOf. -/
import Derived.Test.YtaabenkbcbpccaaMono
namespace Go.Proofs.Ytaabenkbcbpccaa
open Go.RowKit Go.Maps

/-- The size, or nothing, and the code. -/
noncomputable def sizeV (L : List MapN) : Value := .tuple #[.int .i64 (elsL L []).length, .int .i64 (elsC L [])]

theorem elsL_bad {L O : List MapN} (h : elsC L O ≠ 0) : elsL L O = [] := by unfold elsL; rw [if_neg h]
theorem elsL_good {L O : List MapN} (h : elsC L O = 0) : elsL L O = mE (fst0 L) (elsK L) := by unfold elsL; rw [if_pos h]





/-! The contracts of spec.ElementsOf and impl.ElementsOf. -/



theorem elsK_le {L O : List MapN} (h : elsC L O = 0) (hI : Cinv (fst0 L) (codes L) (cfin (fst0 L) (codes L))) : (elsK L).length ≤ 300 := by
  have e : (elsK L).length = (cfin (fst0 L) (codes L)).E.length := srtE_len _ hI.nd
  unfold elsC at h
  by_cases hc : chkC L O = 0
  · rw [if_pos hc] at h
    by_cases h3 : 300 < (cfin (fst0 L) (codes L)).E.length
    · rw [if_pos h3] at h; simp at h
    · omega
  · rw [if_neg hc] at h; exact absurd h hc



end Go.Proofs.Ytaabenkbcbpccaa
