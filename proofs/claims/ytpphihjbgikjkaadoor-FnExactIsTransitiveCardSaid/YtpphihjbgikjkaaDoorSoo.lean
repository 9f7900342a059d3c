/- The contracts of spec.l10Code and spec.OrbitOf. -/
import Derived.Test.YtpphihjbgikjkaaDoorSob
import Derived.Deep.DeepCutAuto
namespace Go.Proofs.YtpphihjbgikjkaaDoor
open Go Go.RowKit

/-- The code of a list and a point. -/
def orbC (L : List MapN) (p : Int) : Int := if chkC L [] = 0 then (if inB p 0 (fst0 L - 1) = true then 0 else 2) else chkC L []
/-- The points to which a list leads a point. -/
noncomputable def orbL (L : List MapN) (p : Int) : List Int := if orbC L p = 0 then asc (rchS L p.toNat) else []

theorem orbC_good {L : List MapN} {p : Int} (h : chkC L [] = 0) (hb : inB p 0 (fst0 L - 1) = true) : orbC L p = 0 := by unfold orbC; rw [if_pos h, if_pos hb]
theorem orbC_out {L : List MapN} {p : Int} (h : chkC L [] = 0) (hb : inB p 0 (fst0 L - 1) = false) : orbC L p = 2 := by unfold orbC; rw [if_pos h, if_neg (by rw [hb]; exact Bool.false_ne_true)]
theorem orbC_bad {L : List MapN} {p : Int} (h : chkC L [] ≠ 0) : orbC L p = chkC L [] := by unfold orbC; rw [if_neg h]
theorem orbL_good {L : List MapN} {p : Int} (h : orbC L p = 0) : orbL L p = asc (rchS L p.toNat) := by unfold orbL; rw [if_pos h]
theorem orbL_bad {L : List MapN} {p : Int} (h : orbC L p ≠ 0) : orbL L p = [] := by unfold orbL; rw [if_neg h]





end Go.Proofs.YtpphihjbgikjkaaDoor
