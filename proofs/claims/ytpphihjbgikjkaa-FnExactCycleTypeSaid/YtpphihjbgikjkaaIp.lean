/- The contracts of spec.IdempotentPower and impl.IdempotentPower, and of spec.CyclicPoints and impl.CyclicPoints. -/
import Derived.Test.YtpphihjbgikjkaaIpwc
import Derived.Test.YtpphihjbgikjkaaPoints
import Derived.Test.YtpphihjbgikjkaaFixed
namespace Go.Proofs.Ytpphihjbgikjkaa
open Go.RowKit

def ipC (p : Int) (t : Nat → Int) : Int := if isB p t = true then 0 else 1

def ipV (p : Int) (t : Nat → Int) : Value := .tuple #[mv (resP (ipC p t) p) (resT (ipC p t) (pow p t 60)), .int .i64 (ipC p t)]

theorem ipV_1 {p : Int} {t : Nat → Int} (h : isB p t = false) : ipV p t = .tuple #[mv 0 fun _ => 0, .int .i64 1] := by
  unfold ipV ipC; rw [if_neg (by rw [h]; exact Bool.false_ne_true)]; rfl

theorem ipV_0 {p : Int} {t : Nat → Int} (h : isB p t = true) : ipV p t = .tuple #[mv p (pow p t 60), .int .i64 0] := by
  unfold ipV ipC; rw [if_pos h]; rfl





/-- The cyclic points; none if the code is not 0. -/
def cycL (p : Int) (t : Nat → Int) : List Int := if isB p t = true then asc (imgB p (pow p t 60)) else []

theorem cyc_img {p : Int} {t : Nat → Int} (hf : isB p t = true) : asc (fixB p (pow p t 60)) = asc (imgB p (pow p t 60)) := by
  have hp := isB_pts hf
  refine ascK_congr _ _ 5 fun j hj => ?_
  rw [Bool.eq_iff_iff]
  unfold fixB fixK imgB imgK
  simp only [List.any_eq_true, List.mem_range, beq_iff_eq]
  constructor
  · intro h
    split at h
    · exact ⟨j, by omega, by simpa using h⟩
    · cases h
  · rintro ⟨i, hi, e⟩
    have hip : (i : Int) < p := by omega
    rw [pow_at hf _ _ hip] at e
    have hlt := orb_lt hf 60 i hip
    have ej : orb t 60 i = j := by omega
    have hjp : (j : Int) < p := by omega
    rw [if_pos (by omega)]
    have h60 := orb_60 hf i hip
    rw [show (120 : Nat) = 60 + 60 from rfl, orb_add, ej] at h60
    rw [pow_at hf _ _ hjp, h60]
    simp







end Go.Proofs.Ytpphihjbgikjkaa
