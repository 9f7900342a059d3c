/- Comparing: the plain order of maps, and the contracts of cmp.isNaN, cmp.Compare, cmp.Or, slices.Compare at two rows of five and spec.l01Less. spec.l01Less. slices.Compare at two rows of five. cmp.Or at two numbers. impl.compareMaps. -/
import Derived.Test.YtpphihjbgikjkaaDoorSl
import Derived.Test.YtpphihjbgikjkaaDoorBase
import Derived.Test.YtpphihjbgikjkaaDoorProd
import Derived.Deep.RegionHeld3
import Derived.Deep.DeepCutAuto
namespace Go.Proofs.YtpphihjbgikjkaaDoor
open Go.RowKit

/-- The order of two numbers. -/
def sg (a b : Int) : Int := if a < b then -1 else if b < a then 1 else 0

/-- The order of the first n images. -/
def cm (t u : Nat → Int) : Nat → Int
  | 0 => 0
  | n + 1 => if cm t u n = 0 then sg (t n) (u n) else cm t u n

theorem cm_same (t u : Nat → Int) : ∀ n, (∀ j, j < n → t j = u j) → cm t u n = 0
  | 0, _ => rfl
  | n + 1, h => by
    unfold cm
    rw [if_pos (cm_same t u n (fun j hj => h j (by omega))), h n (by omega)]
    unfold sg
    rw [if_neg (by omega), if_neg (by omega)]

theorem sg_ne {a b : Int} (h : a ≠ b) : sg a b ≠ 0 := by
  unfold sg; split <;> (try split) <;> omega

theorem cm_first (t u : Nat → Int) (k : Nat) (h : ∀ j, j < k → t j = u j) (hk : t k ≠ u k) : ∀ n, k < n → cm t u n = sg (t k) (u k)
  | 0, hn => by omega
  | n + 1, hn => by
    unfold cm
    by_cases e : k = n
    · subst e; rw [if_pos (cm_same t u k h)]
    · have := cm_first t u k h hk n (by omega)
      rw [this, if_neg (sg_ne hk)]

theorem sg_flip (a b : Int) : sg b a = - sg a b := by
  unfold sg; split <;> split <;> (try split) <;> omega

theorem cm_flip (t u : Nat → Int) : ∀ n, cm u t n = - cm t u n
  | 0 => rfl
  | n + 1 => by
    have := cm_flip t u n
    unfold cm
    by_cases h : cm t u n = 0
    · rw [if_pos (by omega), if_pos h, sg_flip]
    · rw [if_neg (by omega), if_neg h, this]

theorem cm_more (t u : Nat → Int) (k : Nat) (h : ∀ j, k ≤ j → t j = u j) : ∀ n, k ≤ n → cm t u n = cm t u k
  | 0, hk => by rw [show k = 0 by omega]
  | n + 1, hk => by
    by_cases e : k = n + 1
    · rw [e]
    · conv => lhs; unfold cm
      rw [cm_more t u k h n (by omega)]
      by_cases c : cm t u k = 0
      · rw [if_pos c, c, h n (by omega)]; unfold sg; rw [if_neg (by omega), if_neg (by omega)]
      · rw [if_neg c]

/-- The order of two maps. -/
def co (p q : Int) (t u : Nat → Int) : Int := if p = q then cm t u p.toNat else sg p q

theorem co_flip (p q : Int) (t u : Nat → Int) : co q p u t = - co p q t u := by
  unfold co
  by_cases h : p = q
  · rw [if_pos h, if_pos h.symm, h, cm_flip]
  · rw [if_neg h, if_neg (Ne.symm h), sg_flip]





end Go.Proofs.YtpphihjbgikjkaaDoor

namespace Go.Proofs.YtpphihjbgikjkaaDoor
open Go.RowKit

theorem sg_lt (a b : Int) : decide (sg a b = -1) = decide (a < b) := by
  unfold sg; congr 1; apply propext; split <;> (try split) <;> constructor <;> intro h <;> omega



end Go.Proofs.YtpphihjbgikjkaaDoor

namespace Go.Proofs.YtpphihjbgikjkaaDoor
open Go.RowKit



end Go.Proofs.YtpphihjbgikjkaaDoor

namespace Go.Proofs.YtpphihjbgikjkaaDoor
open Go.RowKit



end Go.Proofs.YtpphihjbgikjkaaDoor

namespace Go.Proofs.YtpphihjbgikjkaaDoor
open Go.RowKit





def orV (x y : Int) : Int := if x = 0 then y else x





theorem co_or {p q : Int} {f g : Nat → Int} (hf : isB p f = true) (hg : isB q g = true) : co p q f g = orV (sg p q) (cm f g 5) := by
  unfold co orV
  by_cases h : p = q
  · subst h
    have hp := isB_pts hf
    have hz : sg p p = 0 := by unfold sg; rw [if_neg (by omega), if_neg (by omega)]
    rw [if_pos rfl, if_pos hz]
    have h5 : ∀ n, p.toNat ≤ n → n ≤ 5 → cm f g n = cm f g p.toNat := by
      intro n
      induction n with
      | zero => intro h0 _; rw [show p.toNat = 0 by omega]
      | succ n ih =>
        intro h1 h2
        by_cases e : p.toNat = n + 1
        · rw [e]
        · conv => lhs; unfold cm
          rw [ih (by omega) (by omega)]
          by_cases c : cm f g p.toNat = 0
          · rw [if_pos c, c, ok_past hf n (by omega) (by omega), ok_past hg n (by omega) (by omega)]; rfl
          · rw [if_neg c]
    exact (h5 5 (by omega) (by omega)).symm
  · rw [if_neg h, if_neg (sg_ne h)]



end Go.Proofs.YtpphihjbgikjkaaDoor
