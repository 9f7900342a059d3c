/- Comparing: the plain order of maps, and the contracts of cmp.isNaN, cmp.Compare, cmp.Or, slices.Compare at two rows of five and spec.l01Less. -/
import Derived.Test.YtaabenkbcbpccaaSl
import Derived.Test.YtaabenkbcbpccaaBase
namespace Go.Proofs.Ytaabenkbcbpccaa
open Go.RowKit

/-- The order of two numbers. -/
def sg (a b : Int) : Int := if a < b then -1 else if b < a then 1 else 0

/-- The order of the first n images. -/
def cm (t u : Nat → Int) : Nat → Int
  | 0 => 0
  | n + 1 => if cm t u n = 0 then sg (t n) (u n) else cm t u n

theorem cm_same (t u : Nat → Int) : ∀ n, (∀ j, j < n → t j = u j) → cm t u n = 0
  | 0, _ => rfl
  | n + 1, h => by
    unfold cm
    rw [if_pos (cm_same t u n (fun j hj => h j (by omega))), h n (by omega)]
    unfold sg
    rw [if_neg (by omega), if_neg (by omega)]

theorem sg_ne {a b : Int} (h : a ≠ b) : sg a b ≠ 0 := by
  unfold sg; split <;> (try split) <;> omega

theorem cm_first (t u : Nat → Int) (k : Nat) (h : ∀ j, j < k → t j = u j) (hk : t k ≠ u k) : ∀ n, k < n → cm t u n = sg (t k) (u k)
  | 0, hn => by omega
  | n + 1, hn => by
    unfold cm
    by_cases e : k = n
    · subst e; rw [if_pos (cm_same t u k h)]
    · have := cm_first t u k h hk n (by omega)
      rw [this, if_neg (sg_ne hk)]

theorem sg_flip (a b : Int) : sg b a = - sg a b := by
  unfold sg; split <;> split <;> (try split) <;> omega

theorem cm_flip (t u : Nat → Int) : ∀ n, cm u t n = - cm t u n
  | 0 => rfl
  | n + 1 => by
    have := cm_flip t u n
    unfold cm
    by_cases h : cm t u n = 0
    · rw [if_pos (by omega), if_pos h, sg_flip]
    · rw [if_neg (by omega), if_neg h, this]

theorem cm_more (t u : Nat → Int) (k : Nat) (h : ∀ j, k ≤ j → t j = u j) : ∀ n, k ≤ n → cm t u n = cm t u k
  | 0, hk => by rw [show k = 0 by omega]
  | n + 1, hk => by
    by_cases e : k = n + 1
    · rw [e]
    · conv => lhs; unfold cm
      rw [cm_more t u k h n (by omega)]
      by_cases c : cm t u k = 0
      · rw [if_pos c, c, h n (by omega)]; unfold sg; rw [if_neg (by omega), if_neg (by omega)]
      · rw [if_neg c]

/-- The order of two maps. -/
def co (p q : Int) (t u : Nat → Int) : Int := if p = q then cm t u p.toNat else sg p q

theorem co_flip (p q : Int) (t u : Nat → Int) : co q p u t = - co p q t u := by
  unfold co
  by_cases h : p = q
  · rw [if_pos h, if_pos h.symm, h, cm_flip]
  · rw [if_neg h, if_neg (Ne.symm h), sg_flip]

theorem isNaN_any (a : Int) (w : World) :
    Calls Try.prog 93 #[.int .i64 a] w fun e w' => e = .returned (.bool false) ∧ w' = w := by
  go_enter Try.func93, Try.ntmps93
  go_wp2_with fail
  go_ret
  exact ⟨by simp, rfl⟩

theorem cmp_any (a b : Int) (w : World) :
    Calls Try.prog 80 #[.int .i64 a, .int .i64 b] w fun e w' => e = .returned (.int .i64 (sg a b)) ∧ w' = w := by
  have h1 := isNaN_any a w
  have h2 := isNaN_any b w
  by_cases ha : a < b
  · have e : sg a b = -1 := by unfold sg; rw [if_pos ha]
    rw [e]; clear e
    go_enter Try.func80, Try.ntmps80
    go_wp2_with fail
    go_at_call 93; refine h1.mono ?_; rintro e w' ⟨rfl, rfl⟩
    go_wp2_with fail
    go_at_call 93; refine h2.mono ?_; rintro e w' ⟨rfl, rfl⟩
    go_wp2_with fail
    go_ret
    exact ⟨rfl, rfl⟩
  · by_cases hb : b < a
    · have e : sg a b = 1 := by unfold sg; rw [if_neg ha, if_pos hb]
      rw [e]; clear e
      go_enter Try.func80, Try.ntmps80
      go_wp2_with fail
      go_at_call 93; refine h1.mono ?_; rintro e w' ⟨rfl, rfl⟩
      go_wp2_with fail
      go_at_call 93; refine h2.mono ?_; rintro e w' ⟨rfl, rfl⟩
      go_wp2_with fail
      go_ret
      exact ⟨rfl, rfl⟩
    · have e : sg a b = 0 := by unfold sg; rw [if_neg ha, if_neg hb]
      rw [e]; clear e
      go_enter Try.func80, Try.ntmps80
      go_wp2_with fail
      go_at_call 93; refine h1.mono ?_; rintro e w' ⟨rfl, rfl⟩
      go_wp2_with fail
      go_at_call 93; refine h2.mono ?_; rintro e w' ⟨rfl, rfl⟩
      go_wp2_with fail
      go_ret
      exact ⟨rfl, rfl⟩
end Go.Proofs.Ytaabenkbcbpccaa
