/- The map from images to numbers that impl.KernelOf keeps to itself, told as a datum. -/
import Derived.Test.YtooeiafkhdiepaaKerm
import Derived.Maps.OwnSet
import Derived.Maps.OwnOps
import Derived.Maps.AppendAt
namespace Go.Proofs.Ytooeiafkhdiepaa
open Go.RowKit Go.Maps

theorem ik (x : Int) : WideAt.IsKeyLit (Lit.int .i64 x) := trivial

/-- The map behind k rounds. -/
def kD (t : Nat → Int) : Nat → DataW Unit
  | 0 => .map []
  | k + 1 => if fst1 t k = k then (kD t k).put (.int .i64 (t k)) (.lit (.int .i64 (rkK t k))) else kD t k

theorem kD_new {t : Nat → Int} {k : Nat} (h : fst1 t k = k) : kD t (k + 1) = (kD t k).put (.int .i64 (t k)) (.lit (.int .i64 (rkK t k))) := by
  show (if fst1 t k = k then _ else _) = _
  rw [if_pos h]

theorem kD_old {t : Nat → Int} {k : Nat} (h : fst1 t k ≠ k) : kD t (k + 1) = kD t k := by
  show (if fst1 t k = k then _ else _) = _
  rw [if_neg h]

theorem kD_tidy (t : Nat → Int) : ∀ k, Tidy (kD t k)
  | 0 => tidy_empty
  | k + 1 => by
    by_cases h : fst1 t k = k
    · rw [kD_new h]; exact (kD_tidy t k).put (ik _) _
    · rw [kD_old h]; exact kD_tidy t k

theorem has_kD (t : Nat → Int) (x : Int) : ∀ k, Maps.has (kD t k) (.int .i64 x) = (List.range k).any fun i => t i == x
  | 0 => rfl
  | k + 1 => by
    rw [List.range_succ, List.any_append]
    obtain ⟨a1, a2, a3⟩ := fst1_at t k
    by_cases h : fst1 t k = k
    · rw [kD_new h]
      by_cases e : x = t k
      · subst e; rw [has_put_same (kD_tidy t k).isMap (ik _)]; simp
      · rw [has_put_other (fun c => e (by injection c)), has_kD t x k]
        have : (t k == x) = false := by rw [beq_eq_false_iff_ne]; exact fun c => e c.symm
        simp [this]
    · rw [kD_old h, has_kD t x k]
      by_cases e : t k = x
      · have : ((List.range k).any fun i => t i == x) = true := by
          rw [List.any_eq_true]
          exact ⟨fst1 t k, by simp; omega, by rw [a1, e]; simp⟩
        rw [this]; rfl
      · have : (t k == x) = false := by rw [beq_eq_false_iff_ne]; exact e
        simp [this]

theorem has_kD_new (t : Nat → Int) (k : Nat) : Maps.has (kD t k) (.int .i64 (t k)) = !decide (fst1 t k = k) := by
  rw [has_kD]
  obtain ⟨a1, a2, a3⟩ := fst1_at t k
  by_cases h : fst1 t k = k
  · rw [decide_eq_true h, Bool.not_true, List.any_eq_false]
    intro i hi
    rw [h] at a3
    simpa using a3 i (by simpa using hi)
  · rw [decide_eq_false h, Bool.not_false, List.any_eq_true]
    exact ⟨fst1 t k, by simp; omega, by rw [a1]; simp⟩

theorem kvK_first {t : Nat → Int} {k : Nat} (h : fst1 t k = k) : kvK t k = rkK t k := by unfold kvK; rw [h]

theorem kvK_same {t : Nat → Int} {i k : Nat} (h : t i = t k) : kvK t i = kvK t k := by unfold kvK; rw [fst1_eq h]

theorem atKey_kD (t : Nat → Int) (z : DataW Unit) : ∀ k i, i < k → (kD t k).atKey (.int .i64 (t i)) z = .lit (.int .i64 (kvK t i))
  | 0, i, h => by omega
  | k + 1, i, hi => by
    obtain ⟨a1, a2, a3⟩ := fst1_at t k
    by_cases h : fst1 t k = k
    · rw [kD_new h]
      by_cases e : t i = t k
      · rw [e, atKey_put_same (kD_tidy t k).isMap (ik _), kvK_same e, kvK_first h]
      · rw [atKey_put_other (fun c => e (by injection c)), atKey_kD t z k i (by
          by_cases c : i = k
          · subst c; exact absurd rfl e
          · omega)]
    · rw [kD_old h]
      by_cases c : i = k
      · subst c
        rw [← a1, atKey_kD t z i (fst1 t i) (by omega), kvK_same a1]
      · exact atKey_kD t z k i (by omega)

theorem size_kD (t : Nat → Int) : ∀ k, Maps.size (kD t k) = rkK t k
  | 0 => rfl
  | k + 1 => by
    rw [rkK_succ]
    by_cases h : fst1 t k = k
    · rw [kD_new h, if_pos h, size_put (kD_tidy t k), has_kD_new, decide_eq_true h, size_kD t k]
      rfl
    · rw [kD_old h, if_neg h, size_kD t k]

end Go.Proofs.Ytooeiafkhdiepaa
