/- The contracts of laws.big, laws.likeInts and laws.hasInt at lists; the number of a kernel's classes is the rank. -/
import Derived.Test.YthblbamiammodaaKer
import Derived.Test.YthblbamiammodaaFixed
namespace Go.Proofs.Ythblbamiammodaa
open Go.RowKit

theorem big_any (a : Option Addr) (n c : Nat) (w : World) :
    Calls Try.prog 4 #[.slice a n c] w fun e w' => e = .returned (.bool (decide (4096 < n))) ∧ w' = w := by
  by_cases h : 4096 < n
  · have h' : (4096 : Int) < (n : Int) := by omega
    rw [decide_eq_true h]
    go_enter Try.func4, Try.ntmps4
    go_wp2_with fail
    go_ret
    exact ⟨rfl, rfl⟩
  · have h' : ¬ (4096 : Int) < (n : Int) := by omega
    rw [decide_eq_false h]
    go_enter Try.func4, Try.ntmps4
    go_wp2_with fail
    go_ret
    exact ⟨rfl, rfl⟩

set_option maxHeartbeats 1000000 in
theorem like_same (L : List Int) (a1 a2 : Option Addr) (c1 c2 B1 B2 : Nat) (w : World) (h1 : Rd w B1 a1 L) (h2 : Rd w B2 a2 L) :
    Calls Try.prog 15 #[.slice a1 L.length c1, .slice a2 L.length c2] w fun e w' => e = .returned (.bool true) ∧ Below w.heap.size w w' := by
  have hn := h1.1
  have h1' := h1.2
  have h2' := h2.2
  clear h1 h2
  by_cases hL : L = []
  · subst hL
    clear h1' h2'
    simp only [List.length_nil]
    go_enter Try.func15, Try.ntmps15
    go_wp2_with fail
    refine wp_loop_rounds 1 ?_
    rw [rounds_succ]
    go_wp2_with fail
    go_ret
    exact ⟨rfl, Below.refl _ _⟩
  · obtain ⟨g1, rfl, _, _, hc1⟩ := h1'.resolve_left hL
    obtain ⟨g2, rfl, _, _, hc2⟩ := h2'.resolve_left hL
    have HC1 := Lib.hid hc1
    have HC2 := Lib.hid hc2
    clear h1' h2' hc1 hc2 hL
    go_enter Try.func15, Try.ntmps15
    go_wp2_with fail
    go_loopw [5] (fun i wr => ∃ k m : Nat, k ≤ L.length ∧ i = .int .i64 k ∧ wr = w.drewN m) (fun i _ => L.length - (intOf i).toNat)
    case atStart => exact ⟨0, 0, by omega, rfl, rfl⟩
    case round =>
      obtain ⟨k, m, hk, rfl, rfl⟩ := hrel
      by_cases hkl : k < L.length
      · have hkl' : (k : Int) < (L.length : Int) := by omega
        have e1 := (HC1.out k hkl).1
        have e2 := (HC2.out k hkl).1
        generalize L.getD k 0 = X at *
        go_wp2_with fail
        go_quiet (fail)
        go_wp2_with fail
        go_roundw
        case rel => exact ⟨k + 1, m + nq, by omega, by go_num, by simp⟩
        case measure => simp [intOf]; omega
      · go_wp2_with fail
        go_ret
        exact ⟨rfl, below_drewN (Below.refl _ _) _⟩

theorem ascK_set (b : Nat → Bool) (j : Nat) : ∀ n, (ascK (setB b j) n).length = (ascK b n).length + (if j < n ∧ b j = false then 1 else 0)
  | 0 => by simp [ascK]
  | n + 1 => by
    have ih := ascK_set b j n
    rw [ascK_succ, ascK_succ]
    by_cases e : j = n
    · subst e
      have h1 : setB b j j = true := by unfold setB; rw [if_pos rfl]
      rw [if_pos h1, List.length_append, ih, if_neg (by omega)]
      cases h : b j
      · rw [if_neg Bool.false_ne_true, if_pos ⟨by omega, rfl⟩]; simp
      · rw [if_pos rfl, if_neg (by simp)]; simp
    · have h1 : setB b j n = b n := by unfold setB; rw [if_neg (fun c => e c.symm)]
      rw [h1]
      have h2 : (j < n + 1 ∧ b j = false) ↔ (j < n ∧ b j = false) := by constructor <;> rintro ⟨x, y⟩ <;> exact ⟨by omega, y⟩
      cases h : b n
      · rw [if_neg Bool.false_ne_true, if_neg Bool.false_ne_true, ih]
        simp only [h2]
      · rw [if_pos rfl, if_pos rfl, List.length_append, List.length_append, ih]
        simp only [h2]
        simp only [List.length_cons, List.length_nil]
        omega

/-- As many images as first points. -/
theorem img_rk (t : Nat → Int) : ∀ k, (∀ i, i < k → 0 ≤ t i ∧ t i < 5) → (asc (imgK t k)).length = rkK t k
  | 0, _ => by
    unfold asc ascK imgK rkK
    simp
  | k + 1, h => by
    have hk := h k (by omega)
    rw [← imgK_succ t k hk.1, rkK_succ]
    unfold asc
    rw [ascK_set]
    have ih := img_rk t k (fun i hi => h i (by omega))
    unfold asc at ih
    rw [ih]
    obtain ⟨a1, a2, a3⟩ := fst1_at t k
    by_cases e : fst1 t k = k
    · rw [if_pos e, if_pos]
      refine ⟨by omega, ?_⟩
      unfold imgK
      rw [List.any_eq_false]
      intro i hi
      rw [e] at a3
      have := a3 i (by simpa using hi)
      simp
      omega
    · rw [if_neg e, if_neg]
      · rfl
      · rintro ⟨_, hb⟩
        unfold imgK at hb
        rw [List.any_eq_false] at hb
        refine hb (fst1 t k) (by simp; omega) ?_
        rw [a1]
        simp
        omega

/-- The greatest number of a class, and one more: how many classes there are. -/
def mxK (t : Nat → Int) : Nat → Int
  | 0 => 0
  | k + 1 => max (mxK t k) ((kvK t k : Int) + 1)

theorem mxK_rk (t : Nat → Int) : ∀ k, mxK t k = (rkK t k : Int)
  | 0 => rfl
  | k + 1 => by
    show max (mxK t k) _ = _
    rw [mxK_rk t k, rkK_succ]
    obtain ⟨a1, a2, a3⟩ := fst1_at t k
    by_cases e : fst1 t k = k
    · rw [if_pos e]
      unfold kvK
      rw [e]
      omega
    · rw [if_neg e]
      have hb : kvK t k + 1 ≤ rkK t k := by
        unfold kvK
        have h1 := rkK_mono t (fst1 t k + 1) k (by omega)
        rw [rkK_succ, if_pos (fst1_eq a1)] at h1
        omega
      omega

end Go.Proofs.Ythblbamiammodaa
