/- Kernels told without Go: each point has the number of the first point with its image among such first points. -/
import Derived.Test.YtooeiafkhdiepaaSl
namespace Go.Proofs.Ytooeiafkhdiepaa
open Go.RowKit

/-- The first point with the image of point k. -/
def fst1 (t : Nat → Int) (k : Nat) : Nat := ((List.range k).find? fun i => t i == t k).getD k

theorem fst1_at (t : Nat → Int) (k : Nat) : t (fst1 t k) = t k ∧ fst1 t k ≤ k ∧ ∀ i, i < fst1 t k → t i ≠ t k := by
  unfold fst1
  cases h : (List.range k).find? fun i => t i == t k with
  | none =>
    rw [List.find?_eq_none] at h
    refine ⟨rfl, Nat.le_refl _, fun i hi e => ?_⟩
    exact h i (by simpa using hi) (by simp [e])
  | some a =>
    have h1 := List.find?_some h
    have h2 := List.mem_of_find?_eq_some h
    rw [List.find?_eq_some_iff_append] at h
    obtain ⟨_, xs, ys, hab, hxs⟩ := h
    simp only [Option.getD_some]
    refine ⟨by simpa using h1, by simp at h2; omega, fun i hi e => ?_⟩
    have hlen : xs.length = a := by
      have : (List.range k)[xs.length]? = some a := by rw [hab]; simp
      rw [List.getElem?_range (by
        have := congrArg List.length hab
        simp at this; omega)] at this
      simpa using this
    have hm : i ∈ xs := by
      have : (List.range k)[i]? = some i := List.getElem?_range (by simp at h2; omega)
      rw [hab, List.getElem?_append_left (by omega)] at this
      exact List.mem_of_getElem? this
    have := hxs i hm
    simp [e] at this

theorem fst1_eq {t : Nat → Int} {i k : Nat} (e : t i = t k) : fst1 t i = fst1 t k := by
  obtain ⟨a1, _, a3⟩ := fst1_at t i
  obtain ⟨b1, _, b3⟩ := fst1_at t k
  rcases Nat.lt_trichotomy (fst1 t i) (fst1 t k) with c | c | c
  · exact absurd (a1.trans e) (b3 _ c)
  · exact c
  · exact absurd (b1.trans e.symm) (a3 _ c)

/-- How many of the first k points are the first ones with their images. -/
def rkK (t : Nat → Int) (k : Nat) : Nat := ((List.range k).filter fun i => fst1 t i == i).length

theorem rkK_succ (t : Nat → Int) (k : Nat) : rkK t (k + 1) = if fst1 t k = k then rkK t k + 1 else rkK t k := by
  unfold rkK
  rw [List.range_succ, List.filter_append]
  by_cases h : fst1 t k = k <;> simp [h]

theorem rkK_le (t : Nat → Int) : ∀ k, rkK t k ≤ k
  | 0 => Nat.le_refl _
  | k + 1 => by rw [rkK_succ]; have := rkK_le t k; split <;> omega

theorem rkK_mono (t : Nat → Int) (a : Nat) : ∀ b, a ≤ b → rkK t a ≤ rkK t b
  | 0, h => by rw [show a = 0 by omega]; exact Nat.le_refl _
  | b + 1, h => by
    by_cases e : a = b + 1
    · rw [e]; exact Nat.le_refl _
    · have := rkK_mono t a b (by omega)
      rw [rkK_succ]; split <;> omega

theorem rkK_lt (t : Nat → Int) (a b : Nat) (h : a < b) (ha : fst1 t a = a) : rkK t a < rkK t b := by
  have := rkK_mono t (a + 1) b h
  rw [rkK_succ, if_pos ha] at this
  omega

/-- The number of point k. -/
def kvK (t : Nat → Int) (k : Nat) : Int := rkK t (fst1 t k)

def kerK (t : Nat → Int) (k : Nat) : List Int := (List.range k).map (kvK t)

theorem kerK_len (t : Nat → Int) (k : Nat) : (kerK t k).length = k := by simp [kerK]

theorem kerK_succ (t : Nat → Int) (k : Nat) : kerK t (k + 1) = kerK t k ++ [kvK t k] := by simp [kerK, List.range_succ]

theorem kerK_getD (t : Nat → Int) (k i : Nat) (h : i < k) : (kerK t k).getD i 0 = kvK t i := by simp [kerK, h]

/-- What the search backwards from point i has found when m points are left. -/
def ownK (t : Nat → Int) (i m : Nat) : Int := if (List.range i).any (fun j => decide (m ≤ j) && t j == t i) = true then kvK t i else rkK t i

theorem ownK_start (t : Nat → Int) (i : Nat) : ownK t i i = rkK t i := by
  unfold ownK
  rw [if_neg]
  simp only [List.any_eq_true, List.mem_range, Bool.and_eq_true, decide_eq_true_eq, beq_iff_eq, not_exists, not_and]
  intro j h1 h2
  omega

theorem ownK_yes (t : Nat → Int) (i m : Nat) (hm : m < i) (h : t m = t i) : ownK t i m = kvK t m := by
  unfold ownK
  rw [if_pos]
  · unfold kvK; rw [fst1_eq h]
  · simp only [List.any_eq_true, List.mem_range, Bool.and_eq_true, decide_eq_true_eq, beq_iff_eq]
    exact ⟨m, hm, Nat.le_refl _, h⟩

theorem ownK_no (t : Nat → Int) (i m : Nat) (h : t m ≠ t i) : ownK t i m = ownK t i (m + 1) := by
  unfold ownK
  have : ((List.range i).any fun j => decide (m ≤ j) && t j == t i) = ((List.range i).any fun j => decide (m + 1 ≤ j) && t j == t i) := by
    rw [Bool.eq_iff_iff]
    simp only [List.any_eq_true, List.mem_range, Bool.and_eq_true, decide_eq_true_eq, beq_iff_eq]
    constructor
    · rintro ⟨j, h1, h2, h3⟩
      refine ⟨j, h1, ?_, h3⟩
      by_cases e : j = m
      · subst e; exact absurd h3 h
      · omega
    · rintro ⟨j, h1, h2, h3⟩
      exact ⟨j, h1, by omega, h3⟩
  rw [this]

theorem ownK_end (t : Nat → Int) (i : Nat) : ownK t i 0 = kvK t i := by
  unfold ownK
  split
  · rfl
  · next h =>
    simp only [List.any_eq_true, List.mem_range, Bool.and_eq_true, decide_eq_true_eq, beq_iff_eq, not_exists, not_and] at h
    obtain ⟨a1, a2, a3⟩ := fst1_at t i
    have : fst1 t i = i := by
      by_cases c : fst1 t i = i
      · exact c
      · exact absurd a1 (h _ (by omega) (by omega))
    unfold kvK
    rw [this]

theorem kvK_new (t : Nat → Int) (i : Nat) : kvK t i = rkK t i ↔ fst1 t i = i := by
  obtain ⟨a1, a2, a3⟩ := fst1_at t i
  constructor
  · intro h
    by_cases c : fst1 t i = i
    · exact c
    · have := rkK_lt t (fst1 t i) i (by omega) (fst1_eq a1)
      unfold kvK at h
      omega
  · intro h
    unfold kvK
    rw [h]

theorem kvK_bd (t : Nat → Int) (k : Nat) : 0 ≤ kvK t k ∧ kvK t k ≤ k := by
  obtain ⟨a1, a2, a3⟩ := fst1_at t k
  have := rkK_le t (fst1 t k)
  unfold kvK
  omega
end Go.Proofs.Ytooeiafkhdiepaa
