/- Partitions of points by numbers, and their classes as lists, told without Go. -/
import Derived.Test.YtpphihjbgikjkaaDoorSl
namespace Go.Proofs.YtpphihjbgikjkaaDoor
open Go Go.RowKit

/-- The least number that is free behind the first k points. -/
def nxK (P : List Int) : Nat → Nat
  | 0 => 0
  | k + 1 => if P.getD k 0 = (nxK P k : Int) then nxK P k + 1 else nxK P k
/-- Whether the number of point k may stand there. -/
def okP (P : List Int) (k : Nat) : Bool := decide (0 ≤ P.getD k 0) && decide (P.getD k 0 ≤ (nxK P k : Int))
/-- Whether the numbers are a partition of n points. -/
def parB (P : List Int) (n : Nat) : Bool := decide (P.length = n) && (List.range n).all (okP P)

theorem okP_iff {P : List Int} {k : Nat} : okP P k = true ↔ 0 ≤ P.getD k 0 ∧ P.getD k 0 ≤ (nxK P k : Int) := by unfold okP; rw [Bool.and_eq_true, decide_eq_true_iff, decide_eq_true_iff]
theorem parB_iff {P : List Int} {n : Nat} : parB P n = true ↔ P.length = n ∧ ∀ k, k < n → okP P k = true := by
  unfold parB
  rw [Bool.and_eq_true, decide_eq_true_iff, List.all_eq_true]
  exact ⟨fun h => ⟨h.1, fun k hk => h.2 k (List.mem_range.2 hk)⟩, fun h => ⟨h.1, fun k hk => h.2 k (List.mem_range.1 hk)⟩⟩
theorem parB_len {P : List Int} {n : Nat} (h : P.length ≠ n) : parB P n = false := by
  rw [Bool.eq_false_iff]; intro hp; exact h (parB_iff.1 hp).1
theorem parB_no {P : List Int} {n k : Nat} (hk : k < n) (h : okP P k = false) : parB P n = false := by
  rw [Bool.eq_false_iff]; intro hp; rw [(parB_iff.1 hp).2 k hk] at h; cases h
theorem nxK_le (P : List Int) : ∀ k, nxK P k ≤ k
  | 0 => Nat.le_refl _
  | k + 1 => by have := nxK_le P k; unfold nxK; split <;> omega
theorem nxK_mono (P : List Int) {j : Nat} : ∀ {k : Nat}, j ≤ k → nxK P j ≤ nxK P k
  | 0, h => by rw [show j = 0 by omega]; exact Nat.le_refl _
  | k + 1, h => by
    by_cases e : j = k + 1
    · rw [e]; exact Nat.le_refl _
    · have := nxK_mono P (j := j) (k := k) (by omega)
      show _ ≤ (if P.getD k 0 = (nxK P k : Int) then nxK P k + 1 else nxK P k)
      split <;> omega
theorem nxK_new {P : List Int} {k : Nat} (h : P.getD k 0 = (nxK P k : Int)) : nxK P (k + 1) = nxK P k + 1 := by
  show (if P.getD k 0 = (nxK P k : Int) then nxK P k + 1 else nxK P k) = _
  rw [if_pos h]
theorem nxK_old {P : List Int} {k : Nat} (h : P.getD k 0 ≠ (nxK P k : Int)) : nxK P (k + 1) = nxK P k := by
  show (if P.getD k 0 = (nxK P k : Int) then nxK P k + 1 else nxK P k) = _
  rw [if_neg h]

/-- The numbers of the points before k are below the least free one. -/
theorem par_lt {P : List Int} {k : Nat} (h : ∀ j, j < k → okP P j = true) {j : Nat} (hj : j < k) : 0 ≤ P.getD j 0 ∧ P.getD j 0 < (nxK P k : Int) := by
  obtain ⟨h0, h1⟩ := okP_iff.1 (h j hj)
  have hm := nxK_mono P (show j + 1 ≤ k by omega)
  refine ⟨h0, ?_⟩
  by_cases e : P.getD j 0 = (nxK P j : Int)
  · rw [nxK_new e] at hm; omega
  · rw [nxK_old e] at hm; omega

/-- The points of a class among the first k, ascending. -/
def rowP (P : List Int) (c k : Nat) : List Int := ((List.range k).filter fun p => P.getD p 0 == (c : Int)).map Int.ofNat
theorem rowP_succ (P : List Int) (c k : Nat) : rowP P c (k + 1) = if P.getD k 0 = (c : Int) then rowP P c k ++ [(k : Int)] else rowP P c k := by
  unfold rowP
  rw [List.range_succ, List.filter_append, List.map_append]
  by_cases h : P.getD k 0 = (c : Int)
  · rw [if_pos h]; simp only [List.filter_cons, h, beq_self_eq_true, if_true, List.filter_nil]; rfl
  · rw [if_neg h]
    have hb : (P.getD k 0 == (c : Int)) = false := by simpa using h
    simp only [List.filter_cons, hb, Bool.false_eq_true, if_false, List.filter_nil, List.map_nil, List.append_nil]
theorem rowP_len (P : List Int) (c k : Nat) : (rowP P c k).length ≤ k := by
  unfold rowP; rw [List.length_map]; exact Nat.le_trans (List.length_filter_le _ _) (by simp)
theorem rowP_mem {P : List Int} {c k : Nat} {x : Int} : x ∈ rowP P c k ↔ ∃ p : Nat, x = (p : Int) ∧ p < k ∧ P.getD p 0 = (c : Int) := by
  unfold rowP
  simp only [List.mem_map, List.mem_filter, List.mem_range, beq_iff_eq]
  constructor
  · rintro ⟨p, ⟨h1, h2⟩, rfl⟩; exact ⟨p, rfl, h1, h2⟩
  · rintro ⟨p, rfl, h1, h2⟩; exact ⟨p, ⟨h1, h2⟩, rfl⟩
theorem rowP_nil {P : List Int} {k c : Nat} (h : ∀ j, j < k → okP P j = true) (hc : nxK P k ≤ c) : rowP P c k = [] := by
  rw [List.eq_nil_iff_forall_not_mem]
  intro x hx
  obtain ⟨p, _, hp, e⟩ := rowP_mem.1 hx
  have := par_lt h hp
  omega
theorem rowP_full {P : List Int} {c : Nat} : ∀ {k : Nat}, (∀ j, j < k → okP P j = true) → c < nxK P k → rowP P c k ≠ []
  | 0, _, hc => by simp [nxK] at hc
  | k + 1, h, hc => by
    rw [rowP_succ]
    by_cases e : P.getD k 0 = (nxK P k : Int)
    · rw [nxK_new e] at hc
      by_cases e2 : P.getD k 0 = (c : Int)
      · rw [if_pos e2]; simp
      · rw [if_neg e2]; exact rowP_full (fun j hj => h j (by omega)) (by omega)
    · rw [nxK_old e] at hc
      have := rowP_full (fun j hj => h j (by omega)) hc
      split
      · simp
      · exact this

/-- The classes of the first k points. -/
def clsK (P : List Int) (k : Nat) : List (List Int) := (List.range (nxK P k)).map fun c => rowP P c k
theorem clsK_len (P : List Int) (k : Nat) : (clsK P k).length = nxK P k := by simp [clsK]
theorem clsK_at (P : List Int) (k c : Nat) (h : c < nxK P k) : (clsK P k).getD c [] = rowP P c k := by simp [clsK, h]
theorem clsK_zero (P : List Int) : clsK P 0 = [] := rfl
theorem clsK_full {P : List Int} {k : Nat} (h : ∀ j, j < k → okP P j = true) (c : Nat) (hc : c < (clsK P k).length) : (clsK P k).getD c [] ≠ [] := by
  rw [clsK_len] at hc
  rw [clsK_at _ _ _ hc]
  exact rowP_full h hc
theorem clsK_rlen (P : List Int) (k c : Nat) : ((clsK P k).getD c []).length ≤ k := by
  by_cases h : c < nxK P k
  · rw [clsK_at _ _ _ h]; exact rowP_len _ _ _
  · rw [List.getD_eq_getElem?_getD, List.getElem?_eq_none (by rw [clsK_len]; omega)]; simp

theorem clsK_new {P : List Int} {k : Nat} (h : ∀ j, j < k → okP P j = true) (e : P.getD k 0 = (nxK P k : Int)) :
    (clsK P k ++ [[]]).set (nxK P k) ([] ++ [(k : Int)]) = clsK P (k + 1) := by
  refine List.ext_getElem ?_ fun i h1 h2 => ?_
  · simp [clsK_len, nxK_new e]
  · have hi : i < nxK P k + 1 := by rw [clsK_len, nxK_new e] at h2; exact h2
    have e2 : (clsK P (k + 1))[i] = rowP P i (k + 1) := by simp [clsK]
    rw [e2, rowP_succ, List.getElem_set]
    by_cases hik : nxK P k = i
    · rw [if_pos hik, if_pos (by rw [e, hik]), ← hik, rowP_nil h (Nat.le_refl _)]
    · have hi' : i < nxK P k := by omega
      rw [if_neg hik, if_neg (by rw [e]; omega), List.getElem_append_left (by rw [clsK_len]; exact hi')]
      simp [clsK]

theorem clsK_old {P : List Int} {k c : Nat} (e : P.getD k 0 = (c : Int)) (hc : c < nxK P k) :
    (clsK P k).set c (rowP P c k ++ [(k : Int)]) = clsK P (k + 1) := by
  have hne : P.getD k 0 ≠ (nxK P k : Int) := by omega
  refine List.ext_getElem ?_ fun i h1 h2 => ?_
  · simp [clsK_len, nxK_old hne]
  · have hi : i < nxK P k := by rw [clsK_len, nxK_old hne] at h2; exact h2
    have e2 : (clsK P (k + 1))[i] = rowP P i (k + 1) := by simp [clsK]
    rw [e2, rowP_succ, List.getElem_set]
    by_cases hic : c = i
    · subst hic; rw [if_pos rfl, if_pos e]
    · rw [if_neg hic, if_neg (by rw [e]; omega)]
      simp [clsK]
end Go.Proofs.YtpphihjbgikjkaaDoor
