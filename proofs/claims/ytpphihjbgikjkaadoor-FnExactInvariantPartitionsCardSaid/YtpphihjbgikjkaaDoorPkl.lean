/- All partitions of few points, told without Go: level by level, and branch by branch. -/
import Derived.Test.YtpphihjbgikjkaaDoorLcp
namespace Go.Proofs.YtpphihjbgikjkaaDoor
open Go Go.RowKit

/-- What follows a partition of one point less. -/
def exL (P : List Int) (c : Nat) : List (List Int) := (List.range c).map fun (i : Nat) => P ++ [(i : Int)]
theorem exL_len (P : List Int) (c : Nat) : (exL P c).length = c := by simp [exL]
theorem exL_succ (P : List Int) (c : Nat) : exL P (c + 1) = exL P c ++ [P ++ [(c : Int)]] := by simp [exL, List.range_succ]
/-- The partitions of k points, in order. -/
def pkL : Nat → List (List Int)
  | 0 => [[]]
  | k + 1 => (pkL k).flatMap fun P => exL P (nxK P k + 1)
/-- What follows the first j partitions of k points. -/
def pkJ (k j : Nat) : List (List Int) := ((pkL k).take j).flatMap fun P => exL P (nxK P k + 1)
theorem pkJ_zero (k : Nat) : pkJ k 0 = [] := by simp [pkJ]
theorem pkJ_succ {k j : Nat} (h : j < (pkL k).length) : pkJ k (j + 1) = pkJ k j ++ exL ((pkL k).getD j []) (nxK ((pkL k).getD j []) k + 1) := by
  unfold pkJ
  rw [List.take_add_one, List.getElem?_eq_getElem h, List.flatMap_append, List.getD_eq_getElem?_getD, List.getElem?_eq_getElem h]
  simp
theorem pkJ_all (k : Nat) : pkJ k (pkL k).length = pkL (k + 1) := by unfold pkJ; rw [List.take_length]; rfl

theorem pk_len : ∀ k, k ≤ 5 → (pkL k).length ≤ 52 := by decide +kernel
theorem pk_par : ∀ k, k ≤ 5 → ∀ P ∈ pkL k, parB P k = true := by
  intro k hk
  rcases (by omega : k = 0 ∨ k = 1 ∨ k = 2 ∨ k = 3 ∨ k = 4 ∨ k = 5) with rfl | rfl | rfl | rfl | rfl | rfl <;> decide +kernel
theorem pk_in {k j : Nat} (h : j < (pkL k).length) : (pkL k).getD j [] ∈ pkL k := by
  rw [List.getD_eq_getElem?_getD, List.getElem?_eq_getElem h]
  exact List.getElem_mem h
theorem pkJ_len {k : Nat} (j : Nat) (hk : k ≤ 4) : (pkJ k j).length ≤ 52 := by
  have h1 : (pkJ k j).length ≤ (pkJ k (pkL k).length).length := by
    unfold pkJ
    rw [List.take_length]
    have hs : ((pkL k).take j).Sublist (pkL k) := List.take_sublist _ _
    generalize (pkL k).take j = A at *
    generalize pkL k = B at *
    induction hs with
    | slnil => simp
    | cons a _ ih => rw [List.flatMap_cons, List.length_append]; omega
    | cons_cons a _ ih => rw [List.flatMap_cons, List.flatMap_cons, List.length_append, List.length_append]; omega
  rw [pkJ_all] at h1
  have := pk_len (k + 1) (by omega)
  omega

/-- The partitions that begin with some numbers. -/
def rcL : Nat → List Int → Nat → List (List Int)
  | 0, b, _ => [b]
  | f + 1, b, m => (List.range (m + 1)).flatMap fun (c : Nat) => rcL f (b ++ [(c : Int)]) (max m (c + 1))
/-- The first c branches. -/
def rcJ (f : Nat) (b : List Int) (m c : Nat) : List (List Int) := (List.range c).flatMap fun (c : Nat) => rcL f (b ++ [(c : Int)]) (max m (c + 1))
theorem rcJ_zero (f : Nat) (b : List Int) (m : Nat) : rcJ f b m 0 = [] := rfl
theorem rcJ_succ (f : Nat) (b : List Int) (m c : Nat) : rcJ f b m (c + 1) = rcJ f b m c ++ rcL f (b ++ [(c : Int)]) (max m (c + 1)) := by
  unfold rcJ
  rw [List.range_succ, List.flatMap_append]
  simp
theorem rcJ_all (f : Nat) (b : List Int) (m : Nat) : rcJ f b m (m + 1) = rcL (f + 1) b m := rfl
theorem rc_pk : ∀ f, f ≤ 4 → rcL f [0] 1 = pkL (f + 1) := by decide +kernel
theorem rc_full : ∀ (f : Nat) (b : List Int) (m : Nat), b ≠ [] → ∀ P ∈ rcL f b m, P ≠ []
  | 0, b, m, hb, P, hP => by
    rw [rcL, List.mem_singleton] at hP
    rw [hP]; exact hb
  | f + 1, b, m, hb, P, hP => by
    rw [rcL, List.mem_flatMap] at hP
    obtain ⟨c, _, h⟩ := hP
    exact rc_full f _ _ (by simp) P h

/-- The invariant ones among the first j of some partitions, by their places. -/
def slI (L : List MapN) (W : List (List Int)) (n j : Nat) : List Nat := (List.range j).filter fun i => invB L (W.getD i []) n
theorem slI_yes {L : List MapN} {W : List (List Int)} {n j : Nat} (h : invB L (W.getD j []) n = true) : slI L W n (j + 1) = slI L W n j ++ [j] := by unfold slI; rw [List.range_succ, List.filter_append, List.filter_cons, if_pos h]; rfl
theorem slI_no {L : List MapN} {W : List (List Int)} {n j : Nat} (h : invB L (W.getD j []) n = false) : slI L W n (j + 1) = slI L W n j := by unfold slI; rw [List.range_succ, List.filter_append, List.filter_cons, if_neg (by rw [h]; exact Bool.false_ne_true), List.filter_nil, List.append_nil]
theorem slI_lt {L : List MapN} {W : List (List Int)} {n j i : Nat} (h : i ∈ slI L W n j) : i < j := by unfold slI at h; rw [List.mem_filter, List.mem_range] at h; exact h.1
theorem slI_len (L : List MapN) (W : List (List Int)) (n j : Nat) : (slI L W n j).length ≤ j := by
  unfold slI; exact Nat.le_trans (List.length_filter_le _ _) (by simp)
theorem slI_asc {L : List MapN} {W : List (List Int)} {n j a b : Nat} (hab : a < b) (hb : b < (slI L W n j).length) : (slI L W n j).getD a 0 < (slI L W n j).getD b 0 := by
  have hp : (slI L W n j).Pairwise (· < ·) := List.Pairwise.filter _ List.pairwise_lt_range
  rw [List.pairwise_iff_getElem] at hp
  have := hp a b (by omega) hb hab
  rw [List.getD_eq_getElem?_getD, List.getD_eq_getElem?_getD, List.getElem?_eq_getElem hb, List.getElem?_eq_getElem (by omega)]
  exact this
/-- The invariant partitions. -/
def ipL (L : List MapN) (n : Nat) : List (List Int) := (slI L (pkL n) n (pkL n).length).map fun i => (pkL n).getD i []
def ivpL (L : List MapN) : List (List Int) := if chkC L [] = 0 then ipL L (fst0 L).toNat else []
end Go.Proofs.YtpphihjbgikjkaaDoor
