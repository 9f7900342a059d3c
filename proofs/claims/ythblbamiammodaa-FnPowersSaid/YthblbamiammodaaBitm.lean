/- Lists of points as sets, moved sets and sets that are led into a set, told without Go. -/
import Derived.Test.YthblbamiammodaaSetc
import Derived.Test.YthblbamiammodaaImage
namespace Go.Proofs.Ythblbamiammodaa
open Go.RowKit

/-- The points among the first k of a list. -/
def memK (L : List Int) (k : Nat) : Nat → Bool := fun j => (List.range k).any fun i => L.getD i 0 == (j : Int)
def memB (L : List Int) : Nat → Bool := memK L L.length
/-- The points to which the first k points of a set are led. -/
def movK (t : Nat → Int) (s : Nat → Bool) (k : Nat) : Nat → Bool := fun j => (List.range k).any fun i => s i && t i == (j : Int)
/-- The points to which the first k points of a list are led. -/
def lisK (t : Nat → Int) (L : List Int) (k : Nat) : Nat → Bool := fun j => (List.range k).any fun i => t (L.getD i 0).toNat == (j : Int)

theorem setB_any (b : Nat → Bool) (g : Nat → Int) (x : Nat) (k : Nat) (h0 : g k = (x : Int)) (hb : ∀ j, b j = (List.range k).any fun i => g i == (j : Int)) :
    setB b x = fun (j : Nat) => (List.range (k + 1)).any fun i => g i == (j : Int) := by
  funext j
  unfold setB
  rw [List.range_succ, List.any_append]
  by_cases h : j = x
  · rw [if_pos h]; subst h; simp [h0]
  · rw [if_neg h, hb]
    have : (g k == (j : Int)) = false := by rw [h0]; simp; omega
    simp [this]

theorem memK_succ (L : List Int) (k : Nat) (h0 : 0 ≤ L.getD k 0) : setB (memK L k) (L.getD k 0).toNat = memK L (k + 1) :=
  setB_any _ (fun i => L.getD i 0) _ k (Int.toNat_of_nonneg h0).symm (fun _ => rfl)

theorem lisK_succ (t : Nat → Int) (L : List Int) (k : Nat) (h0 : 0 ≤ t (L.getD k 0).toNat) : setB (lisK t L k) (t (L.getD k 0).toNat).toNat = lisK t L (k + 1) :=
  setB_any _ (fun i => t (L.getD i 0).toNat) _ k (Int.toNat_of_nonneg h0).symm (fun _ => rfl)

theorem movK_yes (t : Nat → Int) (s : Nat → Bool) (k : Nat) (hs : s k = true) (h0 : 0 ≤ t k) : setB (movK t s k) (t k).toNat = movK t s (k + 1) := by
  funext j
  unfold setB movK
  rw [List.range_succ, List.any_append]
  by_cases h : j = (t k).toNat
  · rw [if_pos h]; subst h; simp [hs]; right; omega
  · rw [if_neg h]
    have : (t k == (j : Int)) = false := by simp; omega
    simp [this]

theorem movK_no (t : Nat → Int) (s : Nat → Bool) (k : Nat) (hs : s k = false) : movK t s k = movK t s (k + 1) := by
  funext j
  unfold movK
  rw [List.range_succ, List.any_append]
  simp [hs]

theorem ptsB_at {n : Int} {L : List Int} (h : ptsB n L = true) (k : Nat) (hk : k < L.length) : 0 ≤ L.getD k 0 ∧ L.getD k 0 < n := by
  unfold ptsB at h
  rw [List.all_eq_true] at h
  refine ⟨ok_nonneg k (fun j hj => h j (by simp; omega)), ?_⟩
  have := h k (by simpa using hk)
  unfold okK at this
  simp only [Bool.and_eq_true, decide_eq_true_eq] at this
  exact this.2

/-- The image of a list is the moved set of its points. -/
theorem lis_mov {p : Int} {t : Nat → Int} {L : List Int} (h : ptsB p L = true) : lisK t L L.length = movK t (memB L) p.toNat := by
  funext j
  rw [Bool.eq_iff_iff]
  unfold lisK movK memB memK
  simp only [List.any_eq_true, List.mem_range, beq_iff_eq, Bool.and_eq_true]
  constructor
  · rintro ⟨i, hi, e⟩
    have hb := ptsB_at h i hi
    exact ⟨(L.getD i 0).toNat, by omega, ⟨i, hi, by omega⟩, e⟩
  · rintro ⟨x, hx, ⟨i, hi, e⟩, e'⟩
    exact ⟨i, hi, by rw [e]; simpa using e'⟩

theorem memB_contains {L : List Int} (x : Int) (h0 : 0 ≤ x) : memB L x.toNat = L.contains x := by
  rw [Bool.eq_iff_iff]
  unfold memB memK
  rw [List.contains_iff_mem, List.any_eq_true]
  constructor
  · rintro ⟨i, hi, e⟩
    have hi : i < L.length := by simpa using hi
    simp [hi] at e
    rw [show x = L[i] by omega]
    exact List.getElem_mem hi
  · intro h
    obtain ⟨i, hi, e⟩ := List.mem_iff_getElem.1 h
    refine ⟨i, by simpa using hi, ?_⟩
    simp [hi]
    omega

/-- The set with its points from 5 on left out. -/
def cut5 (b : Nat → Bool) : Nat → Bool := fun i => if i < 5 then b i else false

theorem asc_cut5 (b : Nat → Bool) : ∀ n, 5 ≤ n → ascK (cut5 b) n = asc b
  | 0, h => by omega
  | n + 1, h => by
    by_cases e : n = 4
    · subst e
      unfold asc ascK
      congr 1
    · rw [ascK_succ, if_neg (by unfold cut5; rw [if_neg (by omega)]; exact Bool.false_ne_true)]
      exact asc_cut5 b n (by omega)

theorem and_mask (b : Nat → Bool) (j : Nat) (hj : j < 5) : (bits BinOp.and IntKind.i64 (mask b / 2 ^ j) 1 == 1) = b j := by
  unfold mask
  rcases (by omega : j = 0 ∨ j = 1 ∨ j = 2 ∨ j = 3 ∨ j = 4) with rfl | rfl | rfl | rfl | rfl <;> cases b 0 <;> cases b 1 <;> cases b 2 <;> cases b 3 <;> cases b 4 <;> decide +kernel

theorem pow_32 : ∀ j, 5 ≤ j → (32 : Int) ≤ 2 ^ j
  | 0, h => by omega
  | j + 1, h => by
    by_cases e : j = 4
    · subst e; decide
    · have := pow_32 j (by omega)
      rw [Int.pow_succ]; omega

theorem and_mask_all (b : Nat → Bool) (j : Nat) : (bits BinOp.and IntKind.i64 (mask b / 2 ^ j) 1 == 1) = cut5 b j := by
  unfold cut5
  by_cases h : j < 5
  · rw [if_pos h, and_mask b j h]
  · rw [if_neg h]
    have h1 := mask_bd b
    have h2 := pow_32 j (by omega)
    rw [Int.ediv_eq_zero_of_lt h1.1 (by omega)]
    decide +kernel
end Go.Proofs.Ythblbamiammodaa
