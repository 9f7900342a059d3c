/- Invariant partitions and the maps of classes, told without Go. -/
import Derived.Test.YtpphihjbgikjkaaDoorPar
import Derived.Test.YtpphihjbgikjkaaDoorRch
namespace Go.Proofs.YtpphihjbgikjkaaDoor
open Go Go.RowKit

/-- Whether a map leads points of one class to points of one class. -/
def invT (P : List Int) (t : Nat → Int) (n : Nat) : Bool := (List.range n).all fun a => (List.range n).all fun b => !(P.getD a 0 == P.getD b 0) || P.getD (t a).toNat 0 == P.getD (t b).toNat 0
theorem invT_iff {P : List Int} {t : Nat → Int} {n : Nat} : invT P t n = true ↔ ∀ a, a < n → ∀ b, b < n → P.getD a 0 = P.getD b 0 → P.getD (t a).toNat 0 = P.getD (t b).toNat 0 := by
  unfold invT
  simp only [List.all_eq_true, List.mem_range, Bool.or_eq_true, Bool.not_eq_true', beq_eq_false_iff_ne, beq_iff_eq]
  constructor
  · intro h a ha b hb e
    rcases h a ha b hb with h | h
    · exact absurd e h
    · exact h
  · intro h a ha b hb
    by_cases e : P.getD a 0 = P.getD b 0
    · exact Or.inr (h a ha b hb e)
    · exact Or.inl e
theorem invT_no {P : List Int} {t : Nat → Int} {n a b : Nat} (ha : a < n) (hb : b < n) (e : P.getD a 0 = P.getD b 0) (h : P.getD (t a).toNat 0 ≠ P.getD (t b).toNat 0) : invT P t n = false := by
  rw [Bool.eq_false_iff]; intro hi; exact h (invT_iff.1 hi a ha b hb e)
/-- Whether a partition is invariant. -/
def invB (L : List MapN) (P : List Int) (n : Nat) : Bool := (List.range L.length).all fun i => invT P (L.getD i z0).2 n
theorem invB_iff {L : List MapN} {P : List Int} {n : Nat} : invB L P n = true ↔ ∀ i, i < L.length → invT P (L.getD i z0).2 n = true := by
  unfold invB
  rw [List.all_eq_true]
  exact ⟨fun h i hi => h i (List.mem_range.2 hi), fun h i hi => h i (List.mem_range.1 hi)⟩
theorem invB_no {L : List MapN} {P : List Int} {n i : Nat} (hi : i < L.length) (h : invT P (L.getD i z0).2 n = false) : invB L P n = false := by
  rw [Bool.eq_false_iff]; intro hb; rw [invB_iff.1 hb i hi] at h; cases h

/-- The first point of a class. -/
def fpC (P : List Int) (n c : Nat) : Nat := ((rowP P c n).getD 0 0).toNat
theorem fpC_in {P : List Int} {n c : Nat} (h : ∀ j, j < n → okP P j = true) (hc : c < nxK P n) : (rowP P c n).getD 0 0 = (fpC P n c : Int) ∧ fpC P n c < n ∧ P.getD (fpC P n c) 0 = (c : Int) := by
  have hne := rowP_full h hc
  have hm : (rowP P c n).getD 0 0 ∈ rowP P c n := by
    cases hr : rowP P c n with
    | nil => exact absurd hr hne
    | cons x l => simp
  obtain ⟨p, e, h1, h2⟩ := rowP_mem.1 hm
  have : fpC P n c = p := by unfold fpC; rw [e]; rfl
  rw [this]
  exact ⟨e, h1, h2⟩
/-- The images of the first k classes. -/
def qmK (P : List Int) (t : Nat → Int) (n k : Nat) : Nat → Int := fun c => if c < k then P.getD (t (fpC P n c)).toNat 0 else 0
def qmF (P : List Int) (t : Nat → Int) (n : Nat) : Nat → Int := qmK P t n (nxK P n)
theorem qmK_succ (P : List Int) (t : Nat → Int) (n k : Nat) : upd (qmK P t n k) k (P.getD (t (fpC P n k)).toNat 0) = qmK P t n (k + 1) := by
  funext c
  unfold upd qmK
  by_cases e : c = k
  · subst e; simp
  · rw [if_neg e]
    by_cases h : c < k
    · rw [if_pos h, if_pos (by omega)]
    · rw [if_neg h, if_neg (by omega)]
theorem qmK_zero (P : List Int) (t : Nat → Int) (n : Nat) : qmK P t n 0 = fun _ => 0 := by funext c; simp [qmK]
theorem qmK_at (P : List Int) (t : Nat → Int) (n k c : Nat) (h : c < k) : qmK P t n k c = P.getD (t (fpC P n c)).toNat 0 := by unfold qmK; rw [if_pos h]

/-- All points of the classes led as the first ones are: the partition is kept. -/
theorem invT_of {P : List Int} {t : Nat → Int} {n : Nat} (h : ∀ j, j < n → okP P j = true) (hq : ∀ c, c < nxK P n → ∀ p, p < n → P.getD p 0 = (c : Int) → P.getD (t p).toNat 0 = P.getD (t (fpC P n c)).toNat 0) : invT P t n = true := by
  refine invT_iff.2 fun a ha b hb e => ?_
  obtain ⟨h0, h1⟩ := par_lt h ha
  obtain ⟨c, hc⟩ := Int.eq_ofNat_of_zero_le h0
  rw [hq c (by omega) a ha hc, hq c (by omega) b hb (by rw [← e]; exact hc)]

theorem rowP_at {P : List Int} {c n j : Nat} (hj : j < (rowP P c n).length) : ∃ p : Nat, (rowP P c n).getD j 0 = (p : Int) ∧ p < n ∧ P.getD p 0 = (c : Int) := by
  have hm : (rowP P c n).getD j 0 ∈ rowP P c n := by
    rw [List.getD_eq_getElem?_getD, List.getElem?_eq_getElem hj]
    exact List.getElem_mem hj
  exact rowP_mem.1 hm
theorem rowP_has {P : List Int} {c n p : Nat} (hp : p < n) (h : P.getD p 0 = (c : Int)) : ∃ j, j < (rowP P c n).length ∧ (rowP P c n).getD j 0 = (p : Int) := by
  obtain ⟨j, hj, e⟩ := List.getElem_of_mem (rowP_mem.2 ⟨p, rfl, hp, h⟩)
  exact ⟨j, hj, by rw [List.getD_eq_getElem?_getD, List.getElem?_eq_getElem hj]; exact e⟩
end Go.Proofs.YtpphihjbgikjkaaDoor
