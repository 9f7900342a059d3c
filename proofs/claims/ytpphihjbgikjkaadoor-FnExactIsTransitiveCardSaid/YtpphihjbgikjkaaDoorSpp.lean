/- Strong parts of a list of maps, told without Go: the part of a point, the first points, the parts as classes of a numbering. -/
import Derived.Test.YtpphihjbgikjkaaDoorRch
import Derived.Test.YtpphihjbgikjkaaDoorCg
import Derived.Test.YtpphihjbgikjkaaDoorPar
namespace Go.Proofs.YtpphihjbgikjkaaDoor
open Go Go.RowKit

/-- The strong part of a point. -/
noncomputable def prtS (L : List MapN) (p : Nat) : Nat → Bool := fun q => rchS L p q && rchS L q p
theorem prtS_iff {L : List MapN} {p q : Nat} : prtS L p q = true ↔ Rch L p q ∧ Rch L q p := by unfold prtS; rw [Bool.and_eq_true, rchS_true, rchS_true]
/-- The number of what a point reaches. -/
noncomputable def orM (L : List MapN) (p : Nat) : Int := mask (rchS L p)
theorem orM_iff {L : List MapN} {n : Nat} (hok : LOk L n) {p q : Nat} (hp : p < n) (hq : q < n) : orM L p = orM L q ↔ prtS L p q = true := by
  have hn5 := hok.n5
  constructor
  · intro h
    have he := mask_ext h
    refine prtS_iff.2 ⟨rchS_true.1 ?_, rchS_true.1 ?_⟩
    · rw [he q (by omega)]; exact rchS_true.2 (Rch.refl L q)
    · rw [← he p (by omega)]; exact rchS_true.2 (Rch.refl L p)
  · intro h
    obtain ⟨h1, h2⟩ := prtS_iff.1 h
    have e : rchS L p = rchS L q := by
      funext j
      rw [Bool.eq_iff_iff, rchS_true, rchS_true]
      exact ⟨fun h => h2.trans h, fun h => h1.trans h⟩
    unfold orM
    rw [e]
theorem prtS_out {L : List MapN} {n : Nat} (hok : LOk L n) {p q : Nat} (hp : p < n) (hq : n ≤ q) : prtS L p q = false := by
  rw [Bool.eq_false_iff]
  intro h
  have := (prtS_iff.1 h).1.lt hok hp
  omega

/-- The points before k that are the first ones of their parts. -/
noncomputable def fsP (L : List MapN) (k : Nat) : List Nat := (List.range k).filter fun p => fst1 (orM L) p == p
theorem fsP_len (L : List MapN) (k : Nat) : (fsP L k).length = rkK (orM L) k := rfl
theorem fsP_yes {L : List MapN} {k : Nat} (h : fst1 (orM L) k = k) : fsP L (k + 1) = fsP L k ++ [k] := by unfold fsP; rw [List.range_succ, List.filter_append]; simp [h]
theorem fsP_no {L : List MapN} {k : Nat} (h : fst1 (orM L) k ≠ k) : fsP L (k + 1) = fsP L k := by unfold fsP; rw [List.range_succ, List.filter_append]; simp [h]
theorem fsP_in {L : List MapN} {k p : Nat} (h : p ∈ fsP L k) : p < k ∧ fst1 (orM L) p = p := by
  unfold fsP at h
  rw [List.mem_filter, List.mem_range, beq_iff_eq] at h
  exact h

/-- The points of the parts of the first k points. -/
noncomputable def metB (L : List MapN) (k : Nat) : Nat → Bool := fun q => (List.range k).any fun p => prtS L p q
theorem metB_succ (L : List MapN) (k : Nat) : unB (metB L k) (prtS L k) = metB L (k + 1) := by
  funext q
  unfold unB metB
  rw [List.range_succ, List.any_append]
  simp
theorem metB_iff {L : List MapN} {k q : Nat} : metB L k q = true ↔ ∃ p, p < k ∧ prtS L p q = true := by
  unfold metB
  rw [List.any_eq_true]
  exact ⟨fun ⟨p, h1, h2⟩ => ⟨p, List.mem_range.1 h1, h2⟩, fun ⟨p, h1, h2⟩ => ⟨p, List.mem_range.2 h1, h2⟩⟩
theorem metB_own {L : List MapN} {n : Nat} (hok : LOk L n) {k : Nat} (hk : k < n) : metB L k k = !decide (fst1 (orM L) k = k) := by
  obtain ⟨a1, a2, a3⟩ := fst1_at (orM L) k
  by_cases h : fst1 (orM L) k = k
  · rw [decide_eq_true h, Bool.not_true, Bool.eq_false_iff]
    intro hm
    obtain ⟨p, hp, hs⟩ := metB_iff.1 hm
    exact a3 p (by omega) ((orM_iff hok (by omega) hk).2 hs)
  · rw [decide_eq_false h, Bool.not_false]
    exact metB_iff.2 ⟨_, by omega, (orM_iff hok (by omega) hk).1 a1⟩
theorem metB_old {L : List MapN} {n : Nat} (hok : LOk L n) {k : Nat} (hk : k < n) (h : fst1 (orM L) k ≠ k) : metB L (k + 1) = metB L k := by
  have hm : metB L k k = true := by rw [metB_own hok hk, decide_eq_false h]; rfl
  obtain ⟨p, hp, hs⟩ := metB_iff.1 hm
  rw [← metB_succ]
  funext q
  unfold unB
  cases hq : prtS L k q
  · rw [Bool.or_false]
  · rw [Bool.or_true]
    obtain ⟨h1, h2⟩ := prtS_iff.1 hs
    obtain ⟨h3, h4⟩ := prtS_iff.1 hq
    exact (metB_iff.2 ⟨p, hp, prtS_iff.2 ⟨h1.trans h3, h4.trans h2⟩⟩).symm

/-- A set's points below k. -/
def cutK (s : Nat → Bool) (k : Nat) : Nat → Bool := fun i => decide (i < k) && s i
theorem cutK_zero (s : Nat → Bool) : cutK s 0 = fun _ => false := by funext i; simp [cutK]
theorem cutK_yes {s : Nat → Bool} {k : Nat} (h : s k = true) : setB (cutK s k) k = cutK s (k + 1) := by
  funext i
  unfold setB cutK
  by_cases e : i = k
  · subst e; simp [h]
  · rw [if_neg e, show decide (i < k + 1) = decide (i < k) by rw [decide_eq_decide]; omega]
theorem cutK_no {s : Nat → Bool} {k : Nat} (h : s k = false) : cutK s (k + 1) = cutK s k := by
  funext i
  unfold cutK
  by_cases e : i = k
  · subst e; simp [h]
  · rw [show decide (i < k + 1) = decide (i < k) by rw [decide_eq_decide]; omega]
theorem cutK_all {s : Nat → Bool} {n : Nat} (h : ∀ i, n ≤ i → s i = false) : cutK s n = s := by
  funext i
  unfold cutK
  by_cases e : i < n
  · simp [e]
  · rw [h i (by omega)]; simp

/-- The parts as masks, and as lists. -/
noncomputable def prM (L : List MapN) (k : Nat) : List Int := (fsP L k).map fun p => mask (prtS L p)
noncomputable def prR (L : List MapN) (k : Nat) : List (List Int) := (fsP L k).map fun p => asc (prtS L p)
theorem prM_len (L : List MapN) (k : Nat) : (prM L k).length = rkK (orM L) k := by unfold prM; rw [List.length_map]; rfl
theorem prR_len (L : List MapN) (k : Nat) : (prR L k).length = rkK (orM L) k := by unfold prR; rw [List.length_map]; rfl
theorem prM_yes {L : List MapN} {k : Nat} (h : fst1 (orM L) k = k) : prM L (k + 1) = prM L k ++ [mask (prtS L k)] := by unfold prM; rw [fsP_yes h, List.map_append]; rfl
theorem prM_no {L : List MapN} {k : Nat} (h : fst1 (orM L) k ≠ k) : prM L (k + 1) = prM L k := by unfold prM; rw [fsP_no h]
/-- The set of part number i. -/
noncomputable def prB (L : List MapN) (k i : Nat) : Nat → Bool := prtS L ((fsP L k).getD i 0)
theorem prM_at (L : List MapN) (k i : Nat) (h : i < rkK (orM L) k) : (prM L k).getD i 0 = mask (prB L k i) := by
  have h' : i < (fsP L k).length := h
  unfold prM prB
  rw [List.getD_eq_getElem?_getD, List.getElem?_map, List.getD_eq_getElem?_getD, List.getElem?_eq_getElem h']
  rfl
theorem prR_at (L : List MapN) (k i : Nat) (h : i < rkK (orM L) k) : (prR L k)[i]'(by rw [prR_len]; exact h) = asc (prB L k i) := by
  have h' : i < (fsP L k).length := h
  unfold prR prB
  rw [List.getElem_map, List.getD_eq_getElem?_getD, List.getElem?_eq_getElem h']
  rfl

/-- A numbering by the first one is a partition. -/
theorem nx_ker (t : Nat → Int) (n : Nat) : ∀ k, k ≤ n → nxK (kerK t n) k = rkK t k
  | 0, _ => rfl
  | k + 1, h => by
    have ih := nx_ker t n k (by omega)
    have hv := kerK_getD t n k (by omega)
    rw [rkK_succ]
    by_cases e : fst1 t k = k
    · rw [if_pos e, nxK_new (by rw [hv, ih]; exact (kvK_new t k).2 e), ih]
    · rw [if_neg e, nxK_old (by rw [hv, ih]; exact fun h => e ((kvK_new t k).1 h)), ih]
theorem par_ker (t : Nat → Int) (n : Nat) : parB (kerK t n) n = true := by
  refine parB_iff.2 ⟨kerK_len t n, fun k hk => okP_iff.2 ?_⟩
  rw [kerK_getD t n k hk, nx_ker t n k (by omega)]
  obtain ⟨a1, a2, a3⟩ := fst1_at t k
  have := rkK_mono t (fst1 t k) k a2
  unfold kvK
  omega

theorem row_prt {L : List MapN} {n : Nat} (hok : LOk L n) {k : Nat} (hk : k < n) (h : fst1 (orM L) k = k) : rowP (kerK (orM L) n) (rkK (orM L) k) n = asc (prtS L k) := by
  have hn5 := hok.n5
  have e5 : List.range 5 = List.range n ++ (List.range 5).drop n := by
    rcases (by omega : n = 0 ∨ n = 1 ∨ n = 2 ∨ n = 3 ∨ n = 4 ∨ n = 5) with rfl | rfl | rfl | rfl | rfl | rfl <;> rfl
  have h2 : ((List.range 5).drop n).filter (prtS L k) = [] := by
    rw [List.filter_eq_nil_iff]
    intro a ha
    have : n ≤ a := by
      rcases (by omega : n = 0 ∨ n = 1 ∨ n = 2 ∨ n = 3 ∨ n = 4 ∨ n = 5) with rfl | rfl | rfl | rfl | rfl | rfl <;> simp [List.range, List.range.loop] at ha <;> omega
    rw [prtS_out hok hk this]; simp
  unfold rowP asc ascK
  rw [e5, List.filter_append, h2, List.append_nil]
  congr 1
  apply List.filter_congr
  intro q hq
  have hq := List.mem_range.1 hq
  rw [kerK_getD _ _ _ hq, Bool.eq_iff_iff, beq_iff_eq, ← kvK_first h, kvK_iff, orM_iff hok hq hk, prtS_iff, prtS_iff]
  exact ⟨fun h => ⟨h.2, h.1⟩, fun h => ⟨h.2, h.1⟩⟩

theorem cls_prt {L : List MapN} {n : Nat} (hok : LOk L n) : clsK (kerK (orM L) n) n = prR L n := by
  unfold clsK
  rw [nx_ker _ _ _ (Nat.le_refl n)]
  have key : ∀ k, k ≤ n → (List.range (rkK (orM L) k)).map (fun c => rowP (kerK (orM L) n) c n) = prR L k := by
    intro k
    induction k with
    | zero => intro _; rfl
    | succ k ih =>
      intro hk
      rw [rkK_succ]
      by_cases e : fst1 (orM L) k = k
      · unfold prR
        rw [if_pos e, List.range_succ, List.map_append, ih (by omega), fsP_yes e, List.map_append]
        unfold prR
        congr 1
        show [rowP (kerK (orM L) n) (rkK (orM L) k) n] = [asc (prtS L k)]
        rw [row_prt hok (by omega) e]
      · unfold prR
        rw [if_neg e, ih (by omega), fsP_no e]
        rfl
  exact key n (Nat.le_refl n)

theorem prR_full {L : List MapN} {n : Nat} (hok : LOk L n) (j : Nat) (hj : j < (prR L n).length) : (prR L n).getD j [] ≠ [] := by
  rw [← cls_prt hok] at hj ⊢
  exact clsK_full (fun k hk => (parB_iff.1 (par_ker (orM L) n)).2 k hk) j hj
end Go.Proofs.YtpphihjbgikjkaaDoor
