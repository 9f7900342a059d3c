/- Numbers of accepted words by their length, told without Go: steps of a row of numbers, sums over the last points. -/
import Derived.Test.YtgiefgbpcjoieaaLst
namespace Go.Proofs.Ytgiefgbpcjoieaa
open Go Go.RowKit

/-- A sum as Go's integers have it. -/
def aw (s x : Int) : Int := IntKind.i64.wrap (s + x)
def adI (nx : Nat → Nat → Nat) (V : Nat → Int) (x : Nat) (U : Nat → Int) : Nat → (Nat → Int)
  | 0 => U
  | i + 1 => upd (adI nx V x U i) (nx x i) (aw (adI nx V x U i (nx x i)) (V x))
def adP (nx : Nat → Nat → Nat) (m : Nat) (V : Nat → Int) : Nat → (Nat → Int)
  | 0 => fun _ => 0
  | x + 1 => adI nx V x (adP nx m V x) m
/-- The words of length k, by the points that they lead to. -/
def wyK (nx : Nat → Nat → Nat) (m p F : Nat) : Nat → (Nat → Int)
  | 0 => upd (fun _ => 0) F 1
  | k + 1 => adP nx m (wyK nx m p F k) p
/-- A sum over the first j points of a list. -/
def smS (V : Nat → Int) (S : List Int) : Nat → Int
  | 0 => 0
  | j + 1 => aw (smS V S j) (V (S.getD j 0).toNat)
/-- A sum over the first x points that are told. -/
def smP (V : Nat → Int) (b : Nat → Bool) : Nat → Int
  | 0 => 0
  | x + 1 => if b x = true then aw (smP V b x) (V x) else smP V b x
def cnK (nx : Nat → Nat → Nat) (m p F : Nat) (S : List Int) (k : Nat) : List Int := (List.range k).map fun j => smS (wyK nx m p F j) S S.length
theorem cnK_len (nx : Nat → Nat → Nat) (m p F : Nat) (S : List Int) (k : Nat) : (cnK nx m p F S k).length = k := by simp [cnK]
theorem cnK_succ (nx : Nat → Nat → Nat) (m p F : Nat) (S : List Int) (k : Nat) : cnK nx m p F S (k + 1) = cnK nx m p F S k ++ [smS (wyK nx m p F k) S S.length] := by simp [cnK, List.range_succ]

def cntC (L : List MapN) (F : Int) (S : List Int) (n : Int) : Int := if accB L F S = true then (if 0 ≤ n ∧ n ≤ 20 then 0 else 2) else 1
def cntL (L : List MapN) (F : Int) (S : List Int) (n : Int) : List Int := if cntC L F S n = 0 then cnK (nxP L) L.length (fst0 L).toNat F.toNat S (n.toNat + 1) else []
theorem cntC_bad {L : List MapN} {F : Int} {S : List Int} {n : Int} (h : accB L F S = false) : cntC L F S n = 1 := by unfold cntC; rw [h]; rfl
theorem cntC_out {L : List MapN} {F : Int} {S : List Int} {n : Int} (h : accB L F S = true) (hn : ¬ (0 ≤ n ∧ n ≤ 20)) : cntC L F S n = 2 := by unfold cntC; rw [if_pos h, if_neg hn]
theorem cntC_good {L : List MapN} {F : Int} {S : List Int} {n : Int} (h : accB L F S = true) (hn : 0 ≤ n ∧ n ≤ 20) : cntC L F S n = 0 := by unfold cntC; rw [if_pos h, if_pos hn]
theorem cntL_no {L : List MapN} {F : Int} {S : List Int} {n : Int} (h : cntC L F S n ≠ 0) : cntL L F S n = [] := by unfold cntL; rw [if_neg h]
theorem cntL_yes {L : List MapN} {F : Int} {S : List Int} {n : Int} (h : cntC L F S n = 0) : cntL L F S n = cnK (nxP L) L.length (fst0 L).toNat F.toNat S (n.toNat + 1) := by unfold cntL; rw [if_pos h]

def fdP (f : Int → Nat → Int) (b : Nat → Bool) : Nat → Nat → Int → Int
  | 0, _, s => s
  | d + 1, lo, s => fdP f b d (lo + 1) (if b lo = true then f s lo else s)

theorem fdP_snoc (f : Int → Nat → Int) (b : Nat → Bool) : ∀ (d lo : Nat) (s : Int), fdP f b (d + 1) lo s = (if b (lo + d) = true then f (fdP f b d lo s) (lo + d) else fdP f b d lo s)
  | 0, lo, s => rfl
  | d + 1, lo, s => by
    have h := fdP_snoc f b d (lo + 1) (if b lo = true then f s lo else s)
    have e : lo + 1 + d = lo + (d + 1) := by omega
    rw [e] at h
    exact h

theorem fdP_list (f : Int → Nat → Int) : ∀ (d lo : Nat) (s : Int) (A : List Nat) (b : Nat → Bool), A.Pairwise (· < ·) → (∀ x ∈ A, lo ≤ x ∧ x < lo + d) → (∀ x, lo ≤ x → (b x = true ↔ x ∈ A)) → A.foldl f s = fdP f b d lo s
  | 0, lo, s, A, b, _, h2, _ => by
    cases A with
    | nil => rfl
    | cons y r => have := h2 y (by simp); omega
  | d + 1, lo, s, A, b, h1, h2, h3 => by
    show A.foldl f s = fdP f b d (lo + 1) (if b lo = true then f s lo else s)
    by_cases hlo : lo ∈ A
    · cases A with
      | nil => cases hlo
      | cons y r =>
        rw [List.pairwise_cons] at h1
        have hy : y = lo := by
          rcases List.mem_cons.1 hlo with e | e
          · exact e.symm
          · have := h1.1 lo e
            have := (h2 y (by simp)).1
            omega
        subst hy
        rw [if_pos ((h3 y (Nat.le_refl _)).2 hlo), List.foldl_cons]
        refine fdP_list f d (y + 1) _ r b h1.2 (fun x hx => ?_) (fun x hx => ?_)
        · have q1 := h1.1 x hx
          have q2 := h2 x (by simp [hx])
          omega
        · rw [h3 x (by omega), List.mem_cons]
          constructor
          · rintro (e | e)
            · omega
            · exact e
          · exact Or.inr
    · rw [if_neg (fun e => hlo ((h3 lo (Nat.le_refl _)).1 e))]
      refine fdP_list f d (lo + 1) s A b h1 (fun x hx => ?_) (fun x hx => h3 x (by omega))
      have q2 := h2 x hx
      have : x ≠ lo := fun e => hlo (by rw [← e]; exact hx)
      omega

theorem pts_at {n : Int} {S : List Int} (h : ptsB n S = true) (k : Nat) (hk : k < S.length) : before S k < S.getD k 0 ∧ S.getD k 0 < n := by
  unfold ptsB at h
  rw [List.all_eq_true] at h
  have := h k (by simpa using hk)
  unfold okK at this
  simpa using this

theorem pts_asc {n : Int} {S : List Int} (h : ptsB n S = true) : ∀ j, j < S.length → 0 ≤ S.getD j 0 ∧ ∀ i, i < j → S.getD i 0 < S.getD j 0
  | 0, hj => by
    have := pts_at h 0 hj
    unfold before at this
    simp at this
    refine ⟨?_, fun i hi => by omega⟩
    have h1 := this.1
    simp only [List.getD_eq_getElem?_getD]
    omega
  | j + 1, hj => by
    have h1 := pts_at h (j + 1) hj
    have h2 := pts_asc h j (by omega)
    unfold before at h1
    rw [if_neg (by omega)] at h1
    simp only [Nat.add_sub_cancel] at h1
    refine ⟨by omega, fun i hi => ?_⟩
    by_cases e : i = j
    · subst e; exact h1.1
    · have := h2.2 i (by omega)
      omega

theorem smS_fold (V : Nat → Int) (S : List Int) : ∀ j, j ≤ S.length → smS V S j = ((S.take j).map Int.toNat).foldl (fun s x => aw s (V x)) 0
  | 0, _ => by simp [smS]
  | j + 1, hj => by
    have h := smS_fold V S j (by omega)
    show aw (smS V S j) (V (S.getD j 0).toNat) = _
    rw [h, List.take_add_one, List.map_append, List.foldl_append, List.getElem?_eq_getElem (by omega)]
    simp [List.getD_eq_getElem?_getD, List.getElem?_eq_getElem (show j < S.length by omega)]

theorem smP_fd (V : Nat → Int) (b : Nat → Bool) : ∀ k, smP V b k = fdP (fun s x => aw s (V x)) b k 0 0
  | 0 => rfl
  | k + 1 => by
    rw [fdP_snoc, ← smP_fd V b k, Nat.zero_add]
    rfl

/-- The sum over a list of points is the sum over all points that are in it. -/
theorem smS_eq (V : Nat → Int) {p : Nat} {S : List Int} (h : ptsB (p : Int) S = true) : smS V S S.length = smP V (lastB S) p := by
  rw [smS_fold V S _ (Nat.le_refl _), smP_fd, List.take_length]
  have hval : ∀ x ∈ S, 0 ≤ x ∧ x < (p : Int) := fun x hx => by
    obtain ⟨k, hk, e⟩ := List.mem_iff_getElem.1 hx
    have q1 := (pts_asc h k hk).1
    have q2 := (pts_at h k hk).2
    rw [List.getD_eq_getElem?_getD, List.getElem?_eq_getElem hk] at q1 q2
    rw [← e]
    exact ⟨q1, q2⟩
  refine fdP_list _ p 0 0 _ (lastB S) ?_ (fun x hx => ?_) (fun x _ => ?_)
  · rw [List.pairwise_iff_getElem]
    intro i j hi hj hij
    rw [List.length_map] at hi hj
    have q1 := (pts_asc h j hj).2 i hij
    have q2 := (pts_asc h i hi).1
    rw [List.getD_eq_getElem?_getD, List.getElem?_eq_getElem hi] at q1 q2
    rw [List.getD_eq_getElem?_getD (l := S) (i := j), List.getElem?_eq_getElem hj] at q1
    simp only [List.getElem_map]
    simp only [Option.getD_some] at q1 q2
    omega
  · rw [List.mem_map] at hx
    obtain ⟨y, hy, e⟩ := hx
    have := hval y hy
    omega
  · unfold lastB
    rw [List.contains_iff_mem, List.mem_map]
    constructor
    · intro hx
      exact ⟨(x : Int), hx, by simp⟩
    · rintro ⟨y, hy, e⟩
      have := hval y hy
      rw [show (x : Int) = y by omega]
      exact hy

end Go.Proofs.Ytgiefgbpcjoieaa
