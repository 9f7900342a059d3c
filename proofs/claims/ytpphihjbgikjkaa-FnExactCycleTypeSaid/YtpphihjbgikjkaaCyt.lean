/- Lengths of cycles, in descending order, told without Go. -/
import Derived.Test.YtpphihjbgikjkaaBsp
namespace Go.Proofs.Ytpphihjbgikjkaa
open Go Go.RowKit

/-- Whether steps from p lead to x. -/
def rcB (t : Nat → Int) (p x : Nat) : Bool := (List.range 60).any fun j => orb t j p == x
/-- How many points steps from p lead to. -/
def cyN (t : Nat → Int) (p : Nat) : Nat := ((List.range 5).filter (rcB t p)).length
theorem cyN_le (t : Nat → Int) (p : Nat) : cyN t p ≤ 5 := by
  unfold cyN; exact Nat.le_trans (List.length_filter_le _ _) (by simp)

/-- A point of a cycle. -/
theorem rcB_iff {t : Nat → Int} {p x : Nat} (h : orb t 60 p = p) : rcB t p x = true ↔ ∃ j, x = orb t j p := by
  unfold rcB
  rw [List.any_eq_true]
  constructor
  · rintro ⟨j, _, e⟩
    exact ⟨j, (beq_iff_eq.1 e).symm⟩
  · rintro ⟨j, rfl⟩
    refine ⟨j % 60, List.mem_range.2 (Nat.mod_lt _ (by decide)), ?_⟩
    rw [beq_iff_eq]
    exact (orb_mod h j).symm

theorem len_cyc {n : Nat} {t : Nat → Int} (ht : isB (n : Int) t = true) {p : Nat} (hp : p < n) (h : orb t 60 p = p) {E : List Nat} (hn : E.Nodup) (hm : ∀ x, x ∈ E ↔ ∃ j, x = orb t j p) : E.length = cyN t p := by
  have h5 := (isB_pts ht).2
  have hlt : ∀ j, orb t j p < 5 := fun j => by have := orb_lt ht j p (by omega); omega
  unfold cyN
  refine Nat.le_antisymm (nodup_sub _ _ hn fun x hx => ?_) (nodup_sub _ _ (List.nodup_range.filter _) fun x hx => ?_)
  · obtain ⟨j, rfl⟩ := (hm x).1 hx
    rw [List.mem_filter, List.mem_range]
    exact ⟨hlt j, (rcB_iff h).2 ⟨j, rfl⟩⟩
  · rw [List.mem_filter] at hx
    exact (hm x).2 ((rcB_iff h).1 hx.2)

/-- The first way back. -/
theorem len_back {n : Nat} {t : Nat → Int} (ht : isB (n : Int) t = true) {p : Nat} (hp : p < n) (h : orb t 60 p = p) {L : Nat} (h1 : 1 ≤ L) (hL : orb t L p = p) (hf : ∀ i, 1 ≤ i → i < L → orb t i p ≠ p) : L = cyN t p := by
  have hnd : ((List.range L).map fun j => orb t j p).Nodup := by
    rw [List.nodup_iff_pairwise_ne, List.pairwise_iff_getElem]
    intro i j hi hj hij e
    simp only [List.length_map, List.length_range] at hi hj
    simp only [List.getElem_map, List.getElem_range] at e
    refine hf (L - (j - i)) (by omega) (by omega) ?_
    have e1 : orb t (L - j) (orb t i p) = orb t (L - j) (orb t j p) := by rw [e]
    rw [← orb_add, ← orb_add, show j + (L - j) = L by omega, hL] at e1
    rw [show L - (j - i) = i + (L - j) by omega]
    exact e1
  have := len_cyc ht hp h hnd fun x => by
    rw [List.mem_map]
    constructor
    · rintro ⟨j, _, rfl⟩; exact ⟨j, rfl⟩
    · rintro ⟨j, rfl⟩
      exact ⟨j % L, List.mem_range.2 (Nat.mod_lt _ h1), (orb_mod hL j).symm⟩
  rw [← this]
  simp

/-- The least point of its cycle lies on it. -/
theorem bs_cyc {n : Nat} {t : Nat → Int} (ht : isB (n : Int) t = true) {p : Nat} (hp : p < n) (h : bsF t (orb t 60 p) = (p : Int)) : orb t 60 p = p := by
  have hc := cyc_60 ht (x := p) (by omega)
  obtain ⟨⟨j, hj⟩, _⟩ := bsF_lst hc
  have e : p = orb t j (orb t 60 p) := by omega
  have e2 : orb t 60 (orb t j (orb t 60 p)) = orb t j (orb t 60 p) := by rw [← orb_add, Nat.add_comm, orb_add, hc]
  rw [← e] at e2
  exact e2

/-- The lengths of the cycles of the first k points, by their least points. -/
def lnL (t : Nat → Int) (k : Nat) : List Int := ((List.range k).filter fun p => bsF t (orb t 60 p) == (p : Int)).map fun (p : Nat) => (cyN t p : Int)
theorem lnL_yes {t : Nat → Int} {k : Nat} (h : bsF t (orb t 60 k) = (k : Int)) : lnL t (k + 1) = lnL t k ++ [(cyN t k : Int)] := by
  unfold lnL
  rw [List.range_succ, List.filter_append, List.map_append, List.filter_cons, if_pos (by rw [beq_iff_eq]; exact h)]
  rfl
theorem lnL_no {t : Nat → Int} {k : Nat} (h : bsF t (orb t 60 k) ≠ (k : Int)) : lnL t (k + 1) = lnL t k := by
  unfold lnL
  rw [List.range_succ, List.filter_append, List.filter_cons, if_neg (by rw [beq_iff_eq]; exact h), List.filter_nil, List.append_nil]
theorem lnL_len (t : Nat → Int) (k : Nat) : (lnL t k).length ≤ k := by
  unfold lnL
  rw [List.length_map]
  exact Nat.le_trans (List.length_filter_le _ _) (by simp)
theorem lnL_mem {t : Nat → Int} {k : Nat} {x : Int} (h : x ∈ lnL t k) : 0 ≤ x ∧ x ≤ 5 := by
  unfold lnL at h
  obtain ⟨p, _, rfl⟩ := List.mem_map.1 h
  have := cyN_le t p
  omega

/-- Descending. -/
def dsc (L : List Int) : Prop := L.Pairwise fun a b => b ≤ a
theorem dsc_one : ∀ {L M : List Int}, dsc L → dsc M → L.Perm M → L = M
  | [], M, _, _, h => (List.nil_perm.1 h).symm
  | x :: L, M, hL, hM, h => by
    have hx : x ∈ M := h.mem_iff.1 (by simp)
    cases M with
    | nil => cases hx
    | cons y M =>
      have hy : y ∈ x :: L := h.mem_iff.2 (by simp)
      have hxy : x = y := by
        unfold dsc at hL hM
        rw [List.pairwise_cons] at hL hM
        have h1 : y ≤ x := by
          rcases List.mem_cons.1 hy with e | e
          · omega
          · exact hL.1 y e
        have h2 : x ≤ y := by
          rcases List.mem_cons.1 hx with e | e
          · omega
          · exact hM.1 x e
        omega
      subst hxy
      unfold dsc at hL hM
      rw [List.pairwise_cons] at hL hM
      rw [dsc_one hL.2 hM.2 (List.Perm.cons_inv h)]

/-- A list with a number put in at place q. -/
def insT (S : List Int) (_ : Int) (q : Nat) (y : Int) : List Int := S.take q ++ [y] ++ S.drop q
theorem insT_len {S : List Int} (x : Int) {q : Nat} (y : Int) (h : q ≤ S.length) : (insT S x q y).length = S.length + 1 := by
  simp [insT]; omega
theorem insT_end (S : List Int) (x y : Int) : insT S x S.length y = S ++ [y] := by simp [insT]
theorem insT_at {S : List Int} (x : Int) {q i : Nat} (y : Int) (h : q ≤ S.length) (hi : i < q) : (insT S x q y).getD i 0 = S.getD i 0 := by
  unfold insT
  rw [List.append_assoc, List.getD_eq_getElem?_getD, List.getElem?_append_left (by rw [List.length_take]; omega), List.getElem?_take, if_pos hi, ← List.getD_eq_getElem?_getD]
theorem insT_set {S : List Int} (x : Int) {q : Nat} (y z : Int) (h : q ≤ S.length) : (insT S x q y).set q z = insT S x q z := by
  unfold insT
  rw [List.append_assoc, List.append_assoc, List.set_append_right _ _ (by rw [List.length_take]; omega), List.length_take, show q - min q S.length = 0 by omega]
  rfl
theorem insT_down {S : List Int} (x : Int) {q : Nat} (h : q < S.length) : insT S x (q + 1) (S.getD q 0) = insT S x q (S.getD q 0) := by
  unfold insT
  rw [List.take_add_one, List.getElem?_eq_getElem h, List.drop_eq_getElem_cons h, List.getD_eq_getElem?_getD, List.getElem?_eq_getElem h]
  simp
theorem insT_perm {S M : List Int} (x : Int) (q : Nat) (h : S.Perm M) : (insT S x q x).Perm (M ++ [x]) := by
  unfold insT
  have h1 : (S.take q ++ [x] ++ S.drop q).Perm (x :: (S.take q ++ S.drop q)) := by
    rw [List.append_assoc]
    exact List.perm_middle
  rw [List.take_append_drop] at h1
  exact h1.trans ((List.Perm.cons x h).trans (List.perm_append_singleton x M).symm)
theorem insT_dsc {S : List Int} {x : Int} {q : Nat} (hS : dsc S) (hq : q ≤ S.length) (h1 : q = 0 ∨ x ≤ S.getD (q - 1) 0) (h2 : ∀ i, q ≤ i → i < S.length → S.getD i 0 < x) : dsc (insT S x q x) := by
  have hg : ∀ i, i < S.length → S.getD i 0 = S[i]! := fun i hi => by simp [hi]
  have hpw := List.pairwise_iff_getElem.1 hS
  have htk : ∀ a ∈ S.take q, x ≤ a := fun a ha => by
    obtain ⟨i, hi, rfl⟩ := List.getElem_of_mem ha
    rw [List.length_take] at hi
    rcases h1 with h1 | h1
    · omega
    · rw [List.getElem_take]
      rw [List.getD_eq_getElem?_getD, List.getElem?_eq_getElem (by omega)] at h1
      have h1' : x ≤ S[q - 1] := h1
      by_cases e : i = q - 1
      · subst e; exact h1'
      · have := hpw i (q - 1) (by omega) (by omega) (by omega)
        omega
  have hdr : ∀ a ∈ S.drop q, a < x := fun a ha => by
    obtain ⟨i, hi, rfl⟩ := List.getElem_of_mem ha
    rw [List.length_drop] at hi
    rw [List.getElem_drop]
    have := h2 (q + i) (by omega) (by omega)
    rw [List.getD_eq_getElem?_getD, List.getElem?_eq_getElem (by omega)] at this
    exact this
  unfold dsc insT
  rw [List.append_assoc, List.pairwise_append]
  refine ⟨List.Pairwise.sublist (List.take_sublist _ _) hS, ?_, fun a ha b hb => ?_⟩
  · rw [List.singleton_append, List.pairwise_cons]
    exact ⟨fun b hb => by have := hdr b hb; omega, List.Pairwise.sublist (List.drop_sublist _ _) hS⟩
  · have ha2 := htk a ha
    rcases List.mem_append.1 hb with hb | hb
    · rw [List.mem_singleton.1 hb]; exact ha2
    · have := hdr b hb; omega

/-- The cycle type. -/
def cyL (t : Nat → Int) (n : Nat) : List Int := (lnL t n).mergeSort fun a b => decide (b ≤ a)
theorem cyL_perm (t : Nat → Int) (n : Nat) : (cyL t n).Perm (lnL t n) := List.mergeSort_perm _ _
theorem cyL_dsc (t : Nat → Int) (n : Nat) : dsc (cyL t n) := by
  have h := List.pairwise_mergeSort (le := fun (a b : Int) => decide (b ≤ a)) (fun a b c h1 h2 => by simp at *; omega) (fun a b => by simp; omega) (lnL t n)
  exact h.imp fun h => by simpa using h
theorem cyL_one {t : Nat → Int} {n : Nat} {S : List Int} (hp : S.Perm (lnL t n)) (hd : dsc S) : S = cyL t n := dsc_one hd (cyL_dsc t n) (hp.trans (cyL_perm t n).symm)
def cytR (p : Int) (t : Nat → Int) : List Int := if isB p t = true then cyL t p.toNat else []
end Go.Proofs.Ytpphihjbgikjkaa
