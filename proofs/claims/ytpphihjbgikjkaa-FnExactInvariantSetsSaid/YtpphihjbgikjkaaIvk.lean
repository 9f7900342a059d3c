/- Invariant sets of a list of maps, told without Go: by numbers whose digits in base 2 tell the points; their order by size and points, as a table of ranks. -/
import Derived.Test.YtpphihjbgikjkaaRso
namespace Go.Proofs.Ytpphihjbgikjkaa
open Go Go.RowKit

/-- The set of a number. -/
def btF (m : Nat) : Nat → Bool := fun j => decide (j < 5) && m.testBit j
theorem bt_mask : ∀ m, m < 32 → mask (btF m) = (m : Int) := by decide +kernel
/-- The list of a number's set. -/
def lsT (m : Nat) : List Int := asc (btF m)
theorem lsT_len (m : Nat) : (lsT m).length ≤ 5 := ascK_len _ 5
theorem lsT_ne : ∀ m, m < 32 → 1 ≤ m → lsT m ≠ [] := by decide +kernel

/-- Lexicographic order at lists of the same length. -/
def lexB : List Int → List Int → Bool
  | x :: l, y :: m => if x = y then lexB l m else decide (x < y)
  | _, _ => false
/-- Whether a set comes ahead of another one. -/
def bfB (a b : Nat) : Bool := if (lsT a).length = (lsT b).length then lexB (lsT a) (lsT b) else decide ((lsT a).length < (lsT b).length)
/-- The rank of a set in this order. -/
def kyT (m : Nat) : Nat := [0, 1, 2, 6, 3, 7, 10, 16, 4, 8, 11, 17, 13, 19, 22, 26, 5, 9, 12, 18, 14, 20, 23, 27, 15, 21, 24, 28, 25, 29, 30, 31].getD m 0
theorem bf_ky : ∀ a, a < 32 → ∀ b, b < 32 → bfB a b = decide (kyT a < kyT b) := by decide +kernel
theorem ky_inj : ∀ a, a < 32 → ∀ b, b < 32 → kyT a = kyT b → a = b := by decide +kernel

/-- Whether a set is invariant. -/
def ivM (L : List MapN) (n m : Nat) : Bool := (List.range L.length).all fun i => mask (unB (movK (L.getD i z0).2 (btF m) n) (btF m)) == (m : Int)
theorem ivM_iff {L : List MapN} {n m : Nat} : ivM L n m = true ↔ ∀ i, i < L.length → mask (unB (movK (L.getD i z0).2 (btF m) n) (btF m)) = (m : Int) := by
  unfold ivM
  rw [List.all_eq_true]
  exact ⟨fun h i hi => beq_iff_eq.1 (h i (List.mem_range.2 hi)), fun h i hi => beq_iff_eq.2 (h i (List.mem_range.1 hi))⟩
/-- The invariant sets among the first k, but the empty one. -/
def lvL (L : List MapN) (n k : Nat) : List Nat := (List.range k).filter fun m => decide (1 ≤ m) && ivM L n m
theorem lvL_yes {L : List MapN} {n k : Nat} (h1 : 1 ≤ k) (h : ivM L n k = true) : lvL L n (k + 1) = lvL L n k ++ [k] := by
  unfold lvL
  rw [List.range_succ, List.filter_append, List.filter_cons, if_pos (by rw [h]; simp [h1])]
  rfl
theorem lvL_no {L : List MapN} {n k : Nat} (h : ivM L n k = false) : lvL L n (k + 1) = lvL L n k := by
  unfold lvL
  rw [List.range_succ, List.filter_append, List.filter_cons, if_neg (by rw [h]; simp), List.filter_nil, List.append_nil]
theorem lvL_one (L : List MapN) (n : Nat) : lvL L n 1 = [] := by
  unfold lvL
  simp [List.range_succ]
theorem lvL_mem {L : List MapN} {n k m : Nat} : m ∈ lvL L n k ↔ m < k ∧ 1 ≤ m ∧ ivM L n m = true := by
  unfold lvL
  rw [List.mem_filter, List.mem_range, Bool.and_eq_true, decide_eq_true_iff]
theorem lvL_len (L : List MapN) (n k : Nat) : (lvL L n k).length ≤ k := by
  unfold lvL; exact Nat.le_trans (List.length_filter_le _ _) (by simp)

/-- In order. -/
def kso (S : List Nat) : Prop := S.Pairwise fun a b => kyT a < kyT b
theorem kso_one : ∀ {L M : List Nat}, kso L → kso M → L.Perm M → L = M
  | [], M, _, _, h => (List.nil_perm.1 h).symm
  | x :: L, M, hL, hM, h => by
    have hx : x ∈ M := h.mem_iff.1 (by simp)
    cases M with
    | nil => cases hx
    | cons y M =>
      have hy : y ∈ x :: L := h.mem_iff.2 (by simp)
      unfold kso at hL hM
      rw [List.pairwise_cons] at hL hM
      have hxy : x = y := by
        rcases List.mem_cons.1 hy with e | e
        · exact e.symm
        · rcases List.mem_cons.1 hx with e2 | e2
          · exact e2
          · have h1 := hL.1 y e
            have h2 := hM.1 x e2
            omega
      subst hxy
      rw [kso_one hL.2 hM.2 (List.Perm.cons_inv h)]

/-- A number put in at place q. -/
def inG (S : List Nat) (q x : Nat) : List Nat := S.take q ++ [x] ++ S.drop q
theorem inG_perm {S M : List Nat} (q x : Nat) (h : S.Perm M) : (inG S q x).Perm (M ++ [x]) := by
  unfold inG
  have h1 : (S.take q ++ [x] ++ S.drop q).Perm (x :: (S.take q ++ S.drop q)) := by
    rw [List.append_assoc]
    exact List.perm_middle
  rw [List.take_append_drop] at h1
  exact h1.trans ((List.Perm.cons x h).trans (List.perm_append_singleton x M).symm)
theorem inG_kso {S : List Nat} {x q : Nat} (hS : kso S) (hq : q ≤ S.length) (h1 : q = 0 ∨ kyT (S.getD (q - 1) 0) < kyT x) (h2 : ∀ i, q ≤ i → i < S.length → kyT x < kyT (S.getD i 0)) : kso (inG S q x) := by
  have hpw := List.pairwise_iff_getElem.1 hS
  have htk : ∀ a ∈ S.take q, kyT a < kyT x := fun a ha => by
    obtain ⟨i, hi, rfl⟩ := List.getElem_of_mem ha
    rw [List.length_take] at hi
    rcases h1 with h1 | h1
    · omega
    · rw [List.getElem_take]
      rw [List.getD_eq_getElem?_getD, List.getElem?_eq_getElem (by omega)] at h1
      have h1' : kyT S[q - 1] < kyT x := h1
      by_cases e : i = q - 1
      · subst e; exact h1'
      · have := hpw i (q - 1) (by omega) (by omega) (by omega)
        omega
  have hdr : ∀ a ∈ S.drop q, kyT x < kyT a := fun a ha => by
    obtain ⟨i, hi, rfl⟩ := List.getElem_of_mem ha
    rw [List.length_drop] at hi
    rw [List.getElem_drop]
    have := h2 (q + i) (by omega) (by omega)
    rw [List.getD_eq_getElem?_getD, List.getElem?_eq_getElem (by omega)] at this
    exact this
  unfold kso inG
  rw [List.append_assoc, List.pairwise_append]
  refine ⟨List.Pairwise.sublist (List.take_sublist _ _) hS, ?_, fun a ha b hb => ?_⟩
  · rw [List.singleton_append, List.pairwise_cons]
    exact ⟨fun b hb => hdr b hb, List.Pairwise.sublist (List.drop_sublist _ _) hS⟩
  · have ha2 := htk a ha
    rcases List.mem_append.1 hb with hb | hb
    · rw [List.mem_singleton.1 hb]; exact ha2
    · have := hdr b hb; omega

/-- The invariant sets in order, and as lists. -/
def ivC (L : List MapN) (n : Nat) : List Nat := (lvL L n (2 ^ n)).mergeSort fun a b => decide (kyT a ≤ kyT b)
theorem ivC_perm (L : List MapN) (n : Nat) : (ivC L n).Perm (lvL L n (2 ^ n)) := List.mergeSort_perm _ _
theorem ivC_lt {L : List MapN} {n : Nat} (hn : n ≤ 5) {m : Nat} (h : m ∈ ivC L n) : m < 32 ∧ 1 ≤ m := by
  have := lvL_mem.1 ((ivC_perm L n).mem_iff.1 h)
  have h2 : 2 ^ n ≤ 2 ^ 5 := Nat.pow_le_pow_right (by omega) hn
  omega
theorem ivC_kso {L : List MapN} {n : Nat} (hn : n ≤ 5) : kso (ivC L n) := by
  have h := List.pairwise_mergeSort (le := fun (a b : Nat) => decide (kyT a ≤ kyT b)) (fun a b c h1 h2 => by simp at *; omega) (fun a b => by simp; omega) (lvL L n (2 ^ n))
  have hnd : (ivC L n).Nodup := (ivC_perm L n).nodup_iff.2 (List.nodup_range.filter _)
  unfold kso
  rw [List.pairwise_iff_getElem]
  intro i j hi hj hij
  have h1 := (List.pairwise_iff_getElem.1 h) i j hi hj hij
  have h1' : kyT (ivC L n)[i] ≤ kyT (ivC L n)[j] := of_decide_eq_true h1
  have hne := (List.pairwise_iff_getElem.1 (List.nodup_iff_pairwise_ne.1 hnd)) i j hi hj hij
  have h3 := ivC_lt hn (List.getElem_mem hi)
  have h4 := ivC_lt hn (List.getElem_mem hj)
  rcases Nat.lt_or_eq_of_le h1' with c | c
  · exact c
  · exact absurd (ky_inj _ h3.1 _ h4.1 c) hne
theorem ivC_one {L : List MapN} {n : Nat} (hn : n ≤ 5) {S : List Nat} (hp : S.Perm (lvL L n (2 ^ n))) (hk : kso S) : S = ivC L n := kso_one hk (ivC_kso hn) (hp.trans (ivC_perm L n).symm)
def ivR (L : List MapN) (n : Nat) : List (List Int) := (ivC L n).map lsT
def ivsL (L : List MapN) : List (List Int) := if chkC L [] = 0 then ivR L (fst0 L).toNat else []
end Go.Proofs.Ytpphihjbgikjkaa
