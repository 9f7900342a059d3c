/- Partitions of points by numbers, and their classes as lists, told without Go. Rows in blocks of their own that grow: a list of lists with an empty row behind it, and with a number behind one of its rows. The contract of impl.classesOf. -/
import Derived.Test.YtpphihjbgikjkaaSl
import Derived.Test.YtpphihjbgikjkaaTrw
namespace Go.Proofs.Ytpphihjbgikjkaa
open Go Go.RowKit

/-- The least number that is free behind the first k points. -/
def nxK (P : List Int) : Nat → Nat
  | 0 => 0
  | k + 1 => if P.getD k 0 = (nxK P k : Int) then nxK P k + 1 else nxK P k
/-- Whether the number of point k may stand there. -/
def okP (P : List Int) (k : Nat) : Bool := decide (0 ≤ P.getD k 0) && decide (P.getD k 0 ≤ (nxK P k : Int))
/-- Whether the numbers are a partition of n points. -/
def parB (P : List Int) (n : Nat) : Bool := decide (P.length = n) && (List.range n).all (okP P)

theorem okP_iff {P : List Int} {k : Nat} : okP P k = true ↔ 0 ≤ P.getD k 0 ∧ P.getD k 0 ≤ (nxK P k : Int) := by unfold okP; rw [Bool.and_eq_true, decide_eq_true_iff, decide_eq_true_iff]
theorem parB_iff {P : List Int} {n : Nat} : parB P n = true ↔ P.length = n ∧ ∀ k, k < n → okP P k = true := by
  unfold parB
  rw [Bool.and_eq_true, decide_eq_true_iff, List.all_eq_true]
  exact ⟨fun h => ⟨h.1, fun k hk => h.2 k (List.mem_range.2 hk)⟩, fun h => ⟨h.1, fun k hk => h.2 k (List.mem_range.1 hk)⟩⟩
theorem parB_len {P : List Int} {n : Nat} (h : P.length ≠ n) : parB P n = false := by
  rw [Bool.eq_false_iff]; intro hp; exact h (parB_iff.1 hp).1
theorem parB_no {P : List Int} {n k : Nat} (hk : k < n) (h : okP P k = false) : parB P n = false := by
  rw [Bool.eq_false_iff]; intro hp; rw [(parB_iff.1 hp).2 k hk] at h; cases h
theorem nxK_le (P : List Int) : ∀ k, nxK P k ≤ k
  | 0 => Nat.le_refl _
  | k + 1 => by have := nxK_le P k; unfold nxK; split <;> omega
theorem nxK_mono (P : List Int) {j : Nat} : ∀ {k : Nat}, j ≤ k → nxK P j ≤ nxK P k
  | 0, h => by rw [show j = 0 by omega]; exact Nat.le_refl _
  | k + 1, h => by
    by_cases e : j = k + 1
    · rw [e]; exact Nat.le_refl _
    · have := nxK_mono P (j := j) (k := k) (by omega)
      show _ ≤ (if P.getD k 0 = (nxK P k : Int) then nxK P k + 1 else nxK P k)
      split <;> omega
theorem nxK_new {P : List Int} {k : Nat} (h : P.getD k 0 = (nxK P k : Int)) : nxK P (k + 1) = nxK P k + 1 := by
  show (if P.getD k 0 = (nxK P k : Int) then nxK P k + 1 else nxK P k) = _
  rw [if_pos h]
theorem nxK_old {P : List Int} {k : Nat} (h : P.getD k 0 ≠ (nxK P k : Int)) : nxK P (k + 1) = nxK P k := by
  show (if P.getD k 0 = (nxK P k : Int) then nxK P k + 1 else nxK P k) = _
  rw [if_neg h]

/-- The numbers of the points before k are below the least free one. -/
theorem par_lt {P : List Int} {k : Nat} (h : ∀ j, j < k → okP P j = true) {j : Nat} (hj : j < k) : 0 ≤ P.getD j 0 ∧ P.getD j 0 < (nxK P k : Int) := by
  obtain ⟨h0, h1⟩ := okP_iff.1 (h j hj)
  have hm := nxK_mono P (show j + 1 ≤ k by omega)
  refine ⟨h0, ?_⟩
  by_cases e : P.getD j 0 = (nxK P j : Int)
  · rw [nxK_new e] at hm; omega
  · rw [nxK_old e] at hm; omega

/-- The points of a class among the first k, ascending. -/
def rowP (P : List Int) (c k : Nat) : List Int := ((List.range k).filter fun p => P.getD p 0 == (c : Int)).map Int.ofNat
theorem rowP_succ (P : List Int) (c k : Nat) : rowP P c (k + 1) = if P.getD k 0 = (c : Int) then rowP P c k ++ [(k : Int)] else rowP P c k := by
  unfold rowP
  rw [List.range_succ, List.filter_append, List.map_append]
  by_cases h : P.getD k 0 = (c : Int)
  · rw [if_pos h]; simp only [List.filter_cons, h, beq_self_eq_true, if_true, List.filter_nil]; rfl
  · rw [if_neg h]
    have hb : (P.getD k 0 == (c : Int)) = false := by simpa using h
    simp only [List.filter_cons, hb, Bool.false_eq_true, if_false, List.filter_nil, List.map_nil, List.append_nil]
theorem rowP_len (P : List Int) (c k : Nat) : (rowP P c k).length ≤ k := by
  unfold rowP; rw [List.length_map]; exact Nat.le_trans (List.length_filter_le _ _) (by simp)
theorem rowP_mem {P : List Int} {c k : Nat} {x : Int} : x ∈ rowP P c k ↔ ∃ p : Nat, x = (p : Int) ∧ p < k ∧ P.getD p 0 = (c : Int) := by
  unfold rowP
  simp only [List.mem_map, List.mem_filter, List.mem_range, beq_iff_eq]
  constructor
  · rintro ⟨p, ⟨h1, h2⟩, rfl⟩; exact ⟨p, rfl, h1, h2⟩
  · rintro ⟨p, rfl, h1, h2⟩; exact ⟨p, ⟨h1, h2⟩, rfl⟩
theorem rowP_nil {P : List Int} {k c : Nat} (h : ∀ j, j < k → okP P j = true) (hc : nxK P k ≤ c) : rowP P c k = [] := by
  rw [List.eq_nil_iff_forall_not_mem]
  intro x hx
  obtain ⟨p, _, hp, e⟩ := rowP_mem.1 hx
  have := par_lt h hp
  omega
theorem rowP_full {P : List Int} {c : Nat} : ∀ {k : Nat}, (∀ j, j < k → okP P j = true) → c < nxK P k → rowP P c k ≠ []
  | 0, _, hc => by simp [nxK] at hc
  | k + 1, h, hc => by
    rw [rowP_succ]
    by_cases e : P.getD k 0 = (nxK P k : Int)
    · rw [nxK_new e] at hc
      by_cases e2 : P.getD k 0 = (c : Int)
      · rw [if_pos e2]; simp
      · rw [if_neg e2]; exact rowP_full (fun j hj => h j (by omega)) (by omega)
    · rw [nxK_old e] at hc
      have := rowP_full (fun j hj => h j (by omega)) hc
      split
      · simp
      · exact this

/-- The classes of the first k points. -/
def clsK (P : List Int) (k : Nat) : List (List Int) := (List.range (nxK P k)).map fun c => rowP P c k
theorem clsK_len (P : List Int) (k : Nat) : (clsK P k).length = nxK P k := by simp [clsK]
theorem clsK_at (P : List Int) (k c : Nat) (h : c < nxK P k) : (clsK P k).getD c [] = rowP P c k := by simp [clsK, h]
theorem clsK_zero (P : List Int) : clsK P 0 = [] := rfl
theorem clsK_full {P : List Int} {k : Nat} (h : ∀ j, j < k → okP P j = true) (c : Nat) (hc : c < (clsK P k).length) : (clsK P k).getD c [] ≠ [] := by
  rw [clsK_len] at hc
  rw [clsK_at _ _ _ hc]
  exact rowP_full h hc
theorem clsK_rlen (P : List Int) (k c : Nat) : ((clsK P k).getD c []).length ≤ k := by
  by_cases h : c < nxK P k
  · rw [clsK_at _ _ _ h]; exact rowP_len _ _ _
  · rw [List.getD_eq_getElem?_getD, List.getElem?_eq_none (by rw [clsK_len]; omega)]; simp

theorem clsK_new {P : List Int} {k : Nat} (h : ∀ j, j < k → okP P j = true) (e : P.getD k 0 = (nxK P k : Int)) :
    (clsK P k ++ [[]]).set (nxK P k) ([] ++ [(k : Int)]) = clsK P (k + 1) := by
  refine List.ext_getElem ?_ fun i h1 h2 => ?_
  · simp [clsK_len, nxK_new e]
  · have hi : i < nxK P k + 1 := by rw [clsK_len, nxK_new e] at h2; exact h2
    have e2 : (clsK P (k + 1))[i] = rowP P i (k + 1) := by simp [clsK]
    rw [e2, rowP_succ, List.getElem_set]
    by_cases hik : nxK P k = i
    · rw [if_pos hik, if_pos (by rw [e, hik]), ← hik, rowP_nil h (Nat.le_refl _)]
    · have hi' : i < nxK P k := by omega
      rw [if_neg hik, if_neg (by rw [e]; omega), List.getElem_append_left (by rw [clsK_len]; exact hi')]
      simp [clsK]

theorem clsK_old {P : List Int} {k c : Nat} (e : P.getD k 0 = (c : Int)) (hc : c < nxK P k) :
    (clsK P k).set c (rowP P c k ++ [(k : Int)]) = clsK P (k + 1) := by
  have hne : P.getD k 0 ≠ (nxK P k : Int) := by omega
  refine List.ext_getElem ?_ fun i h1 h2 => ?_
  · simp [clsK_len, nxK_old hne]
  · have hi : i < nxK P k := by rw [clsK_len, nxK_old hne] at h2; exact h2
    have e2 : (clsK P (k + 1))[i] = rowP P i (k + 1) := by simp [clsK]
    rw [e2, rowP_succ, List.getElem_set]
    by_cases hic : c = i
    · subst hic; rw [if_pos rfl, if_pos e]
    · rw [if_neg hic, if_neg (by rw [e]; omega)]
      simp [clsK]

end Go.Proofs.Ytpphihjbgikjkaa

namespace Go.Proofs.Ytpphihjbgikjkaa
open Go.RowKit

/-- Rows in blocks of their own, all different where they have one. -/
structure Trn (w : World) (B : Nat) (v : Value) (us : List Value) (W : List (List Int)) : Prop where
  own : w.ownsRow B 25 1 v W.length us
  row : ∀ j, j < W.length → Own w B (us.getD j undef) (W.getD j [])
  ne : ∀ i j, i < j → j < W.length → (us.getD i undef).ownBlock = (us.getD j undef).ownBlock → (us.getD i undef).ownBlock = none

theorem Trn.len {w : World} {B : Nat} {v : Value} {us : List Value} {W : List (List Int)} (h : Trn w B v us W) : us.length = W.length := by have := h.own.1; omega

theorem Trn.below {w w' : World} {B : Nat} {v : Value} {us : List Value} {W : List (List Int)} (h : Trn w B v us W) (hb : Below w.heap.size w w') : Trn w' B v us W :=
  ⟨(Turn.of_below (S := fun _ => False) hb).own h.own (fun _ _ h => h), fun j hj => (Turn.of_below (S := fun _ => False) hb).own (h.row j hj) (fun _ _ h => h), h.ne⟩

theorem trn_nil (w : World) (B : Nat) : Trn w B (.slice none 0 0) [] [] :=
  ⟨World.ownsRow_nil _ _ _ _, fun j hj => by simp at hj, fun i j _ hj => by simp at hj⟩

theorem Trn.trw {w : World} {B : Nat} {v : Value} {us : List Value} {W : List (List Int)} (h : Trn w B v us W) (hf : ∀ j, j < W.length → W.getD j [] ≠ []) : Trw w B v us W :=
  ⟨h.own, h.row, hf, fun i j hij hj e => by
    obtain ⟨g, c, e2, _, _⟩ := own_blk (h.row i (by omega)) (hf i (by omega))
    have := h.ne i j hij hj e
    rw [e2] at this
    simp [Value.ownBlock] at this⟩

theorem Trw.trn {w : World} {B : Nat} {v : Value} {us : List Value} {W : List (List Int)} (h : Trw w B v us W) : Trn w B v us W :=
  ⟨h.own, h.row, fun i j hij hj e => absurd e (h.ne i j hij hj)⟩

/-- append of a nil row. -/
theorem wpList_appN {ops : Array Oper} {rest : List Oper} {o : Oper} {ac : Act} {Q : Exit → Act → World → Prop} {w : World} (hgd : o.guard = none) (s x : Operand)
    (ho : o.op = .call { callee := .builtin .append, args := #[s, x], argTypes := #[41, 41] })
    (base : Nat) (v : Value) (us : List Value) (W : List (List Int)) (hs : ac.eval s = v) (hp : Trn w base v us W) (b c : Nat) (hx : ac.eval x = .slice (some ⟨b, 0, none⟩) 1 c) (hb : w.heap[b]? = some (.cells #[.slice none 0 0] 25 (0, 0)))
    (hlen : W.length ≤ 1000) (hbase : base ≤ w.heap.size)
    (h : ∀ v' w', Trn w' base v' (us ++ [.slice none 0 0]) (W ++ [[]]) → w.grownBy w' v.ownBlock → wpList Try.prog ops Q rest (ac.put o.dst v') w') : wpList Try.prog ops Q (o :: rest) ac w := by
  obtain ⟨i0, hi, hz0, hz1, hz2⟩ := info_parts info_sl
  refine wpList_append_own_at w hgd s x _ ho base 25 i0 _ 1 24 Try.underlying41 hi hz0 hz1 hz2 rfl (by decide) v W.length us hs hp.own ⟨b, 0, none⟩ 1 c [.slice none 0 0] hx rfl (cell_one8 hb) (fun z hz => by rw [List.mem_singleton.1 hz]; rfl) (by unfold maxLen; omega) (by omega) hbase ?_
  intro v' w' h1 h2 _ h4
  have hap : ∀ {u2 : Value} {X : List Int}, Own w base u2 X → Own w' base u2 X := fun ho => World.ownsRow.kept ho h2 (by
    cases e : Value.ownBlock _ with
    | none => exact Or.inl rfl
    | some r => exact Or.inr fun e2 => trw_tne (by decide) ho hp.own r e e2.symm)
  have hl := hp.len
  have hold : ∀ j, j < W.length → (us ++ [Value.slice none 0 0]).getD j undef = us.getD j undef ∧ (W ++ [[]]).getD j [] = W.getD j [] := fun j e => by
    constructor
    · rw [List.getD_eq_getElem?_getD, List.getElem?_append_left (by omega), ← List.getD_eq_getElem?_getD]
    · rw [List.getD_eq_getElem?_getD, List.getElem?_append_left e, ← List.getD_eq_getElem?_getD]
  have hlast : (us ++ [Value.slice none 0 0]).getD W.length undef = .slice none 0 0 ∧ (W ++ [[]]).getD W.length [] = [] := by
    constructor
    · rw [List.getD_eq_getElem?_getD, List.getElem?_append_right (by omega), hl]; simp
    · rw [List.getD_eq_getElem?_getD, List.getElem?_append_right (by omega)]; simp
  refine h v' w' ⟨by rw [List.length_append]; exact h1, fun j hj => ?_, fun i j hij hj e => ?_⟩ h2
  · rw [List.length_append] at hj
    by_cases e : j < W.length
    · rw [(hold j e).1, (hold j e).2]; exact hap (hp.row j e)
    · have ej : j = W.length := by simp at hj; omega
      subst ej
      rw [hlast.1, hlast.2]; exact World.ownsRow_nil _ _ _ _
  · rw [List.length_append] at hj
    by_cases e2 : j < W.length
    · rw [(hold j e2).1, (hold i (by omega)).1] at e
      rw [(hold i (by omega)).1]
      exact hp.ne i j hij e2 e
    · have ej : j = W.length := by simp at hj; omega
      subst ej
      rw [hlast.1] at e
      exact e

/-- A row's cell in the list's block. -/
theorem Trn.cell {w : World} {B : Nat} {v : Value} {us : List Value} {W : List (List Int)} (h : Trn w B v us W) {c : Nat} (hc : c < W.length) :
    ∃ g cap, v = .slice (some ⟨g, 0, none⟩) W.length cap ∧ B ≤ g ∧ g < w.heap.size ∧ w.cell? ⟨g, c, none⟩ = some (us.getD c undef) ∧ w.frozen? ⟨g, c, none⟩ = false := by
  have hl := h.len
  rcases h.own.2 with ⟨_, h0⟩ | ⟨g, cap, cur, h1, hB, hg, hcn, hcap, hsz, htk⟩
  · omega
  · refine ⟨g, cap, h1, hB, (Array.getElem?_eq_some_iff.1 hg).1, ?_, Joins.unfrozen_of_block hg c⟩
    have e : cur.toList[c]? = us[c]? := by rw [← htk, List.getElem?_take, if_pos (by omega)]
    rw [Joins.cell_of_block hg c, ← Array.getElem?_toList, e, List.getElem?_eq_getElem (by omega), List.getD_eq_getElem?_getD, List.getElem?_eq_getElem (by omega)]
    rfl

/-- The row's cell behind an append to the row. -/
theorem Trn.cell2 {w w1 : World} {B : Nat} {us : List Value} {W : List (List Int)} {g cap n c : Nat} (h : Trn w B (.slice (some ⟨g, 0, none⟩) n cap) us W) (hc : c < W.length) (hg : w.grownBy w1 (us.getD c undef).ownBlock) :
    w1.cell? ⟨g, c, none⟩ = some (us.getD c undef) ∧ w1.frozen? ⟨g, c, none⟩ = false := by
  obtain ⟨g2, cap2, e, _, h2, h3, h4⟩ := h.cell hc
  injection e with e _ _
  injection e with e
  injection e with e
  subst e
  have hb := hg.block g h2 (fun e => trw_tne (by decide) h.own (h.row c hc) g rfl e.symm)
  have := cell_same (o := c) hb
  exact ⟨this.1.trans h3, this.2.trans h4⟩

/-- A list of lists is a slice. -/
theorem Trn.form {w : World} {B : Nat} {v : Value} {us : List Value} {W : List (List Int)} (h : Trn w B v us W) : ∃ a cap, v = .slice a W.length cap := by
  rcases h.own.2 with ⟨h1, h0⟩ | ⟨g, cap, cur, h1, _⟩
  · exact ⟨none, 0, by rw [h1, h0]⟩
  · exact ⟨_, cap, h1⟩

/-- A row that has grown, stored in its place. -/
theorem Trn.store {w w1 : World} {B : Nat} {us : List Value} {W : List (List Int)} {g cap n c : Nat} (h : Trn w B (.slice (some ⟨g, 0, none⟩) n cap) us W) (hc : c < W.length)
    {u : Value} {L : List Int} (hu : Own w1 B u L) (hg : w.grownBy w1 (us.getD c undef).ownBlock) (hat : u.ownBlock = (us.getD c undef).ownBlock ∨ u.ownBlock = some w.heap.size) (hL : L ≠ []) :
    Trn (w1.setCell ⟨g, c, none⟩ u) B (.slice (some ⟨g, 0, none⟩) n cap) (us.set c u) (W.set c L) := by
  obtain rfl : n = W.length := by
    obtain ⟨av, cv, e⟩ := h.form
    injection e
  have hat : u.ownBlock = (us.getD c undef).ownBlock ∨ ∀ r, u.ownBlock = some r → w.heap.size ≤ r := hat.imp id (fun e r hr => by rw [e] at hr; injection hr with hr; omega)
  have hl := h.len
  obtain ⟨gu, cu, hue, hgu, hgul⟩ := own_blk hu hL
  have hgt : ∀ j, j < W.length → (us.getD j undef).ownBlock ≠ some g := fun j hj e => trw_tne (by decide) h.own (h.row j hj) g rfl e
  have hgl : g < w.heap.size := (h.own.lt g rfl).2
  have hgc : some g ≠ (us.getD c undef).ownBlock := fun e => hgt c hc e.symm
  have hown1 : w1.ownsRow B 25 1 (.slice (some ⟨g, 0, none⟩) W.length cap) W.length us := World.ownsRow.kept h.own hg (Or.inr fun e => hgc e)
  have hug : gu ≠ g := fun e => by
    rcases hat with ha | ha
    · rw [hue] at ha
      exact hgt c hc (by rw [← ha, e]; rfl)
    · have := ha gu (by rw [hue]; rfl)
      omega
  have hset : ∀ {u2 : Value} {X : List Int}, Own w1 B u2 X → u2.ownBlock ≠ some g → Own (w1.setCell ⟨g, c, none⟩ u) B u2 X := fun ho hne =>
    ((Turn.of_below (S := fun r => r = g) (Below.refl _ _)).setCell rfl).own ho (fun r e hS => hne (by rw [e, hS]))
  have hgd : ∀ j, (us.set c u).getD j undef = if j = c ∧ c < us.length then u else us.getD j undef := fun j => by
    rw [List.getD_eq_getElem?_getD, List.getElem?_set]
    by_cases e : c = j
    · subst e
      by_cases h2 : c < us.length
      · simp [h2]
      · simp [h2, List.getD_eq_getElem?_getD]
    · rw [if_neg e, if_neg (by omega), List.getD_eq_getElem?_getD]
  have hwd : ∀ j, (W.set c L).getD j [] = if j = c then L else W.getD j [] := fun j => by
    rw [List.getD_eq_getElem?_getD, List.getElem?_set]
    by_cases e : c = j
    · subst e; simp [hc]
    · rw [if_neg e, if_neg (by omega), List.getD_eq_getElem?_getD]
  refine ⟨?_, fun j hj => ?_, fun i j hij hj e => ?_⟩
  · rw [List.length_set]
    rcases hown1.2 with ⟨h1, _⟩ | ⟨g2, cap2, cur, h1, hB, hgb, hcn, hcap, hsz, htk⟩
    · cases h1
    · injection h1 with h1 _ h3
      injection h1 with h1
      injection h1 with h1
      subst h1 h3
      refine ⟨by rw [List.length_set]; exact hown1.1, Or.inr ⟨g, cap, cur.setIfInBounds c u, rfl, hB, Joins.block_setCell hgb _, hcn, hcap, by rw [Array.size_setIfInBounds]; exact hsz, ?_⟩⟩
      rw [Array.toList_setIfInBounds, List.take_set, htk]
  · rw [List.length_set] at hj
    rw [hgd, hwd]
    by_cases ej : j = c
    · rw [if_pos ⟨ej, by omega⟩, if_pos ej]
      exact hset hu (by rw [hue]; intro e2; simp [Value.ownBlock] at e2; exact hug e2)
    · rw [if_neg (fun h => ej h.1), if_neg ej]
      refine hset (World.ownsRow.kept (h.row j hj) hg ?_) (hgt j hj)
      cases e : (us.getD j undef).ownBlock with
      | none => exact Or.inl rfl
      | some r =>
        refine Or.inr fun e2 => ?_
        have hcr : (us.getD c undef).ownBlock = some r := e2.symm
        rcases Nat.lt_or_gt_of_ne ej with hlt | hlt
        · have := h.ne j c hlt hc (by rw [e, hcr])
          rw [e] at this; cases this
        · have := h.ne c j hlt hj (by rw [e, hcr])
          rw [hcr] at this; cases this
  · rw [List.length_set] at hj
    rw [hgd, hgd] at e
    rw [hgd]
    have hfresh : ∀ k, k < W.length → k ≠ c → u.ownBlock = (us.getD k undef).ownBlock → False := fun k hk hkc e2 => by
      rcases hat with ha | ha
      · rw [ha] at e2
        rcases Nat.lt_or_gt_of_ne hkc with hlt | hlt
        · have := h.ne k c hlt hc e2.symm
          rw [← e2, ← ha, hue] at this
          simp [Value.ownBlock] at this
        · have := h.ne c k hlt hk e2
          rw [← ha, hue] at this
          simp [Value.ownBlock] at this
      · have h1 := ha gu (by rw [hue]; rfl)
        have h2 := ((h.row k hk).lt gu (by rw [← e2, hue]; rfl)).2
        omega
    by_cases ei : i = c
    · rw [if_pos ⟨ei, by omega⟩] at e
      rw [if_neg (by omega)] at e
      exact (hfresh j hj (by omega) e).elim
    · rw [if_neg (fun h => ei h.1)] at e ⊢
      by_cases ej : j = c
      · rw [if_pos ⟨ej, by omega⟩] at e
        exact (hfresh i (by omega) ei e.symm).elim
      · rw [if_neg (fun h => ej h.1)] at e
        exact h.ne i j hij hj e

end Go.Proofs.Ytpphihjbgikjkaa

namespace Go.Proofs.Ytpphihjbgikjkaa
open Go Go.RowKit







end Go.Proofs.Ytpphihjbgikjkaa
