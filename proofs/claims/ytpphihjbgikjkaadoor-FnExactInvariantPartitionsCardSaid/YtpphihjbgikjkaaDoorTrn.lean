/- Rows in blocks of their own that grow: a list of lists with an empty row behind it, and with a number behind one of its rows. -/
import Derived.Test.YtpphihjbgikjkaaDoorTrw
namespace Go.Proofs.YtpphihjbgikjkaaDoor
open Go.RowKit

/-- Rows in blocks of their own, all different where they have one. -/
structure Trn (w : World) (B : Nat) (v : Value) (us : List Value) (W : List (List Int)) : Prop where
  own : w.ownsRow B 36 1 v W.length us
  row : ∀ j, j < W.length → Own w B (us.getD j undef) (W.getD j [])
  ne : ∀ i j, i < j → j < W.length → (us.getD i undef).ownBlock = (us.getD j undef).ownBlock → (us.getD i undef).ownBlock = none

theorem Trn.len {w : World} {B : Nat} {v : Value} {us : List Value} {W : List (List Int)} (h : Trn w B v us W) : us.length = W.length := by have := h.own.1; omega

theorem Trn.below {w w' : World} {B : Nat} {v : Value} {us : List Value} {W : List (List Int)} (h : Trn w B v us W) (hb : Below w.heap.size w w') : Trn w' B v us W :=
  ⟨(Turn.of_below (S := fun _ => False) hb).own h.own (fun _ _ h => h), fun j hj => (Turn.of_below (S := fun _ => False) hb).own (h.row j hj) (fun _ _ h => h), h.ne⟩

theorem trn_nil (w : World) (B : Nat) : Trn w B (.slice none 0 0) [] [] :=
  ⟨World.ownsRow_nil _ _ _ _, fun j hj => by simp at hj, fun i j _ hj => by simp at hj⟩

theorem Trn.trw {w : World} {B : Nat} {v : Value} {us : List Value} {W : List (List Int)} (h : Trn w B v us W) (hf : ∀ j, j < W.length → W.getD j [] ≠ []) : Trw w B v us W :=
  ⟨h.own, h.row, hf, fun i j hij hj e => by
    obtain ⟨g, c, e2, _, _⟩ := own_blk (h.row i (by omega)) (hf i (by omega))
    have := h.ne i j hij hj e
    rw [e2] at this
    simp [Value.ownBlock] at this⟩

theorem Trw.trn {w : World} {B : Nat} {v : Value} {us : List Value} {W : List (List Int)} (h : Trw w B v us W) : Trn w B v us W :=
  ⟨h.own, h.row, fun i j hij hj e => absurd e (h.ne i j hij hj)⟩

/-- append of a nil row. -/
theorem wpList_appN {ops : Array Oper} {rest : List Oper} {o : Oper} {ac : Act} {Q : Exit → Act → World → Prop} {w : World} (hgd : o.guard = none) (s x : Operand)
    (ho : o.op = .call { callee := .builtin .append, args := #[s, x], argTypes := #[24, 24] })
    (base : Nat) (v : Value) (us : List Value) (W : List (List Int)) (hs : ac.eval s = v) (hp : Trn w base v us W) (b c : Nat) (hx : ac.eval x = .slice (some ⟨b, 0, none⟩) 1 c) (hb : w.heap[b]? = some (.cells #[.slice none 0 0] 36 (0, 0)))
    (hlen : W.length ≤ 1000) (hbase : base ≤ w.heap.size)
    (h : ∀ v' w', Trn w' base v' (us ++ [.slice none 0 0]) (W ++ [[]]) → w.grownBy w' v.ownBlock → wpList Tryd.prog ops Q rest (ac.put o.dst v') w') : wpList Tryd.prog ops Q (o :: rest) ac w := by
  obtain ⟨i0, hi, hz0, hz1, hz2⟩ := info_parts info_sl
  refine wpList_append_own_at w hgd s x _ ho base 36 i0 _ 1 24 Tryd.underlying24 hi hz0 hz1 hz2 rfl (by decide) v W.length us hs hp.own ⟨b, 0, none⟩ 1 c [.slice none 0 0] hx rfl (cell_one8 hb) (fun z hz => by rw [List.mem_singleton.1 hz]; rfl) (by unfold maxLen; omega) (by omega) hbase ?_
  intro v' w' h1 h2 _ h4
  have hap : ∀ {u2 : Value} {X : List Int}, Own w base u2 X → Own w' base u2 X := fun ho => World.ownsRow.kept ho h2 (by
    cases e : Value.ownBlock _ with
    | none => exact Or.inl rfl
    | some r => exact Or.inr fun e2 => trw_tne (by decide) ho hp.own r e e2.symm)
  have hl := hp.len
  have hold : ∀ j, j < W.length → (us ++ [Value.slice none 0 0]).getD j undef = us.getD j undef ∧ (W ++ [[]]).getD j [] = W.getD j [] := fun j e => by
    constructor
    · rw [List.getD_eq_getElem?_getD, List.getElem?_append_left (by omega), ← List.getD_eq_getElem?_getD]
    · rw [List.getD_eq_getElem?_getD, List.getElem?_append_left e, ← List.getD_eq_getElem?_getD]
  have hlast : (us ++ [Value.slice none 0 0]).getD W.length undef = .slice none 0 0 ∧ (W ++ [[]]).getD W.length [] = [] := by
    constructor
    · rw [List.getD_eq_getElem?_getD, List.getElem?_append_right (by omega), hl]; simp
    · rw [List.getD_eq_getElem?_getD, List.getElem?_append_right (by omega)]; simp
  refine h v' w' ⟨by rw [List.length_append]; exact h1, fun j hj => ?_, fun i j hij hj e => ?_⟩ h2
  · rw [List.length_append] at hj
    by_cases e : j < W.length
    · rw [(hold j e).1, (hold j e).2]; exact hap (hp.row j e)
    · have ej : j = W.length := by simp at hj; omega
      subst ej
      rw [hlast.1, hlast.2]; exact World.ownsRow_nil _ _ _ _
  · rw [List.length_append] at hj
    by_cases e2 : j < W.length
    · rw [(hold j e2).1, (hold i (by omega)).1] at e
      rw [(hold i (by omega)).1]
      exact hp.ne i j hij e2 e
    · have ej : j = W.length := by simp at hj; omega
      subst ej
      rw [hlast.1] at e
      exact e

/-- A row's cell in the list's block. -/
theorem Trn.cell {w : World} {B : Nat} {v : Value} {us : List Value} {W : List (List Int)} (h : Trn w B v us W) {c : Nat} (hc : c < W.length) :
    ∃ g cap, v = .slice (some ⟨g, 0, none⟩) W.length cap ∧ B ≤ g ∧ g < w.heap.size ∧ w.cell? ⟨g, c, none⟩ = some (us.getD c undef) ∧ w.frozen? ⟨g, c, none⟩ = false := by
  have hl := h.len
  rcases h.own.2 with ⟨_, h0⟩ | ⟨g, cap, cur, h1, hB, hg, hcn, hcap, hsz, htk⟩
  · omega
  · refine ⟨g, cap, h1, hB, (Array.getElem?_eq_some_iff.1 hg).1, ?_, Joins.unfrozen_of_block hg c⟩
    have e : cur.toList[c]? = us[c]? := by rw [← htk, List.getElem?_take, if_pos (by omega)]
    rw [Joins.cell_of_block hg c, ← Array.getElem?_toList, e, List.getElem?_eq_getElem (by omega), List.getD_eq_getElem?_getD, List.getElem?_eq_getElem (by omega)]
    rfl

/-- The row's cell behind an append to the row. -/
theorem Trn.cell2 {w w1 : World} {B : Nat} {us : List Value} {W : List (List Int)} {g cap n c : Nat} (h : Trn w B (.slice (some ⟨g, 0, none⟩) n cap) us W) (hc : c < W.length) (hg : w.grownBy w1 (us.getD c undef).ownBlock) :
    w1.cell? ⟨g, c, none⟩ = some (us.getD c undef) ∧ w1.frozen? ⟨g, c, none⟩ = false := by
  obtain ⟨g2, cap2, e, _, h2, h3, h4⟩ := h.cell hc
  injection e with e _ _
  injection e with e
  injection e with e
  subst e
  have hb := hg.block g h2 (fun e => trw_tne (by decide) h.own (h.row c hc) g rfl e.symm)
  have := cell_same (o := c) hb
  exact ⟨this.1.trans h3, this.2.trans h4⟩

/-- A list of lists is a slice. -/
theorem Trn.form {w : World} {B : Nat} {v : Value} {us : List Value} {W : List (List Int)} (h : Trn w B v us W) : ∃ a cap, v = .slice a W.length cap := by
  rcases h.own.2 with ⟨h1, h0⟩ | ⟨g, cap, cur, h1, _⟩
  · exact ⟨none, 0, by rw [h1, h0]⟩
  · exact ⟨_, cap, h1⟩

/-- A row that has grown, stored in its place. -/
theorem Trn.store {w w1 : World} {B : Nat} {us : List Value} {W : List (List Int)} {g cap n c : Nat} (h : Trn w B (.slice (some ⟨g, 0, none⟩) n cap) us W) (hc : c < W.length)
    {u : Value} {L : List Int} (hu : Own w1 B u L) (hg : w.grownBy w1 (us.getD c undef).ownBlock) (hat : u.ownBlock = (us.getD c undef).ownBlock ∨ u.ownBlock = some w.heap.size) (hL : L ≠ []) :
    Trn (w1.setCell ⟨g, c, none⟩ u) B (.slice (some ⟨g, 0, none⟩) n cap) (us.set c u) (W.set c L) := by
  obtain rfl : n = W.length := by
    obtain ⟨av, cv, e⟩ := h.form
    injection e
  have hat : u.ownBlock = (us.getD c undef).ownBlock ∨ ∀ r, u.ownBlock = some r → w.heap.size ≤ r := hat.imp id (fun e r hr => by rw [e] at hr; injection hr with hr; omega)
  have hl := h.len
  obtain ⟨gu, cu, hue, hgu, hgul⟩ := own_blk hu hL
  have hgt : ∀ j, j < W.length → (us.getD j undef).ownBlock ≠ some g := fun j hj e => trw_tne (by decide) h.own (h.row j hj) g rfl e
  have hgl : g < w.heap.size := (h.own.lt g rfl).2
  have hgc : some g ≠ (us.getD c undef).ownBlock := fun e => hgt c hc e.symm
  have hown1 : w1.ownsRow B 36 1 (.slice (some ⟨g, 0, none⟩) W.length cap) W.length us := World.ownsRow.kept h.own hg (Or.inr fun e => hgc e)
  have hug : gu ≠ g := fun e => by
    rcases hat with ha | ha
    · rw [hue] at ha
      exact hgt c hc (by rw [← ha, e]; rfl)
    · have := ha gu (by rw [hue]; rfl)
      omega
  have hset : ∀ {u2 : Value} {X : List Int}, Own w1 B u2 X → u2.ownBlock ≠ some g → Own (w1.setCell ⟨g, c, none⟩ u) B u2 X := fun ho hne =>
    ((Turn.of_below (S := fun r => r = g) (Below.refl _ _)).setCell rfl).own ho (fun r e hS => hne (by rw [e, hS]))
  have hgd : ∀ j, (us.set c u).getD j undef = if j = c ∧ c < us.length then u else us.getD j undef := fun j => by
    rw [List.getD_eq_getElem?_getD, List.getElem?_set]
    by_cases e : c = j
    · subst e
      by_cases h2 : c < us.length
      · simp [h2]
      · simp [h2, List.getD_eq_getElem?_getD]
    · rw [if_neg e, if_neg (by omega), List.getD_eq_getElem?_getD]
  have hwd : ∀ j, (W.set c L).getD j [] = if j = c then L else W.getD j [] := fun j => by
    rw [List.getD_eq_getElem?_getD, List.getElem?_set]
    by_cases e : c = j
    · subst e; simp [hc]
    · rw [if_neg e, if_neg (by omega), List.getD_eq_getElem?_getD]
  refine ⟨?_, fun j hj => ?_, fun i j hij hj e => ?_⟩
  · rw [List.length_set]
    rcases hown1.2 with ⟨h1, _⟩ | ⟨g2, cap2, cur, h1, hB, hgb, hcn, hcap, hsz, htk⟩
    · cases h1
    · injection h1 with h1 _ h3
      injection h1 with h1
      injection h1 with h1
      subst h1 h3
      refine ⟨by rw [List.length_set]; exact hown1.1, Or.inr ⟨g, cap, cur.setIfInBounds c u, rfl, hB, Joins.block_setCell hgb _, hcn, hcap, by rw [Array.size_setIfInBounds]; exact hsz, ?_⟩⟩
      rw [Array.toList_setIfInBounds, List.take_set, htk]
  · rw [List.length_set] at hj
    rw [hgd, hwd]
    by_cases ej : j = c
    · rw [if_pos ⟨ej, by omega⟩, if_pos ej]
      exact hset hu (by rw [hue]; intro e2; simp [Value.ownBlock] at e2; exact hug e2)
    · rw [if_neg (fun h => ej h.1), if_neg ej]
      refine hset (World.ownsRow.kept (h.row j hj) hg ?_) (hgt j hj)
      cases e : (us.getD j undef).ownBlock with
      | none => exact Or.inl rfl
      | some r =>
        refine Or.inr fun e2 => ?_
        have hcr : (us.getD c undef).ownBlock = some r := e2.symm
        rcases Nat.lt_or_gt_of_ne ej with hlt | hlt
        · have := h.ne j c hlt hc (by rw [e, hcr])
          rw [e] at this; cases this
        · have := h.ne c j hlt hj (by rw [e, hcr])
          rw [hcr] at this; cases this
  · rw [List.length_set] at hj
    rw [hgd, hgd] at e
    rw [hgd]
    have hfresh : ∀ k, k < W.length → k ≠ c → u.ownBlock = (us.getD k undef).ownBlock → False := fun k hk hkc e2 => by
      rcases hat with ha | ha
      · rw [ha] at e2
        rcases Nat.lt_or_gt_of_ne hkc with hlt | hlt
        · have := h.ne k c hlt hc e2.symm
          rw [← e2, ← ha, hue] at this
          simp [Value.ownBlock] at this
        · have := h.ne c k hlt hk e2
          rw [← ha, hue] at this
          simp [Value.ownBlock] at this
      · have h1 := ha gu (by rw [hue]; rfl)
        have h2 := ((h.row k hk).lt gu (by rw [← e2, hue]; rfl)).2
        omega
    by_cases ei : i = c
    · rw [if_pos ⟨ei, by omega⟩] at e
      rw [if_neg (by omega)] at e
      exact (hfresh j hj (by omega) e).elim
    · rw [if_neg (fun h => ei h.1)] at e ⊢
      by_cases ej : j = c
      · rw [if_pos ⟨ej, by omega⟩] at e
        exact (hfresh i (by omega) ei e.symm).elim
      · rw [if_neg (fun h => ej h.1)] at e
        exact h.ne i j hij hj e

end Go.Proofs.YtpphihjbgikjkaaDoor
