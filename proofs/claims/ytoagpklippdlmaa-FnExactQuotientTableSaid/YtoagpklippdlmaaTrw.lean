/- Rows of a table that a function makes one by one, each in a block of its own. -/
import Derived.Test.YtoagpklippdlmaaRdt
import Derived.Test.YtoagpklippdlmaaSl
import Derived.Test.YtoagpklippdlmaaConc
import Derived.Maps.AppendAt
namespace Go.Proofs.Ytoagpklippdlmaa
open Go.RowKit

/-- The first k numbers of a row, the first k rows of a table. -/
def rwL (f : Nat → Nat → Int) (a k : Nat) : List Int := (List.range k).map (f a)
def tbL (f : Nat → Nat → Int) (n k : Nat) : List (List Int) := (List.range k).map fun a => rwL f a n
theorem rwL_len (f : Nat → Nat → Int) (a k : Nat) : (rwL f a k).length = k := by simp [rwL]
theorem rwL_succ (f : Nat → Nat → Int) (a k : Nat) : rwL f a (k + 1) = rwL f a k ++ [f a k] := by simp [rwL, List.range_succ]
theorem rwL_at (f : Nat → Nat → Int) (a n k : Nat) (h : k < n) : (rwL f a n).getD k 0 = f a k := by simp [rwL, h]
theorem tbL_len (f : Nat → Nat → Int) (n k : Nat) : (tbL f n k).length = k := by simp [tbL]
theorem tbL_succ (f : Nat → Nat → Int) (n k : Nat) : tbL f n (k + 1) = tbL f n k ++ [rwL f k n] := by simp [tbL, List.range_succ]
theorem tbL_at (f : Nat → Nat → Int) (n k j : Nat) (h : j < k) : (tbL f n k).getD j [] = rwL f j n := by simp [tbL, h]

theorem mkF_tbL (f : Nat → Nat → Int) (n : Nat) : ∀ (k : Nat) (z : Int), mkF (tbL f n k) z = z + (k : Int) * (n : Int)
  | 0, z => by simp [tbL, mkF]
  | k + 1, z => by
    rw [tbL_succ, mkF_app, mkF_tbL f n k z]
    simp only [mkF, rwL_len]
    rw [show ((k + 1 : Nat) : Int) = (k : Int) + 1 by omega, Int.add_mul, Int.one_mul]
    omega

theorem mkF_tb300 (f : Nat → Nat → Int) {n : Nat} (h : n ≤ 300) : mkF (tbL f n n) 1 ≤ 20000000 := by
  rw [mkF_tbL]
  have h1 : (n : Int) * (n : Int) ≤ 300 * 300 := Int.mul_le_mul (by omega) (by omega) (by omega) (by omega)
  omega

/-- Rows in blocks of their own, all different. -/
structure Trw (w : World) (B : Nat) (v : Value) (us : List Value) (W : List (List Int)) : Prop where
  own : w.ownsRow B 26 1 v W.length us
  row : ∀ j, j < W.length → Own w B (us.getD j undef) (W.getD j [])
  full : ∀ j, j < W.length → W.getD j [] ≠ []
  ne : ∀ i j, i < j → j < W.length → (us.getD i undef).ownBlock ≠ (us.getD j undef).ownBlock

theorem own_blk {w : World} {B : Nat} {v : Value} {L : List Int} (h : Own w B v L) (hL : L ≠ []) : ∃ g cap, v = .slice (some ⟨g, 0, none⟩) L.length cap ∧ B ≤ g ∧ g < w.heap.size := by
  rcases own_shape h with ⟨_, h0⟩ | h1
  · exact absurd h0 hL
  · exact h1

theorem trw_tne {w : World} {b1 b2 T1 T2 s1 s2 n1 n2 : Nat} {v1 v2 : Value} {x1 x2 : List Value} (hT : T1 ≠ T2) (h1 : w.ownsRow b1 T1 s1 v1 n1 x1) (h2 : w.ownsRow b2 T2 s2 v2 n2 x2) (r : Nat) (e1 : v1.ownBlock = some r) : v2.ownBlock ≠ some r := by
  intro e2
  rcases h1.2 with ⟨rfl, _⟩ | ⟨g1, c1, cur1, rfl, _, hg1, _⟩
  · simp [Value.ownBlock] at e1
  · rcases h2.2 with ⟨rfl, _⟩ | ⟨g2, c2, cur2, rfl, _, hg2, _⟩
    · simp [Value.ownBlock] at e2
    · simp [Value.ownBlock] at e1 e2
      subst e1 e2
      rw [hg1] at hg2
      injection hg2 with h
      injection h with _ h
      exact hT h

theorem Trw.below {w w' : World} {B : Nat} {v : Value} {us : List Value} {W : List (List Int)} (h : Trw w B v us W) (hb : Below w.heap.size w w') : Trw w' B v us W :=
  ⟨(Turn.of_below (S := fun _ => False) hb).own h.own (fun _ _ h => h), fun j hj => (Turn.of_below (S := fun _ => False) hb).own (h.row j hj) (fun _ _ h => h), h.full, h.ne⟩

theorem trw_nil (w : World) (B : Nat) (h : B ≤ w.heap.size) : Trw (w.alloc (.cells #[] 26)) B (.slice (some ⟨w.heap.size, 0, none⟩) 0 0) [] [] :=
  ⟨⟨rfl, Or.inr ⟨_, 0, #[], rfl, h, halloc_at _ _ _ rfl, Nat.le_refl _, Nat.zero_le _, rfl, rfl⟩⟩, fun j hj => by simp at hj, fun j hj => by simp at hj, fun i j _ hj => by simp at hj⟩

theorem cell_one8 {w : World} {b T : Nat} {x : Value} (h : w.heap[b]? = some (.cells #[x] T (0, 0))) : ∀ j u, [x][j]? = some u → w.cell? ((⟨b, 0, none⟩ : Addr).add j) = some u := by
  intro j u hj
  have hadd : (⟨b, 0, none⟩ : Addr).add j = ⟨b, j, none⟩ := by cases j <;> simp [Addr.add]
  rw [hadd, Joins.cell_of_block h j, ← hj]
  simp

theorem wpList_appT {ops : Array Oper} {rest : List Oper} {o : Oper} {ac : Act} {Q : Exit → Act → World → Prop} {w : World} (hgd : o.guard = none) (s x : Operand)
    (ho : o.op = .call { callee := .builtin .append, args := #[s, x], argTypes := #[23, 23] })
    (base : Nat) (v : Value) (us : List Value) (W : List (List Int)) (hs : ac.eval s = v) (hp : Trw w base v us W) (b c : Nat) (u : Value) (L : List Int) (hu : Own w base u L) (hL : L ≠ []) (hnew : ∀ j, j < W.length → (us.getD j undef).ownBlock ≠ u.ownBlock) (hx : ac.eval x = .slice (some ⟨b, 0, none⟩) 1 c) (hb : w.heap[b]? = some (.cells #[u] 26 (0, 0)))
    (hlen : W.length ≤ 1000) (hbase : base ≤ w.heap.size)
    (h : ∀ v' w', Trw w' base v' (us ++ [u]) (W ++ [L]) → w.grownBy w' v.ownBlock → wpList Try.prog ops Q rest (ac.put o.dst v') w') : wpList Try.prog ops Q (o :: rest) ac w := by
  obtain ⟨i0, hi, hz0, hz1, hz2⟩ := info_parts info_sl
  obtain ⟨gu, cu, hue, _, _⟩ := own_blk hu hL
  refine wpList_append_own_at w hgd s x _ ho base 26 i0 _ 1 24 Try.underlying23 hi hz0 hz1 hz2 rfl (by decide) v W.length us hs hp.own ⟨b, 0, none⟩ 1 c [u] hx rfl (cell_one8 hb) (fun z hz => by rw [List.mem_singleton.1 hz, hue]; rfl) (by unfold maxLen; omega) (by omega) hbase ?_
  intro v' w' h1 h2 _ h4
  have hap : ∀ {u2 : Value} {X : List Int}, Own w base u2 X → Own w' base u2 X := fun ho => World.ownsRow.kept ho h2 (by
    cases e : Value.ownBlock _ with
    | none => exact Or.inl rfl
    | some r => exact Or.inr fun e2 => trw_tne (by decide) ho hp.own r e e2.symm)
  have hl : us.length = W.length := by have := hp.own.1; omega
  have hold : ∀ j, j < W.length → (us ++ [u]).getD j undef = us.getD j undef ∧ (W ++ [L]).getD j [] = W.getD j [] := fun j e => by
    constructor
    · rw [List.getD_eq_getElem?_getD, List.getElem?_append_left (by omega), ← List.getD_eq_getElem?_getD]
    · rw [List.getD_eq_getElem?_getD, List.getElem?_append_left e, ← List.getD_eq_getElem?_getD]
  have hlast : (us ++ [u]).getD W.length undef = u ∧ (W ++ [L]).getD W.length [] = L := by
    constructor
    · rw [List.getD_eq_getElem?_getD, List.getElem?_append_right (by omega), hl]; simp
    · rw [List.getD_eq_getElem?_getD, List.getElem?_append_right (by omega)]; simp
  refine h v' w' ⟨by rw [List.length_append]; exact h1, fun j hj => ?_, fun j hj => ?_, fun i j hij hj => ?_⟩ h2
  · rw [List.length_append] at hj
    by_cases e : j < W.length
    · rw [(hold j e).1, (hold j e).2]; exact hap (hp.row j e)
    · have ej : j = W.length := by simp at hj; omega
      subst ej
      rw [hlast.1, hlast.2]; exact hap hu
  · rw [List.length_append] at hj
    by_cases e : j < W.length
    · rw [(hold j e).2]; exact hp.full j e
    · have ej : j = W.length := by simp at hj; omega
      subst ej
      rw [hlast.2]; exact hL
  · rw [List.length_append] at hj
    by_cases e : j < W.length
    · rw [(hold j e).1, (hold i (by omega)).1]; exact hp.ne i j hij e
    · have ej : j = W.length := by simp at hj; omega
      subst ej
      rw [hlast.1, (hold i hij).1]
      exact hnew i hij

theorem Trw.rdT {w : World} {B : Nat} {v : Value} {us : List Value} {W : List (List Int)} (h : Trw w B v us W) (hn : W.length ≤ 2000000) (hr : ∀ j, j < W.length → (W.getD j []).length ≤ 2000000) : ∃ a cap, v = .slice a W.length cap ∧ RdT w B w.heap.size a W := by
  rcases h.own.2 with ⟨h1, h0⟩ | ⟨g, cap, cur, h1, hB, hg, hcn, hcap, hsz, htk⟩
  · have := List.length_eq_zero_iff.1 h0
    subst this
    exact ⟨none, 0, h1, hn, hr, Nat.le_refl _, Or.inl rfl⟩
  · have hgl := (Array.getElem?_eq_some_iff.1 hg).1
    refine ⟨_, cap, h1, hn, hr, Nat.le_refl _, Or.inr ⟨g, fun j => ((us.getD j undef).ownBlock).getD 0, fun _ => 0, rfl, hB, hgl, fun i j hi hj hne e => ?_, fun j hj => ?_⟩⟩
    · exfalso
      obtain ⟨gi, ci, ei, _, _⟩ := own_blk (h.row i hi) (h.full i hi)
      obtain ⟨gj, cj, ej, _, _⟩ := own_blk (h.row j hj) (h.full j hj)
      have hs : (us.getD i undef).ownBlock = (us.getD j undef).ownBlock := by
        dsimp only at e
        rw [ei, ej] at e ⊢
        simp [Value.ownBlock] at e ⊢
        exact e
      rcases Nat.lt_or_gt_of_ne hne with c | c
      · exact h.ne i j c hj hs
      · exact h.ne j i c hi hs.symm
    · obtain ⟨gj, cj, ej, hBj, hlj⟩ := own_blk (h.row j hj) (h.full j hj)
      have hl : us.length = W.length := by have := h.own.1; omega
      have e : cur.toList[j]? = us[j]? := by rw [← htk, List.getElem?_take, if_pos (by omega)]
      have hcell : w.cell? ⟨g, j, none⟩ = some (us.getD j undef) := by
        rw [Joins.cell_of_block hg j, ← Array.getElem?_toList, e, List.getElem?_eq_getElem (by omega), List.getD_eq_getElem?_getD, List.getElem?_eq_getElem (by omega)]
        rfl
      obtain ⟨a2, c2, hv2, hrd⟩ := own_rd (h.row j hj) (hr j hj)
      have hgr : ((us.getD j undef).ownBlock).getD 0 = gj := by rw [ej]; rfl
      dsimp only
      rw [hgr]
      refine ⟨⟨_, cj, by rw [hcell, ej], Or.inr ⟨rfl, ?_, hBj, hlj⟩⟩, Joins.unfrozen_of_block hg j, ?_⟩
      · intro eg
        exact trw_tne (by decide) (h.row j hj) h.own gj (by rw [ej]; rfl) (by rw [h1, eg]; rfl)
      · obtain ⟨k, ek, _, _, hcs⟩ := hrd.2.resolve_left (h.full j hj)
        rw [ej] at hv2
        injection hv2 with hv2 _ _
        rw [ek] at hv2
        injection hv2 with hv2
        injection hv2 with hv2
        subst hv2
        intro i hi
        rw [Nat.zero_add]
        exact hcs i hi

end Go.Proofs.Ytoagpklippdlmaa
