/- The contract of spec.l02Closed: it stops where the search by numbers stops. -/
import Derived.Test.YtiogagaclhjdaaaPut
import Derived.Test.YtiogagaclhjdaaaPow
import Derived.Deep.DeepCutAuto
namespace Go.Proofs.Ytiogagaclhjdaaa
open Go.RowKit

theorem info_row : (Try.prog.info? 82).map (fun i => (i.zero, i.size, i.bytes)) = some (some (.slice none 0 0), 1, 24) := by kernel_rfl

/-- The words of a search: a row of rows. -/
structure Wds (w : World) (B : Nat) (v : Value) (us : List Value) (W : List (List Int)) : Prop where
  own : w.ownsRow B 82 1 v W.length us
  row : ∀ j, j < W.length → ∃ g c, us.getD j undef = .slice (some ⟨g, 0, none⟩) (W.getD j []).length c ∧ Own w B (.slice (some ⟨g, 0, none⟩) (W.getD j []).length c) (W.getD j [])

theorem own_bel {w w' : World} {B : Nat} {v : Value} {L : List Int} (h : Own w B v L) (hb : Below w.heap.size w w') : Own w' B v L := by
  unfold Own at *
  exact h.kept (row := none) ⟨hb.os, hb.tape, hb.output, hb.size, fun j hj _ => hb.block j hj⟩ (by cases hv : v.ownBlock <;> simp)

theorem Wds.below {w w' : World} {B : Nat} {v : Value} {us : List Value} {W : List (List Int)} (h : Wds w B v us W) (hb : Below w.heap.size w w') : Wds w' B v us W :=
  ⟨h.own.kept (row := none) ⟨hb.os, hb.tape, hb.output, hb.size, fun j hj _ => hb.block j hj⟩ (by cases hv : v.ownBlock <;> simp), fun j hj => by
    obtain ⟨g, c, e, ho⟩ := h.row j hj
    exact ⟨g, c, e, own_bel ho hb⟩⟩

/-- Rows of different types lie in different blocks. -/
theorem own_apart {w : World} {b1 b2 T1 T2 s1 s2 n1 n2 : Nat} {v1 v2 : Value} {x1 x2 : List Value} (hT : T1 ≠ T2) (h1 : w.ownsRow b1 T1 s1 v1 n1 x1) (h2 : w.ownsRow b2 T2 s2 v2 n2 x2) : v1.ownBlock = none ∨ v1.ownBlock ≠ v2.ownBlock := by
  rcases h1.2 with ⟨rfl, _⟩ | ⟨g1, c1, cur1, rfl, _, hg1, _⟩
  · exact Or.inl rfl
  · rcases h2.2 with ⟨rfl, _⟩ | ⟨g2, c2, cur2, rfl, _, hg2, _⟩
    · exact Or.inr (by simp [Value.ownBlock])
    · refine Or.inr fun e => ?_
      have e' : g1 = g2 := by simpa [Value.ownBlock] using e
      subst e'
      rw [hg1] at hg2
      injection hg2 with h
      injection h with _ h
      exact hT h

theorem Wds.grown {w w' : World} {B : Nat} {v u : Value} {us : List Value} {W : List (List Int)} (h : Wds w B v us W) {b2 s2 n2 : Nat} {x2 : List Value} (hu : w.ownsRow b2 31 s2 u n2 x2) (hg : w.grownBy w' u.ownBlock) : Wds w' B v us W :=
  ⟨h.own.kept hg (own_apart (by decide) h.own hu), fun j hj => by
    obtain ⟨g, c, e, ho⟩ := h.row j hj
    exact ⟨g, c, e, ho.kept hg (own_apart (by decide) ho hu)⟩⟩

theorem PutRow.grown {w w' : World} {B g cap : Nat} {L : List MapN} {u : Value} (h : PutRow w B g cap L) (hg : w.grownBy w' u.ownBlock) (hne : u.ownBlock ≠ some g) : PutRow w' B g cap L := h.block (hg.block g h.hi (fun e => hne e.symm))

theorem wds_open {w : World} {B : Nat} {v : Value} {us : List Value} {W : List (List Int)} (h : Wds w B v us W) (h0 : 0 < W.length) : ∃ g cap, v = .slice (some ⟨g, 0, none⟩) W.length cap ∧ ∀ j, j < W.length → w.cell? ⟨g, j, none⟩ = some (us.getD j undef) := by
  rcases h.own.2 with ⟨_, h1⟩ | ⟨g, cap, cur, h1, _, hg, _, _, _, htk⟩
  · omega
  · refine ⟨g, cap, h1, fun j hj => ?_⟩
    rw [Joins.cell_of_block hg j]
    have hl : us.length = W.length := by have := h.own.1; omega
    have e : cur.toList[j]? = us[j]? := by
      rw [← htk, List.getElem?_take, if_pos (by omega)]
    rw [← Array.getElem?_toList, e, List.getElem?_eq_getElem (by omega), List.getD_eq_getElem?_getD, List.getElem?_eq_getElem (by omega)]
    rfl

theorem cell_one_blk {w : World} {b T : Nat} {x : Value} (h : w.heap[b]? = some (.cells #[x] T (0, 0))) : ∀ j u, [x][j]? = some u → w.cell? ((⟨b, 0, none⟩ : Addr).add j) = some u := by
  intro j u hj
  have hadd : (⟨b, 0, none⟩ : Addr).add j = ⟨b, j, none⟩ := by cases j <;> simp [Addr.add]
  rw [hadd, Joins.cell_of_block h j, ← hj]
  simp

theorem wpList_appM1 {ops : Array Oper} {rest : List Oper} {o : Oper} {ac : Act} {Q : Exit → Act → World → Prop} {w : World} (hgd : o.guard = none) (s x : Operand)
    (ho : o.op = .call { callee := .builtin .append, args := #[s, x], argTypes := #[29, 29] })
    (base : Nat) (v : Value) (M : List MapN) (hs : ac.eval s = v) (hown : OwnM w base v M) (b c : Nat) (y : MapN) (hx : ac.eval x = .slice (some ⟨b, 0, none⟩) 1 c) (hb : w.heap[b]? = some (.cells (mcells y.1 y.2) 31 (0, 0)))
    (hlen : M.length ≤ 1000000) (hbase : base ≤ w.heap.size)
    (h : ∀ v' w', OwnM w' base v' (M ++ [y]) → w.grownBy w' v.ownBlock → (v'.ownBlock = v.ownBlock ∨ v'.ownBlock = some w.heap.size) → wpList Try.prog ops Q rest (ac.put o.dst v') w') : wpList Try.prog ops Q (o :: rest) ac w := by
  obtain ⟨i0, hi, hz0, hz1, hz2⟩ := info_parts info_map
  refine wpList_append_own_at w hgd s x _ ho base 31 i0 _ 6 48 Try.underlying29 hi hz0 hz1 hz2 rfl (by decide) v M.length (mcels M) hs hown ⟨b, 0, none⟩ 1 c (mcels [y]) hx rfl (rowM_cells (L := [y]) (at_one hb)) (mcels_one [y]) (by unfold maxLen; omega) (by omega) hbase ?_
  intro v' w' h1 h2 _ h4
  refine h v' w' ?_ h2 h4
  unfold OwnM
  rw [mcels_app, List.length_append]
  exact h1

theorem wpList_appI1 {ops : Array Oper} {rest : List Oper} {o : Oper} {ac : Act} {Q : Exit → Act → World → Prop} {w : World} (hgd : o.guard = none) (s x : Operand)
    (ho : o.op = .call { callee := .builtin .append, args := #[s, x], argTypes := #[82, 82] })
    (base : Nat) (v : Value) (L : List Int) (hs : ac.eval s = v) (hown : Own w base v L) (b c : Nat) (y : Int) (hx : ac.eval x = .slice (some ⟨b, 0, none⟩) 1 c) (hb : w.heap[b]? = some (.cells #[.int .i64 y] 2 (0, 0)))
    (hlen : L.length ≤ 1000000) (hbase : base ≤ w.heap.size)
    (h : ∀ v' w', Own w' base v' (L ++ [y]) → w.grownBy w' v.ownBlock → wpList Try.prog ops Q rest (ac.put o.dst v') w') : wpList Try.prog ops Q (o :: rest) ac w := by
  obtain ⟨i0, hi, hz0, hz1, hz2⟩ := info_parts info_int
  refine wpList_append_own_at w hgd s x _ ho base 2 i0 _ 1 8 Try.underlying82 hi hz0 hz1 hz2 rfl (by decide) v L.length (L.map (Value.int .i64)) hs hown ⟨b, 0, none⟩ 1 c [.int .i64 y] hx rfl (cell_one_blk hb) (ints_oneCell .i64 [y]) (by unfold maxLen; omega) (by omega) hbase ?_
  intro v' w' h1 h2 _ _
  refine h v' w' ?_ h2
  unfold Own
  rw [List.map_append, List.length_append]
  exact h1

theorem wpList_appW1 {ops : Array Oper} {rest : List Oper} {o : Oper} {ac : Act} {Q : Exit → Act → World → Prop} {w : World} (hgd : o.guard = none) (s x : Operand)
    (ho : o.op = .call { callee := .builtin .append, args := #[s, x], argTypes := #[79, 79] })
    (base : Nat) (v : Value) (n : Nat) (us : List Value) (hs : ac.eval s = v) (hown : w.ownsRow base 82 1 v n us) (b c : Nat) (u : Value) (hu : u.oneCell' = true) (hx : ac.eval x = .slice (some ⟨b, 0, none⟩) 1 c) (hb : w.heap[b]? = some (.cells #[u] 82 (0, 0)))
    (hlen : n ≤ 1000000) (hbase : base ≤ w.heap.size)
    (h : ∀ v' w', w'.ownsRow base 82 1 v' (n + 1) (us ++ [u]) → w.grownBy w' v.ownBlock → wpList Try.prog ops Q rest (ac.put o.dst v') w') : wpList Try.prog ops Q (o :: rest) ac w := by
  obtain ⟨i0, hi, hz0, hz1, hz2⟩ := info_parts info_row
  refine wpList_append_own_at w hgd s x _ ho base 82 i0 _ 1 24 Try.underlying79 hi hz0 hz1 hz2 rfl (by decide) v n us hs hown ⟨b, 0, none⟩ 1 c [u] hx rfl (cell_one_blk hb) (fun z hz => by rw [List.mem_singleton.1 hz]; exact hu) (by unfold maxLen; omega) (by omega) hbase ?_
  intro v' w' h1 h2 _ _
  exact h v' w' h1 h2

theorem own_oneM {w : World} {b base : Nat} {p : Int} {t : Nat → Int} (h : w.heap[b]? = some (.cells (mcells p t) 31 (0, 0))) (hb : base ≤ b) : OwnM w base (.slice (some ⟨b, 0, none⟩) 1 1) [(p, t)] :=
  ⟨rfl, Or.inr ⟨b, 1, mcells p t, rfl, hb, h, Nat.le_refl _, by decide, rfl, rfl⟩⟩

theorem put_oneM {w : World} {b base : Nat} {p : Int} {t : Nat → Int} (h : w.heap[b]? = some (.cells (mcells p t) 31 (0, 0))) (hb : base ≤ b) : PutRow w base b 1 [(p, t)] :=
  ⟨Nat.le_refl _, by decide, hb, (Array.getElem?_eq_some_iff.1 h).1, at_one h, _, h⟩

theorem wds_one {w : World} {b b2 base : Nat} (h : w.heap[b]? = some (.cells #[.slice (some ⟨b2, 0, none⟩) 0 0] 82 (0, 0))) (h2 : w.heap[b2]? = some (.cells #[] 2 (0, 0))) (hb : base ≤ b) (hb2 : base ≤ b2) :
    Wds w base (.slice (some ⟨b, 0, none⟩) 1 1) [.slice (some ⟨b2, 0, none⟩) 0 0] [[]] :=
  ⟨⟨rfl, Or.inr ⟨b, 1, _, rfl, hb, h, Nat.le_refl _, by decide, rfl, rfl⟩⟩, fun j hj => by
    obtain rfl : j = 0 := by simpa using hj
    exact ⟨b2, 0, rfl, rfl, Or.inr ⟨b2, 0, #[], rfl, hb2, h2, Nat.le_refl _, Nat.zero_le _, rfl, rfl⟩⟩⟩

theorem srtE_one (c : Nat) : srtE [c] = [c] := by simp [srtE, putN, lowN]

theorem mv_ecd {p : Int} {t : Nat → Int} (h : isB p t = true) : mv p t = mv p (dcd (ecd t)) := by unfold mv; rw [mcells_ecd h]

theorem times_num {p : Int} {a b : Nat} (ha : vld p a) (hb : vld p b) (w : World) :
    Calls Try.prog 69 #[mv p (dcd a), mv p (dcd b)] w fun e w' => e = .returned (mv p (dcd (mulC p a b))) ∧ Below w.heap.size w w' := by
  have h := times_any p (dcd a) (dcd b) ha.2 hb.2 w
  rw [mv_ecd (mul_ok ha.2 hb.2)] at h
  exact h

theorem sid_num {p : Int} (h1 : 1 ≤ p) (h5 : p ≤ 5) (w : World) :
    Calls Try.prog 109 #[.int .i64 p] w fun e w' => e = .returned (mv p (dcd (idC p))) ∧ Below w.heap.size w w' := by
  have h := sid_any p h1 h5 w
  rw [mv_ecd (idn_ok h1 h5)] at h
  exact h

/-- Where spec.l02Closed stands. -/
structure ClR (w wr : World) (p : Int) (gs : List Nat) (pos k : Nat) (E : List Nat) (W : List (List Int)) (gO capO : Nat) (vW : Value) (us : List Value) (gK capK : Nat) : Prop where
  rch : Rch p gs ⟨pos, k, E, W⟩
  le : E.length ≤ 300
  own : OwnM wr w.heap.size (.slice (some ⟨gO, 0, none⟩) E.length capO) (mE p E)
  wds : Wds wr w.heap.size vW us W
  put : PutRow wr w.heap.size gK capK (mE p (srtE E))
  ne : gO ≠ gK
  bel : Below w.heap.size w wr

theorem ClR.below {w wr wr' : World} {p : Int} {gs : List Nat} {pos k : Nat} {E : List Nat} {W : List (List Int)} {gO capO : Nat} {vW : Value} {us : List Value} {gK capK : Nat} (h : ClR w wr p gs pos k E W gO capO vW us gK capK) (hb : Below wr.heap.size wr wr') :
    ClR w wr' p gs pos k E W gO capO vW us gK capK :=
  ⟨h.rch, h.le, ownM_bel h.own hb, h.wds.below hb, h.put.below hb, h.ne, h.bel.trans (hb.mono h.bel.size)⟩

theorem ownM_at {w : World} {B g n cap : Nat} {L : List MapN} (h : OwnM w B (.slice (some ⟨g, 0, none⟩) n cap) L) (hL : L.length ≤ 2000000) : B ≤ g ∧ g < w.heap.size ∧ ∀ j, j < L.length → AtM w g 0 j (L.getD j z0) := by
  obtain ⟨a, cap2, e, hr⟩ := ownM_rd h hL
  injection e with e _ _
  have hlt := h.lt g rfl
  refine ⟨hlt.1, hlt.2, fun j hj => ?_⟩
  obtain ⟨g2, ea, _, _, hc, _⟩ := hr.2.resolve_left (fun e0 => by rw [e0] at hj; simp at hj)
  rw [ea] at e
  injection e with e
  injection e with e
  subst e
  exact hc j hj

theorem wds_at {w : World} {B g n cap : Nat} {us : List Value} {W : List (List Int)} (h : Wds w B (.slice (some ⟨g, 0, none⟩) n cap) us W) (j : Nat) (hj : j < W.length) : w.cell? ⟨g, j, none⟩ = some (us.getD j undef) := by
  obtain ⟨g2, cap2, e, hc⟩ := wds_open h (by omega)
  injection e with e _ _
  injection e with e
  injection e with e
  subst e
  exact hc j hj

theorem own_cells {w : World} {B g n cap : Nat} {L : List Int} (h : Own w B (.slice (some ⟨g, 0, none⟩) n cap) L) (hL : L.length ≤ 2000000) : g < w.heap.size ∧ ∀ i, i < L.length → w.cell? ⟨g, 0 + i, none⟩ = some (.int .i64 (L.getD i 0)) := by
  obtain ⟨a, cap2, e, hr⟩ := own_rd h hL
  injection e with e _ _
  refine ⟨(h.lt g rfl).2, fun i hi => ?_⟩
  obtain ⟨g2, ea, _, _, hc⟩ := hr.2.resolve_left (fun e0 => by rw [e0] at hi; simp at hi)
  rw [ea] at e
  injection e with e
  injection e with e
  subst e
  rw [Nat.zero_add]
  exact (hc i hi).1

theorem own_some {w : World} {B : Nat} {v : Value} {L : List Int} (h : Own w B v L) (h0 : L ≠ []) : ∃ g c, v = .slice (some ⟨g, 0, none⟩) L.length c := by
  rcases h.2 with ⟨_, h1⟩ | ⟨g, cap, cur, h1, _⟩
  · exact absurd (List.length_eq_zero_iff.1 h1) h0
  · exact ⟨g, cap, h1⟩

theorem wds_some {w : World} {B n : Nat} {v : Value} {us : List Value} (h : w.ownsRow B 82 1 v n us) (h0 : 0 < n) : ∃ g c, v = .slice (some ⟨g, 0, none⟩) n c := by
  rcases h.2 with ⟨_, h1⟩ | ⟨g, cap, cur, h1, _⟩
  · omega
  · exact ⟨g, cap, h1⟩

theorem blk_apart {w : World} {b T1 b2 T2 s2 n2 : Nat} {cur : Array Value} {v2 : Value} {x2 : List Value} (hT : T1 ≠ T2) (h1 : w.heap[b]? = some (.cells cur T1 (0, 0))) (h2 : w.ownsRow b2 T2 s2 v2 n2 x2) : some b ≠ v2.ownBlock := by
  rcases h2.2 with ⟨rfl, _⟩ | ⟨g2, c2, cur2, rfl, _, hg2, _⟩
  · simp [Value.ownBlock]
  · intro e
    have e' : b = g2 := by simpa [Value.ownBlock] using e
    subst e'
    rw [h1] at hg2
    injection hg2 with h
    injection h with _ h
    exact hT h

theorem Wds.push {w : World} {B : Nat} {us : List Value} {W : List (List Int)} {v : Value} {g c : Nat} {L : List Int} (h1 : w.ownsRow B 82 1 v (W.length + 1) (us ++ [.slice (some ⟨g, 0, none⟩) L.length c])) (hl : us.length = W.length)
    (h2 : ∀ j, j < W.length → ∃ g c, us.getD j undef = .slice (some ⟨g, 0, none⟩) (W.getD j []).length c ∧ Own w B (.slice (some ⟨g, 0, none⟩) (W.getD j []).length c) (W.getD j [])) (h3 : Own w B (.slice (some ⟨g, 0, none⟩) L.length c) L) :
    Wds w B v (us ++ [.slice (some ⟨g, 0, none⟩) L.length c]) (W ++ [L]) := by
  refine ⟨by simpa using h1, fun j hj => ?_⟩
  by_cases e : j < W.length
  · have e1 : (us ++ [Value.slice (some ⟨g, 0, none⟩) L.length c]).getD j undef = us.getD j undef := by
      rw [List.getD_eq_getElem?_getD, List.getElem?_append_left (by omega), ← List.getD_eq_getElem?_getD]
    have e2 : (W ++ [L]).getD j [] = W.getD j [] := by
      rw [List.getD_eq_getElem?_getD, List.getElem?_append_left e, ← List.getD_eq_getElem?_getD]
    rw [e1, e2]
    exact h2 j e
  · have ej : j = W.length := by simp at hj; omega
    have e1 : (us ++ [Value.slice (some ⟨g, 0, none⟩) L.length c]).getD j undef = .slice (some ⟨g, 0, none⟩) L.length c := by
      rw [ej, ← hl, List.getD_eq_getElem?_getD]; simp
    have e2 : (W ++ [L]).getD j [] = L := by
      rw [ej, List.getD_eq_getElem?_getD]; simp
    rw [e1, e2]
    exact ⟨g, c, rfl, h3⟩

/-- Behind the append of an element. -/
structure ClA (w w4 : World) (p : Int) (E : List Nat) (W : List (List Int)) (gO capO : Nat) (vW : Value) (us : List Value) (gK capK : Nat) (K : List Nat) (B5 nx : Nat) : Prop where
  own : OwnM w4 w.heap.size (.slice (some ⟨gO, 0, none⟩) E.length capO) (mE p E)
  wds : Wds w4 w.heap.size vW us W
  put : PutRow w4 w.heap.size gK capK (mE p K)
  ne : gO ≠ gK
  box : w4.heap[B5]? = some (.cells (mcells p (dcd nx)) 31 (0, 0))
  bel : Below w.heap.size w w4

theorem clr_app {w wa w4 : World} {p : Int} {gs : List Nat} {pos k : Nat} {E : List Nat} {W : List (List Int)} {gO capO : Nat} {vW vO : Value} {us : List Value} {gK capK B5 nx : Nat} (h : ClR w wa p gs pos k E W gO capO vW us gK capK)
    (hx : wa.heap[B5]? = some (.cells (mcells p (dcd nx)) 31 (0, 0))) (hne : gO ≠ B5) (hown : OwnM w4 w.heap.size vO (mE p E ++ [(p, dcd nx)])) (hg : wa.grownBy w4 (some gO)) (hat : vO.ownBlock = some gO ∨ vO.ownBlock = some wa.heap.size) :
    ∃ gO2 capO2, vO = .slice (some ⟨gO2, 0, none⟩) (E ++ [nx]).length capO2 ∧ ClA w w4 p (E ++ [nx]) W gO2 capO2 vW us gK capK (srtE E) B5 nx := by
  have hlo : (mE p E ++ [(p, dcd nx)]).length = (E ++ [nx]).length := by simp [mE_len]
  have hle := h.le
  obtain ⟨g2, c2, e2, _⟩ := ownM_put hown (by rw [hlo]; simp; omega) (by simp)
  rw [hlo] at e2
  subst e2
  have hkn := h.put.hi
  have hne2 := h.ne
  have hown2 : OwnM w4 w.heap.size (.slice (some ⟨g2, 0, none⟩) (E ++ [nx]).length c2) (mE p (E ++ [nx])) := by rw [mE_app]; exact hown
  refine ⟨g2, c2, rfl, hown2, h.wds.grown h.own hg, h.put.grown (u := .slice (some ⟨gO, 0, none⟩) E.length capO) hg (fun e => hne2 (by simpa [Value.ownBlock] using e)), ?_, ?_, h.bel.grown hg h.bel.size (fun r e => ?_)⟩
  · rcases hat with e | e
    · have : g2 = gO := by simpa [Value.ownBlock] using e
      omega
    · have : g2 = wa.heap.size := by simpa [Value.ownBlock] using e
      omega
  · refine (hg.block B5 (Array.getElem?_eq_some_iff.1 hx).1 (fun e => hne (by injection e with e; exact e.symm))).trans hx
  · injection e with e
    subst e
    exact (h.own.lt gO rfl).1

theorem ClA.below {w wr wr' : World} {p : Int} {E : List Nat} {W : List (List Int)} {gO capO : Nat} {vW : Value} {us : List Value} {gK capK : Nat} {K : List Nat} {B5 nx : Nat} (h : ClA w wr p E W gO capO vW us gK capK K B5 nx) (hb : Below wr.heap.size wr wr') :
    ClA w wr' p E W gO capO vW us gK capK K B5 nx :=
  ⟨ownM_bel h.own hb, h.wds.below hb, h.put.below hb, h.ne, (hb.block B5 (Array.getElem?_eq_some_iff.1 h.box).1).trans h.box, h.bel.trans (hb.mono h.bel.size)⟩

theorem cla_word {w wb w7 : World} {p : Int} {E : List Nat} {W : List (List Int)} {gO capO gW n capW : Nat} {v7 : Value} {us : List Value} {gK capK : Nat} {K : List Nat} {B5 nx g6 c6 m : Nat} {L : List Int}
    (h : ClA w wb p E W gO capO (.slice (some ⟨gW, 0, none⟩) n capW) us gK capK K B5 nx) (hw : Own wb w.heap.size (.slice (some ⟨g6, 0, none⟩) m c6) L)
    (hown : w7.ownsRow w.heap.size 82 1 v7 (W.length + 1) (us ++ [.slice (some ⟨g6, 0, none⟩) m c6])) (hg : wb.grownBy w7 (some gW)) :
    ∃ gW2 capW2, v7 = .slice (some ⟨gW2, 0, none⟩) (W.length + 1) capW2 ∧ ClA w w7 p E (W ++ [L]) gO capO (.slice (some ⟨gW2, 0, none⟩) (W.length + 1) capW2) (us ++ [.slice (some ⟨g6, 0, none⟩) m c6]) gK capK K B5 nx := by
  have hm : m = L.length := by
    rcases hw.2 with ⟨e, _⟩ | ⟨g, cap, cur, e, _⟩
    · cases e
    · injection e
  subst hm
  have hn : n = W.length := by
    rcases h.wds.own.2 with ⟨e, _⟩ | ⟨g, cap, cur, e, _⟩
    · cases e
    · injection e
  subst hn
  obtain ⟨g2, c2, e2⟩ := wds_some hown (by omega)
  subst e2
  refine ⟨g2, c2, rfl, ?_⟩
  have hW : wb.ownsRow w.heap.size 82 1 (.slice (some ⟨gW, 0, none⟩) W.length capW) W.length us := h.wds.own
  have hul : us.length = W.length := by have := h.wds.own.1; omega
  have keep : ∀ {b T2 s2 n2 : Nat} {v2 : Value} {x2 : List Value}, T2 ≠ 82 → wb.ownsRow b T2 s2 v2 n2 x2 → w7.ownsRow b T2 s2 v2 n2 x2 := fun hT ho => ho.kept hg (by
    rcases own_apart hT ho hW with e | e
    · exact Or.inl e
    · exact Or.inr e)
  refine ⟨keep (by decide) h.own, Wds.push hown hul (fun j hj => ?_) (keep (by decide) hw), ?_, h.ne, ?_, h.bel.grown hg h.bel.size (fun r e => ?_)⟩
  · obtain ⟨g, c, e, ho⟩ := h.wds.row j hj
    exact ⟨g, c, e, keep (by decide) ho⟩
  · obtain ⟨cur, hc⟩ := h.put.ty
    exact h.put.block (hg.block gK h.put.hi (fun e => blk_apart (by decide) hc hW (by rw [e]; rfl)))
  · exact (hg.block B5 (Array.getElem?_eq_some_iff.1 h.box).1 (fun e => blk_apart (by decide) h.box hW (by rw [e]; rfl))).trans h.box
  · injection e with e
    subst e
    exact (hW.lt gW rfl).1

/-- What spec.l02Closed leaves. -/
def RetClo (p : Int) (gs : List Nat) (w : World) (e : Ending) (w' : World) : Prop :=
  Below w.heap.size w w' ∧ Rch p gs (cfin p gs) ∧ cterm (cfin p gs) ∧
    ((300 < (cfin p gs).E.length ∧ e = .returned (.tuple #[.slice none 0 0, .slice none 0 0, .bool false])) ∨
     ((cfin p gs).E.length ≤ 300 ∧ ∃ gO capO vW us, e = .returned (.tuple #[.slice (some ⟨gO, 0, none⟩) (cfin p gs).E.length capO, vW, .bool true]) ∧
       OwnM w' w.heap.size (.slice (some ⟨gO, 0, none⟩) (cfin p gs).E.length capO) (mE p (cfin p gs).E) ∧ Wds w' w.heap.size vW us (cfin p gs).W))

set_option maxRecDepth 100000 in
set_option maxHeartbeats 4000000 in
theorem sclo_any {p : Int} {gs : List Nat} (h1 : 1 ≤ p) (h5 : p ≤ 5) (hg : ∀ c ∈ gs, vld p c) (hn : gs.length ≤ 6) (a : Option Addr) (cap : Nat) (w : World) (hr : InRowM w a (mE p gs)) :
    Calls Try.prog 93 #[.slice a gs.length cap, .int .i64 p] w (RetClo p gs w) := by
  have HR := Lib.hid hr
  have HG := Lib.hid hg
  have HID := Lib.hid fun w => sid_num h1 h5 w
  have hidv := idC_vld h1 h5
  have HIV := Lib.hid hidv
  clear hr hg hidv
  simp only [mv, mcells] at HID
  go_enter Try.func93, Try.ntmps93
  go_wp2_with fail
  refine (HID.out _).mono ?_
  rintro e w1 ⟨rfl, hb⟩
  have HB1 := Lib.hid hb
  have hz1 := hb.size
  clear hb
  go_wp2_with fail
  refine (HID.out _).mono ?_
  rintro e w2 ⟨rfl, hb⟩
  have hz2 := hb.size
  have HB2 := Lib.hid hb
  clear hb
  simp at hz2
  go_wp2_with fail
  go_loopw [7, 8, 9, 10] (fun vO vW vK i wr => ∃ (pos : Nat) (E : List Nat) (W : List (List Int)) (gO capO : Nat) (us : List Value) (gK capK : Nat), vO = .slice (some ⟨gO, 0, none⟩) E.length capO ∧ vK = .slice (some ⟨gK, 0, none⟩) E.length capK ∧ i = .int .i64 pos ∧ ClR w wr p gs pos 0 E W gO capO vW us gK capK) (fun _ _ _ i _ => 301 - (intOf i).toNat)
  case atStart =>
    refine ⟨0, [idC p], [[]], _, 1, [_], _, 1, rfl, rfl, rfl, ⟨rch_start p gs, by simp, own_oneM (by (repeat' (first | omega | (rw [hdrew]) | (with_reducible assumption) | (with_reducible exact Hid.out (by assumption)) | (with_reducible rfl) | ((with_reducible refine halloc_at _ _ _ ?_) <;> (first | (with_reducible rfl) | omega | (simp; done))) | (with_reducible refine chain6 ?_) | (with_reducible refine Eq.trans (hset_ne _ _ _ _ ?_) ?_) | (with_reducible refine Eq.trans (halloc_lt _ _ _ ?_) ?_) | (with_reducible refine Eq.trans (Below.block (Hid.out (by assumption)) _ ?_) ?_) | (simp; done) | (simp; omega)))) (by omega), wds_one (b2 := w1.heap.size + 1) (by (repeat' (first | omega | (rw [hdrew]) | (with_reducible assumption) | (with_reducible exact Hid.out (by assumption)) | (with_reducible rfl) | ((with_reducible refine halloc_at _ _ _ ?_) <;> (first | (with_reducible rfl) | omega | (simp; done))) | (with_reducible refine chain6 ?_) | (with_reducible refine Eq.trans (hset_ne _ _ _ _ ?_) ?_) | (with_reducible refine Eq.trans (halloc_lt _ _ _ ?_) ?_) | (with_reducible refine Eq.trans (Below.block (Hid.out (by assumption)) _ ?_) ?_) | (simp; done) | (simp; omega)))) (by (repeat' (first | omega | (rw [hdrew]) | (with_reducible assumption) | (with_reducible exact Hid.out (by assumption)) | (with_reducible rfl) | ((with_reducible refine halloc_at _ _ _ ?_) <;> (first | (with_reducible rfl) | omega | (simp; done))) | (with_reducible refine chain6 ?_) | (with_reducible refine Eq.trans (hset_ne _ _ _ _ ?_) ?_) | (with_reducible refine Eq.trans (halloc_lt _ _ _ ?_) ?_) | (with_reducible refine Eq.trans (Below.block (Hid.out (by assumption)) _ ?_) ?_) | (simp; done) | (simp; omega)))) (by omega) (by omega), ?_, by omega, by (repeat' (first | (with_reducible exact Below.refl _ _) | (with_reducible refine Below.alloc ?_ ?_ _) | (with_reducible refine Below.setCell ?_ ?_ _) | (with_reducible refine Below.drew ?_) | (with_reducible refine below_drewN ?_ _) | (with_reducible refine Below.trans ?_ (Below.mono (Hid.out (by assumption)) ?_)) | omega | (simp; done) | (simp; omega)))⟩⟩
    rw [srtE_one]
    exact put_oneM (by (repeat' (first | omega | (rw [hdrew]) | (with_reducible assumption) | (with_reducible exact Hid.out (by assumption)) | (with_reducible rfl) | ((with_reducible refine halloc_at _ _ _ ?_) <;> (first | (with_reducible rfl) | omega | (simp; done))) | (with_reducible refine chain6 ?_) | (with_reducible refine Eq.trans (hset_ne _ _ _ _ ?_) ?_) | (with_reducible refine Eq.trans (halloc_lt _ _ _ ?_) ?_) | (with_reducible refine Eq.trans (Below.block (Hid.out (by assumption)) _ ?_) ?_) | (simp; done) | (simp; omega)))) (by omega)
  case round =>
    clear HB1 HB2 hz1 hz2
    obtain ⟨pos, E, W, gO, capO, us, gK, capK, rfl, rfl, rfl, hC⟩ := hrel
    by_cases hp : pos < E.length
    · have hp' : (pos : Int) < (E.length : Int) := by omega
      have HC := Lib.hid hC
      clear hC
      go_wp2_with fail
      go_loopw [7, 8, 9, 11] (fun vO vW vK i wq => ∃ (k : Nat) (E : List Nat) (W : List (List Int)) (gO capO : Nat) (us : List Value) (gK capK : Nat), vO = .slice (some ⟨gO, 0, none⟩) E.length capO ∧ vK = .slice (some ⟨gK, 0, none⟩) E.length capK ∧ i = .int .i64 k ∧ pos < E.length ∧ ClR w wq p gs pos k E W gO capO vW us gK capK) (fun _ _ _ i _ => gs.length - (intOf i).toNat)
      case atStart => exact ⟨0, E, W, gO, capO, us, gK, capK, rfl, rfl, rfl, hp, HC.out⟩
      case round =>
        clear HC hp hp'
        obtain ⟨k, E, W, gO, capO, us, gK, capK, rfl, rfl, rfl, hp, hC⟩ := hrel
        by_cases hk : k < gs.length
        · have hk' : (k : Int) < (gs.length : Int) := by omega
          have hp' : (pos : Int) < (E.length : Int) := by omega
          have hI := hC.rch.inv h1 h5 HG.out
          have hWl : W.length = E.length := hI.len
          have hel := hC.le
          obtain ⟨gW, capW, rfl, _⟩ := wds_open hC.wds (by omega)
          have hva := hI.vl _ (getD_mem hp)
          have hvb := HG.out _ (getD_mem hk)
          obtain ⟨_, hgO, hcO⟩ := ownM_at hC.own (by rw [mE_len]; omega)
          have hx := hcO pos (by rw [mE_len]; exact hp)
          rw [mE_at p E pos hp] at hx
          unfold AtM at hx
          rw [Nat.zero_add] at hx
          obtain ⟨b, off, rfl, hbl, hy⟩ := (HR.out.below hC.bel).at6 k (by rw [mE_len]; exact hk)
          rw [mE_at p gs k hk] at hy
          have HC := Lib.hid hC
          have HI := Lib.hid hI
          have HWL := Lib.hid hWl
          clear hWl
          have hT := fun w => times_num hva hvb w
          have HVN := Lib.hid (mulC_vld hva hvb)
          obtain ⟨nx, hnx⟩ : ∃ nx, nx = mulC p (E.getD pos 0) (gs.getD k 0) := ⟨_, rfl⟩
          rw [← hnx] at hT HVN
          have HNX := Lib.hid hnx
          clear hC hI hcO hva hvb hnx
          generalize E.getD pos 0 = x at hx hT
          generalize gs.getD k 0 = y at hy hT
          simp only [mv, mcells] at hT
          have HT := Lib.hid hT
          clear hT
          obtain ⟨x0, x1, x2, x3, x4, x5⟩ := hx
          obtain ⟨y0, y1, y2, y3, y4, y5⟩ := hy
          simp only [] at x0 x1 x2 x3 x4 x5 y0 y1 y2 y3 y4 y5
          have r0 : ∀ z, Below wr.heap.size wr z → z.cell? _ = some _ := fun z h => (h.cell (p := ⟨gO, _, none⟩) hgO).trans x0
          have r1 : ∀ z, Below wr.heap.size wr z → z.cell? _ = some _ := fun z h => (h.cell (p := ⟨gO, _, none⟩) hgO).trans x1
          have r2 : ∀ z, Below wr.heap.size wr z → z.cell? _ = some _ := fun z h => (h.cell (p := ⟨gO, _, none⟩) hgO).trans x2
          have r3 : ∀ z, Below wr.heap.size wr z → z.cell? _ = some _ := fun z h => (h.cell (p := ⟨gO, _, none⟩) hgO).trans x3
          have r4 : ∀ z, Below wr.heap.size wr z → z.cell? _ = some _ := fun z h => (h.cell (p := ⟨gO, _, none⟩) hgO).trans x4
          have r5 : ∀ z, Below wr.heap.size wr z → z.cell? _ = some _ := fun z h => (h.cell (p := ⟨gO, _, none⟩) hgO).trans x5
          have q0 : ∀ z, Below wr.heap.size wr z → z.cell? _ = some _ := fun z h => (h.cell (p := ⟨b, _, none⟩) hbl).trans y0
          have q1 : ∀ z, Below wr.heap.size wr z → z.cell? _ = some _ := fun z h => (h.cell (p := ⟨b, _, none⟩) hbl).trans y1
          have q2 : ∀ z, Below wr.heap.size wr z → z.cell? _ = some _ := fun z h => (h.cell (p := ⟨b, _, none⟩) hbl).trans y2
          have q3 : ∀ z, Below wr.heap.size wr z → z.cell? _ = some _ := fun z h => (h.cell (p := ⟨b, _, none⟩) hbl).trans y3
          have q4 : ∀ z, Below wr.heap.size wr z → z.cell? _ = some _ := fun z h => (h.cell (p := ⟨b, _, none⟩) hbl).trans y4
          have q5 : ∀ z, Below wr.heap.size wr z → z.cell? _ = some _ := fun z h => (h.cell (p := ⟨b, _, none⟩) hbl).trans y5
          clear x0 x1 x2 x3 x4 x5 y0 y1 y2 y3 y4 y5
          go_upto_region 9 with fail
          go_cut [12] (fun s12 wx => ∃ B5 : Nat, s12 = .pointer (some ⟨B5, 0, none⟩) ∧ Below wr.heap.size wr wx ∧ wr.heap.size ≤ B5 ∧ B5 < wx.heap.size ∧ wx.heap[B5]? = some (.cells (mcells p (dcd nx)) 31 (0, 0)))
          case first =>
            go_region_held3 (fun w' => Below wr.heap.size wr w') (first | (with_reducible assumption) | ((repeat' (first | (with_reducible exact Below.refl _ _) | (with_reducible refine Below.alloc ?_ ?_ _) | (with_reducible refine Below.setCell ?_ ?_ _) | (with_reducible refine Below.drew ?_) | (with_reducible refine below_drewN ?_ _) | (with_reducible refine Below.trans ?_ (Below.mono (Hid.out (by assumption)) ?_)) | omega | (simp; done) | (simp; omega))); done)) (first | (go_at_call 69; (with_reducible refine (HT.out _).mono ?_); rintro e w1 ⟨rfl, hb⟩; skip; obtain ⟨hc, hf⟩ := bcell hb; have hz := hb.size; have Hb := Lib.hid hb; (try simp at hz hc hf); (try (have hy := Nat.lt_of_succ_le hz)); have hz0 : wr.heap.size ≤ w1.heap.size := (by omega); (try (have hz1 : wr.heap.size < w1.heap.size := (by omega))); clear hb))
            all_goals (go_wp2_with fail)
            all_goals (go_meet)
            all_goals
              refine ⟨_, rfl, ?_, ?_, ?_, ?_⟩
              · (repeat' (first | (with_reducible exact Below.refl _ _) | (with_reducible refine Below.alloc ?_ ?_ _) | (with_reducible refine Below.setCell ?_ ?_ _) | (with_reducible refine Below.drew ?_) | (with_reducible refine below_drewN ?_ _) | (with_reducible refine Below.trans ?_ (Below.mono (Hid.out (by assumption)) ?_)) | omega | (simp; done) | (simp; omega)))
              · first | omega | (simp; done) | (simp; omega)
              · first | omega | (simp; done) | (simp; omega)
              · clear r0 r1 r2 r3 r4 r5 q0 q1 q2 q3 q4 q5
                (repeat' (first | omega | (rw [hdrew]) | (with_reducible assumption) | (with_reducible exact Hid.out (by assumption)) | (with_reducible rfl) | ((with_reducible refine halloc_at _ _ _ ?_) <;> (first | (with_reducible rfl) | omega | (simp; done))) | (with_reducible refine chain6 ?_) | (with_reducible refine Eq.trans (hset_ne _ _ _ _ ?_) ?_) | (with_reducible refine Eq.trans (halloc_lt _ _ _ ?_) ?_) | (with_reducible refine Eq.trans (Below.block (Hid.out (by assumption)) _ ?_) ?_) | (simp; done) | (simp; omega)))
          case rest =>
            clear r0 r1 r2 r3 r4 r5 q0 q1 q2 q3 q4 q5
            obtain ⟨B5, rfl, hbc, hB1, hB2, hbk⟩ := hcut
            have hC2 := HC.out.below hbc
            have HBK := Lib.hid hbk
            have hgob : gO < B5 := by omega
            have hnd := HI.out.nd
            have hlenE : (srtE E).length = E.length := srtE_len E hnd
            have hF := fun z (hz : Below wc.heap.size wc z) => find_any (K := srtE E) (c := nx) (fun t ht => HI.out.vl t ((srtE_mem E t).1 ht)) (srtE_srt E) HVN.out (by rw [hlenE]; omega) (some ⟨gK, 0, none⟩) capK z (hC2.put.inRow.below hz)
            rw [hlenE] at hF
            have HLE := Lib.hid hlenE
            have HC2 := Lib.hid hC2
            obtain ⟨x0, x1, x2, x3, x4, x5⟩ := blk6 hbk
            clear HC hbc hbk hC2 hnd hlenE
            by_cases hm : nx ∈ E
            · simp only [if_pos ((srtE_mem E nx).2 hm), mv, mcells] at hF
              have hold := HC2.out.rch.old hp hel hk (by rw [← HNX.out]; exact hm)
              have HOLD := Lib.hid hold
              have HF := Lib.hid hF
              clear hold hF hm
              generalize lowN (srtE E) nx = q at HF
              have hq0 : (0 : Int) ≤ (q : Int) := by omega
              go_wp2_with fail
              refine (HF.out _ (Below.refl _ _)).mono ?_
              rintro e w3 ⟨rfl, hb3⟩
              have HC3 := Lib.hid (HC2.out.below hb3)
              clear hb3
              go_wp2_with fail
              go_roundw
              case rel => exact ⟨k + 1, E, W, gO, capO, us, gK, capK, rfl, rfl, by go_num, hp, ⟨HOLD.out, hel, HC3.out.own, HC3.out.wds, HC3.out.put, HC3.out.ne, HC3.out.bel⟩⟩
              case measure => simp [intOf]; omega
            · simp only [if_neg (fun h => hm ((srtE_mem E nx).1 h)), mv, mcells] at hF
              have hnew := HC2.out.rch.new hp hel hk (by rw [← HNX.out]; exact hm)
              rw [← HNX.out] at hnew
              have HNEW := Lib.hid hnew
              have HF := Lib.hid hF
              have HM := Lib.hid hm
              clear hnew hF hm
              by_cases h3 : E.length = 300
              · have h3' : (E.length : Int) = 300 := by omega
                have H3 := Lib.hid h3
                have HEL := Lib.hid hel
                clear h3 hel
                go_wp2_with fail
                refine (HF.out _ (Below.refl _ _)).mono ?_
                rintro e w3 ⟨rfl, hb3⟩
                have HC3 := Lib.hid (HC2.out.below hb3)
                clear hb3
                have hfi := HNEW.out.fin (Or.inr (show 300 < (E ++ [nx]).length by have := H3.out; simp; omega))
                have HFI := Lib.hid hfi
                clear hfi
                go_wp2_with fail
                go_ret3
                refine ⟨HC3.out.bel, by rw [HFI.out]; exact HNEW.out, by rw [HFI.out]; exact Or.inr (show 300 < (E ++ [nx]).length by have := H3.out; simp; omega), Or.inl ⟨?_, rfl⟩⟩
                rw [HFI.out]
                show 300 < (E ++ [nx]).length
                have := H3.out; simp; omega
              · have h3' : ¬ ((E.length : Int) = 300) := by omega
                have H3 := Lib.hid h3
                clear h3
                have HEL := Lib.hid hel
                go_wp2_with fail
                refine (HF.out _ (Below.refl _ _)).mono ?_
                rintro e w3 ⟨rfl, hb3⟩
                have hz3 := hb3.size
                have HC3 := Lib.hid (HC2.out.below hb3)
                have HBK3 : Hid (w3.heap[B5]? = some (.cells (mcells p (dcd nx)) 31 (0, 0))) := Lib.hid ((hb3.block B5 hB2).trans HBK.out)
                have hb5 : B5 < w3.heap.size := by omega
                have HB3 := Lib.hid hb3
                clear hb3 x0 x1 x2 x3 x4 x5
                obtain ⟨x0, x1, x2, x3, x4, x5⟩ := blk6 HBK3.out
                have HCA := Lib.hid (HC3.out.below ((Below.refl _ _).alloc (Nat.le_refl _) (.cells (mcells p (dcd nx)) 31)))
                have hgl : gO < w3.heap.size := ((HC3.out.own).lt gO rfl).2
                have hkl : gK < w3.heap.size := HC3.out.put.hi
                have hwb : w.heap.size ≤ w3.heap.size := HC3.out.bel.size
                have hpl : pos < W.length := by rw [HWL.out]; exact hp
                have hpl' : (pos : Int) < (W.length : Int) := by omega
                have HLW : Hid ((W.getD pos []).length ≤ pos) := Lib.hid (HI.out.wl pos)
                have HUL : Hid (us.length = W.length) := Lib.hid (by have := HC3.out.wds.own.1; omega)
                go_wp2_with (at_builtin; (refine wpList_appM1 rfl _ _ rfl w.heap.size _ (mE p E) rfl HCA.out.own _ 1 (p, dcd nx) rfl (halloc_at _ _ _ rfl) (by rw [mE_len]; omega) (by simp; omega) ?_; intro vO w4 hown4 hg4 hat4; obtain ⟨gO2, capO2, eO2, hcl⟩ := clr_app HCA.out ((halloc_lt _ _ _ hb5).trans HBK3.out) (by omega) hown4 hg4 hat4; subst eO2; have H4 := Lib.hid hcl; obtain ⟨gw, cw, eu, hou⟩ := H4.out.wds.row pos (by rw [HWL.out]; exact hp); have hu4 := wds_at H4.out.wds pos (by rw [HWL.out]; exact hp); rw [eu] at hu4; clear eu; obtain ⟨Lw, hLw⟩ : ∃ Lw, Lw = W.getD pos [] := ⟨_, rfl⟩; rw [← hLw] at hu4 hou; have HLX := Lib.hid hLw; have HOU := Lib.hid hou; clear hown4 hg4 hat4 hou hcl hLw))
                have hw4 : w.heap.size ≤ w4.heap.size := H4.out.bel.size
                have HLL : Hid (Lw.length ≤ 300) := Lib.hid (by rw [HLX.out]; have := HLW.out; omega)
                refine (own_any gw 0 _ cw Lw rfl (by have := HLL.out; omega) _ (own_cells HOU.out (by have := HLL.out; omega)).1 (own_cells HOU.out (by have := HLL.out; omega)).2).mono ?_
                rintro e w5 ⟨v5, rfl, hown5, hb5'⟩
                have HO5 := Lib.hid hown5
                have HB5 := Lib.hid hb5'
                have hz5 := hb5'.size
                clear hown5 hb5' hu4
                go_wp2_with (first
                  | (at_builtin; (refine wpList_appI1 rfl _ _ rfl w4.heap.size v5 Lw rfl (own_bel HO5.out ((Below.refl _ _).alloc (Nat.le_refl _) _)) _ 1 (k : Int) rfl (halloc_at _ _ _ rfl) (by have := HLL.out; omega) (by simp; omega) ?_; intro v6 w6 hown6 hg6; obtain ⟨g6, c6, e6⟩ := own_some hown6 (by simp); rw [show (Lw ++ [(k : Int)]).length = Lw.length + 1 by simp] at e6; subst e6; have HO6 := Lib.hid hown6; have HB6 : Hid (Below w4.heap.size w4 w6) := Lib.hid (Below.grown (HB5.out.alloc hz5 _) hg6 (by simp; omega) (fun r e => (HO5.out.lt r e).1)); have hz6 := HB6.out.size; clear hown6 hg6))
                  | (at_builtin; (refine wpList_appW1 rfl _ _ rfl w.heap.size _ W.length us rfl (((H4.out.wds.below HB6.out).below ((Below.refl _ _).alloc (Nat.le_refl _) _)).own) _ 1 (.slice (some ⟨g6, 0, none⟩) (Lw.length + 1) c6) rfl rfl (halloc_at _ _ _ rfl) (by have := HWL.out; omega) (by simp; omega) ?_; intro v7 w7 hown7 hg7; obtain ⟨gW2, capW2, e7, hcl7⟩ := cla_word ((H4.out.below HB6.out).below ((Below.refl _ _).alloc (Nat.le_refl _) _)) (own_bel (HO6.out.mono hw4) ((Below.refl _ _).alloc (Nat.le_refl _) _)) hown7 hg7; subst e7; have H7 := Lib.hid hcl7; obtain ⟨y0, y1, y2, y3, y4, y5⟩ := blk6 H7.out.box; clear hown7 hg7 hcl7)))
                have hP := put_any (p := p) (K := srtE E) (c := nx) (fun t ht => HI.out.vl t ((srtE_mem E t).1 ht)) (srtE_srt E) HVN.out (by rw [HLE.out]; have := HEL.out; omega) gK capK w.heap.size w7.heap.size w7 (fun h => absurd ((srtE_mem E nx).1 h) HM.out) (Nat.le_refl _) H7.out.put
                rw [HLE.out, ← srtE_app] at hP
                simp only [mv, mcells] at hP
                refine hP.mono ?_
                rintro e w8 ⟨gK2, capK2, rfl, hput, hb8⟩
                have H8 := Lib.hid (H7.out.below hb8)
                have HPUT := Lib.hid hput
                have hz8 := hb8.size
                clear hput hb8 hP
                have hln : (mE p (srtE (E ++ [nx]))).length = E.length + 1 := by
                  have := put_len (K := srtE E) (c := nx) (fun h => HM.out ((srtE_mem E nx).1 h))
                  rw [mE_len, srtE_app, this, HLE.out]
                rw [hln]
                go_wp2_with fail
                go_roundw
                case rel =>
                  have hl1 : (E ++ [nx]).length = E.length + 1 := by simp
                  have hg2 : gO2 < w7.heap.size := (H7.out.own.lt gO2 rfl).2
                  refine ⟨k + 1, E ++ [nx], W ++ [Lw ++ [(k : Int)]], gO2, capO2, us ++ [.slice (some ⟨g6, 0, none⟩) (Lw.length + 1) c6], gK2, capK2, by rw [hl1], by rw [hl1], by go_num, by rw [hl1]; omega, ⟨?_, by rw [hl1]; have := H3.out; omega, H8.out.own, ?_, ?_, ?_, H8.out.bel⟩⟩
                  · rw [HLX.out]; exact HNEW.out
                  · exact H8.out.wds
                  · exact HPUT.out.mono (by have := H7.out.bel.size; omega)
                  · have := HPUT.out.lo; omega
                case measure => simp [intOf]; omega
        · have hI := hC.rch.inv h1 h5 HG.out
          have hk2 := hI.k
          have hke : k = gs.length := by have : k ≤ gs.length := hk2; omega
          have hrow := hC.rch.row hp hC.le (by omega)
          have hel := hC.le
          have HROW := Lib.hid hrow
          have HC := Lib.hid hC
          have hle : ¬ ((k : Int) < (gs.length : Int)) := by omega
          clear hI hk2 hke hrow hC hk
          go_wp2_with fail
          go_roundw
          case rel => exact ⟨pos + 1, E, W, gO, capO, us, gK, capK, rfl, rfl, by go_num, ⟨HROW.out, hel, HC.out.own, HC.out.wds, HC.out.put, HC.out.ne, HC.out.bel⟩⟩
          case measure => simp [intOf]; omega
    · have hle : ¬ ((pos : Int) < (E.length : Int)) := by omega
      have hf := hC.rch.fin (Or.inl (show E.length ≤ pos by omega))
      have HF := Lib.hid hf
      have HC := Lib.hid hC
      clear hC hf
      go_wp2_with fail
      go_ret3
      refine ⟨HC.out.bel, by rw [HF.out]; exact HC.out.rch, by rw [HF.out]; exact Or.inl (show E.length ≤ pos by omega), Or.inr ?_⟩
      rw [HF.out]
      exact ⟨HC.out.le, gO, capO, _, us, rfl, HC.out.own, HC.out.wds⟩

end Go.Proofs.Ytiogagaclhjdaaa
