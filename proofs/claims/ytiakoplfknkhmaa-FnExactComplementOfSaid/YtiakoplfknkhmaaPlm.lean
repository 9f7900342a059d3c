/- What a search for places keeps in memory: the places with their words, the map of the places that are met. -/
import Derived.Test.YtiakoplfknkhmaaRdr
import Derived.Test.YtiakoplfknkhmaaBfs
import Derived.Test.YtiakoplfknkhmaaTurn
import Derived.Maps.OwnSet
import Derived.Maps.OwnOps
namespace Go.Proofs.Ytiakoplfknkhmaa
open Go Go.RowKit Go.Maps

/-- A value read as itself. -/
def valP (v : Value) : Option (DataW Value × List MemPlace) := some (.held v, [])

/-- The datum of a map that holds these numbers. -/
def kI : List Nat → DataW Value
  | [] => .map []
  | c :: l => (kI l).put (.int .i64 (c : Int)) (.held (.bool true))

theorem kI_key (c : Nat) : WideAt.IsKeyLit (Lit.int .i64 (c : Int)) := trivial

theorem kI_tidy : ∀ l : List Nat, Tidy (kI l)
  | [] => tidy_empty
  | c :: l => (kI_tidy l).put (kI_key c) _

theorem kI_ne {a b : Nat} (h : a ≠ b) : (Lit.int .i64 (a : Int)) ≠ Lit.int .i64 (b : Int) := fun e => by
  injection e with _ e
  omega

theorem kI_at (z : DataW Value) (c : Nat) : ∀ l : List Nat, (kI l).atKey (.int .i64 (c : Int)) z = if c ∈ l then .held (.bool true) else z
  | [] => rfl
  | a :: l => by
    show ((kI l).put _ _).atKey _ _ = _
    by_cases e : c = a
    · subst e
      rw [atKey_put_same (kI_tidy l).isMap (kI_key c), if_pos (by simp)]
    · rw [atKey_put_other (kI_ne e), kI_at z c l]
      by_cases hm : c ∈ l
      · rw [if_pos hm, if_pos (by simp [hm])]
      · rw [if_neg hm, if_neg (by simp [hm, e])]

/-- The map of the places that are met. -/
def MapI (w : World) (b : Nat) (l : List Nat) : Prop := w.ownsMap Try.prog 2 valP b l.length (kI l.reverse)

theorem MapI.same {w w' : World} {b : Nat} {l : List Nat} (h : MapI w b l) (e : w'.heap[b]? = w.heap[b]?) : MapI w' b l := by
  obtain ⟨es, clock, hb, F, hs, hD⟩ := h
  exact ⟨es, clock, e.trans hb, F, hs, hD⟩

theorem MapI.isMap {w : World} {b : Nat} {l : List Nat} (h : MapI w b l) : ∃ es clock, w.heap[b]? = some (.map es clock) := by
  obtain ⟨es, clock, hb, _⟩ := h
  exact ⟨es, clock, hb⟩

theorem MapI.lt {w : World} {b : Nat} {l : List Nat} (h : MapI w b l) : b < w.heap.size := by
  obtain ⟨_, _, hb⟩ := h.isMap
  exact (Array.getElem?_eq_some_iff.1 hb).1

theorem mapI_ne {w : World} {b B e s n : Nat} {l : List Nat} {v : Value} {xs : List Value} (h : MapI w b l) (ho : w.ownsRow B e s v n xs) : v.ownBlock ≠ some b := by
  obtain ⟨es, clock, hb⟩ := h.isMap
  rcases ho.2 with ⟨rfl, _⟩ | ⟨g, c, cur, rfl, _, hg, _⟩
  · simp [Value.ownBlock]
  · intro e
    have e' : g = b := by simpa [Value.ownBlock] using e
    subst e'
    rw [hg] at hb
    cases hb

theorem mapI_cells {w : World} {b x T : Nat} {l : List Nat} {C : Array Value} {fr : Nat × Nat} (h : MapI w b l) (ho : w.heap[x]? = some (.cells C T fr)) : x ≠ b := by
  obtain ⟨es, clock, hb⟩ := h.isMap
  intro e
  subst e
  rw [ho] at hb
  cases hb

theorem i25_wf (c : Nat) (h : c < 25) : (Lit.int .i64 (c : Int)).wf = true := WalkArith.wf_i64 (by omega)

set_option maxRecDepth 100000 in
theorem MapI.look {w : World} {b c : Nat} {l : List Nat} (h : MapI w b l) (hc : c < 25) :
    (Instr.lookup 102 (.map (some b)) (.int .i64 (c : Int)) false).run Try.prog w = .ok (.bool (decide (c ∈ l))) w := by
  have hz : (zeroValue 4).run Try.prog w = .ok (.bool false) w := by kernel_rfl
  obtain ⟨v, ps, hr, hv⟩ := World.ownsMap.lookup h (int_keyed Try.underlying2) Try.underlying102 hz (zd := .held (.bool false)) (zp := []) rfl (keyOf_int_mk Try.underlying2 (i25_wf c hc))
  rw [kI_at] at hv
  unfold valP at hv
  injection hv with hv
  injection hv with e1 _
  by_cases hm : c ∈ l
  · rw [if_pos (List.mem_reverse.2 hm)] at e1
    injection e1 with e1
    rw [hr, e1, decide_eq_true hm]
  · rw [if_neg (fun h => hm (List.mem_reverse.1 h))] at e1
    injection e1 with e1
    rw [hr, e1, decide_eq_false hm]

theorem mapI_put {w : World} {b c : Nat} {l : List Nat} (h : w.ownsMap Try.prog 2 valP b (l.length + 1) ((kI l.reverse).put (.int .i64 (c : Int)) (.held (.bool true)))) : MapI w b (l ++ [c]) := by
  unfold MapI
  rw [List.reverse_append, List.length_append]
  exact h

/-- 'insert' of a composite literal, as 'm[k] = v'. -/
theorem wpList_insert_own {w : World} {ops : Array Oper} {rest : List Oper} {o : Oper} {a : Act} {Q : Exit → Act → World → Prop}
    (hg : o.guard = none) (m x v : Operand) (hop : o.op = Op.insert 102 m x v)
    (b : Nat) (l : List Nat) (hm : a.eval m = .map (some b)) (hown : MapI w b l) (hn : l.length < maxLen) (c : Nat) (hc : c < 25) (hx : a.eval x = .int .i64 (c : Int)) (hv : a.eval v = .bool true)
    (hK : ∀ w', MapI w' b (l ++ [c]) → w.grownBy w' (some b) → wpList Try.prog ops Q rest (a.put o.dst undef) w') :
    wpList Try.prog ops Q (o :: rest) a w := by
  refine wpList_plain hg fun K' hK' => ?_
  obtain ⟨w', hrun, r1, r2⟩ := World.ownsMap.update hown (int_keyed Try.underlying2) Try.underlying102 hn (val := .bool true) (keyOf_int_mk Try.underlying2 (i25_wf c hc)) (d := .held (.bool true)) (ps := []) rfl
  unfold Oper.wp
  simp [execOp, hop, hm, hx, hv, hrun, Result.andThen]
  exact hK' _ _ (hK w' (mapI_put r1) r2)

theorem wpList_update_own {w : World} {ops : Array Oper} {rest : List Oper} {o : Oper} {a : Act} {Q : Exit → Act → World → Prop}
    (hg : o.guard = none) (m x v : Operand) (hop : o.op = Op.mapUpdate 102 m x v)
    (b : Nat) (l : List Nat) (hm : a.eval m = .map (some b)) (hown : MapI w b l) (hn : l.length < maxLen) (c : Nat) (hc : c < 25) (hx : a.eval x = .int .i64 (c : Int)) (hv : a.eval v = .bool true)
    (hK : ∀ w', MapI w' b (l ++ [c]) → w.grownBy w' (some b) → wpList Try.prog ops Q rest (a.put o.dst undef) w') :
    wpList Try.prog ops Q (o :: rest) a w := by
  refine wpList_mapUpdate_own w hg m x v _ hop 2 4 (int_keyed Try.underlying2) Try.underlying102 valP b l.length _ hm hown hn _ _ _ hx hv (keyOf_int_mk Try.underlying2 (i25_wf c hc)) (.held (.bool true)) [] rfl ?_
  intro w' h1 h2
  exact hK w' (mapI_put h1) h2

theorem info_plr : (Try.prog.info? 88).map (fun i => (i.zero, i.size, i.bytes)) = some (some (.agg #[.int .i64 0, .slice none 0 0]), 2, 32) := by kernel_rfl

def pcl (y : Nat × Value) : List Value := [.int .i64 (y.1 : Int), y.2]
def pcls (cs : List (Nat × Value)) : List Value := (cs.map pcl).flatten

theorem pcls_app (a b : List (Nat × Value)) : pcls (a ++ b) = pcls a ++ pcls b := by unfold pcls; rw [List.map_append, List.flatten_append]
theorem pcls_len : ∀ cs : List (Nat × Value), (pcls cs).length = cs.length * 2
  | [] => rfl
  | y :: cs => by
    show (pcl y ++ pcls cs).length = _
    rw [List.length_append, pcls_len cs, List.length_cons]
    show 2 + _ = _
    omega
theorem pcls_at : ∀ (cs : List (Nat × Value)) (j : Nat), j < cs.length → (pcls cs)[j * 2]? = some (.int .i64 ((cs.getD j (0, undef)).1 : Int)) ∧ (pcls cs)[j * 2 + 1]? = some (cs.getD j (0, undef)).2
  | [], j, h => by simp at h
  | y :: cs, 0, _ => ⟨rfl, rfl⟩
  | y :: cs, j + 1, h => by
    have ih := pcls_at cs j (by simpa using h)
    have e : pcls (y :: cs) = [.int .i64 (y.1 : Int), y.2] ++ pcls cs := rfl
    rw [e, List.getElem?_append_right (by simp; omega), List.getElem?_append_right (by simp; omega)]
    simp only [List.length_cons, List.length_nil]
    rw [show (j + 1) * 2 - (0 + 1 + 1) = j * 2 by omega, show (j + 1) * 2 + 1 - (0 + 1 + 1) = j * 2 + 1 by omega]
    simpa using ih

/-- The places that are met, in memory. -/
structure Plc (w : World) (B : Nat) (v : Value) (cs : List (Nat × Value)) (Q : List (Nat × List Int)) : Prop where
  own : w.ownsRow B 88 2 v Q.length (pcls cs)
  fst : cs.map Prod.fst = Q.map Prod.fst
  row : ∀ j, j < Q.length → Own w B (cs.getD j (0, undef)).2 (Q.getD j (0, [])).2

theorem Plc.len {w : World} {B : Nat} {v : Value} {cs : List (Nat × Value)} {Q : List (Nat × List Int)} (h : Plc w B v cs Q) : cs.length = Q.length := by
  have := congrArg List.length h.fst
  simpa using this

theorem Plc.turn {w w' : World} {B : Nat} {v : Value} {cs : List (Nat × Value)} {Q : List (Nat × List Int)} {S : Nat → Prop} (h : Plc w B v cs Q) (ht : Turn w w' S) (h1 : ∀ r, v.ownBlock = some r → ¬ S r)
    (h2 : ∀ j, j < Q.length → ∀ r, (cs.getD j (0, undef)).2.ownBlock = some r → ¬ S r) : Plc w' B v cs Q :=
  ⟨ht.own h.own h1, h.fst, fun j hj => ht.own (h.row j hj) (h2 j hj)⟩

theorem Plc.below {w w' : World} {B : Nat} {v : Value} {cs : List (Nat × Value)} {Q : List (Nat × List Int)} (h : Plc w B v cs Q) (hb : Below w.heap.size w w') : Plc w' B v cs Q :=
  h.turn (S := fun _ => False) (Turn.of_below hb) (fun _ _ h => h) (fun _ _ _ _ h => h)

theorem Plc.at_ {w : World} {B : Nat} {v : Value} {cs : List (Nat × Value)} {Q : List (Nat × List Int)} (h : Plc w B v cs Q) {j : Nat} (hj : j < Q.length) :
    ∃ g cap, v = .slice (some ⟨g, 0, none⟩) Q.length cap ∧ g < w.heap.size ∧ w.cell? ⟨g, j * 2, none⟩ = some (.int .i64 ((Q.getD j (0, [])).1 : Int)) ∧ w.cell? ⟨g, j * 2 + 1, none⟩ = some (cs.getD j (0, undef)).2 := by
  rcases h.own.2 with ⟨_, h1⟩ | ⟨g, cap, cur, h1, _, hg, _, _, _, htk⟩
  · omega
  · have hl := h.len
    have hc := pcls_at cs j (by omega)
    have e : ∀ i, i < Q.length * 2 → w.cell? ⟨g, i, none⟩ = (pcls cs)[i]? := fun i hi => by
      rw [Joins.cell_of_block hg i, ← Array.getElem?_toList, ← htk, List.getElem?_take, if_pos hi]
    have ef : (cs.getD j (0, undef)).1 = (Q.getD j (0, [])).1 := by
      have hjc : j < cs.length := by omega
      have hm : (cs.map Prod.fst)[j]? = (Q.map Prod.fst)[j]? := by rw [h.fst]
      rw [List.getElem?_map, List.getElem?_map, List.getElem?_eq_getElem hjc, List.getElem?_eq_getElem hj] at hm
      rw [List.getD_eq_getElem?_getD, List.getD_eq_getElem?_getD, List.getElem?_eq_getElem hjc, List.getElem?_eq_getElem hj]
      simpa using hm
    refine ⟨g, cap, h1, (Array.getElem?_eq_some_iff.1 hg).1, ?_, ?_⟩
    · rw [e _ (by omega), hc.1, ef]
    · rw [e _ (by omega), hc.2]

/-- append of one place onto the places. -/
theorem wpList_appP7 {ops : Array Oper} {rest : List Oper} {o : Oper} {ac : Act} {Qp : Exit → Act → World → Prop} {w : World} (hgd : o.guard = none) (s x : Operand)
    (ho : o.op = .call { callee := .builtin .append, args := #[s, x], argTypes := #[85, 85] })
    (base : Nat) (v : Value) (cs : List (Nat × Value)) (Q : List (Nat × List Int)) (hs : ac.eval s = v) (hp : Plc w base v cs Q) (b c : Nat) (y : Nat) (u : Value) (wd : List Int) (hu : Own w base u wd) (hu1 : u.oneCell' = true)
    (hx : ac.eval x = .slice (some ⟨b, 0, none⟩) 1 c) (hb : w.heap[b]? = some (.cells #[.int .i64 (y : Int), u] 88 (0, 0)))
    (hlen : Q.length ≤ 1000) (hbase : base ≤ w.heap.size)
    (h : ∀ v' w', Plc w' base v' (cs ++ [(y, u)]) (Q ++ [(y, wd)]) → w.grownBy w' v.ownBlock → (v'.ownBlock = v.ownBlock ∨ v'.ownBlock = some w.heap.size) → wpList Try.prog ops Qp rest (ac.put o.dst v') w') : wpList Try.prog ops Qp (o :: rest) ac w := by
  obtain ⟨i0, hi, hz0, hz1, hz2⟩ := info_parts info_plr
  refine wpList_append_own_at w hgd s x _ ho base 88 i0 _ 2 32 Try.underlying85 hi hz0 hz1 hz2 rfl (by decide) v Q.length (pcls cs) hs hp.own ⟨b, 0, none⟩ 1 c (pcl (y, u)) hx rfl ?_ ?_ (by unfold maxLen; omega) (by omega) hbase ?_
  · intro j z hj
    have hadd : (⟨b, 0, none⟩ : Addr).add j = ⟨b, j, none⟩ := by cases j <;> simp [Addr.add]
    rw [hadd, Joins.cell_of_block hb j, ← hj]
    simp [pcl]
  · intro z hz
    simp [pcl] at hz
    rcases hz with rfl | rfl
    · rfl
    · exact hu1
  · intro v' w' h1 h2 _ h4
    have hap : ∀ {u2 : Value} {W : List Int}, Own w base u2 W → Own w' base u2 W := fun ho => World.ownsRow.kept ho h2 (by
      rcases ho.2 with ⟨rfl, _⟩ | ⟨g1, c1, cur1, rfl, _, hg1, _⟩
      · exact Or.inl rfl
      · rcases hp.own.2 with ⟨rfl, _⟩ | ⟨g2, c2, cur2, rfl, _, hg2, _⟩
        · exact Or.inr (by simp [Value.ownBlock])
        · refine Or.inr fun e => ?_
          have e' : g1 = g2 := by simpa [Value.ownBlock] using e
          subst e'
          rw [hg1] at hg2
          injection hg2 with h
          injection h with _ h
          exact absurd h (by decide))
    refine h v' w' ⟨?_, ?_, fun j hj => ?_⟩ h2 h4
    · rw [pcls_app, List.length_append]
      exact h1
    · rw [List.map_append, List.map_append, hp.fst]
      rfl
    · have hl := hp.len
      rw [List.length_append] at hj
      by_cases e : j < Q.length
      · have e1 : (cs ++ [(y, u)]).getD j (0, undef) = cs.getD j (0, undef) := by
          rw [List.getD_eq_getElem?_getD, List.getD_eq_getElem?_getD, List.getElem?_append_left (by omega)]
        have e2 : (Q ++ [(y, wd)]).getD j (0, []) = Q.getD j (0, []) := by
          rw [List.getD_eq_getElem?_getD, List.getD_eq_getElem?_getD, List.getElem?_append_left e]
        rw [e1, e2]
        exact hap (hp.row j e)
      · have ej : j = Q.length := by simp at hj; omega
        subst ej
        have e1 : (cs ++ [(y, u)]).getD Q.length (0, undef) = (y, u) := by
          rw [List.getD_eq_getElem?_getD, List.getElem?_append_right (by omega), hl]; simp
        have e2 : (Q ++ [(y, wd)]).getD Q.length (0, []) = (y, wd) := by
          rw [List.getD_eq_getElem?_getD, List.getElem?_append_right (by omega)]; simp
        rw [e1, e2]
        exact hap hu

theorem Turn.belP {w w' : World} {S : Nat → Prop} {B : Nat} (h : Turn w w' S) (hS : ∀ k, k < B → ¬ S k) (hB : B ≤ w.heap.size := by omega) : Below B w w' :=
  ⟨h.os, h.tape, h.output, h.size, fun k hk => h.block k (Nat.lt_of_lt_of_le hk hB) (hS k hk)⟩

/-- The call returns places with their words. -/
def RetPl (B : Nat) (Q : List (Nat × List Int)) (w : World) (e : Ending) (w' : World) : Prop :=
  ∃ v cs, e = .returned v ∧ Plc w' B v cs Q ∧ Below w.heap.size w w'

end Go.Proofs.Ytiakoplfknkhmaa
