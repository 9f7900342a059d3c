/- The contract of impl.meetElements: it stops where the search by numbers stops. -/
import Derived.Test.YtiogagaclhjdaaaMhas
import Derived.Test.YtiogagaclhjdaaaSels
import Derived.WalkMore
import Derived.Test.YtiogagaclhjdaaaClone
namespace Go.Proofs.Ytiogagaclhjdaaa
open Go.RowKit Go.Maps

/-- What the words of a search are. -/
structure Mws (w : World) (B : Nat) (E : List Nat) (W : List (List Int)) (l : List (Nat × Value)) : Prop where
  mem : ∀ c, c ∈ l.map Prod.fst ↔ c ∈ E
  nd : (l.map Prod.fst).Nodup
  row : ∀ j, j < E.length → ∃ u, (E.getD j 0, u) ∈ l ∧ Own w B u (W.getD j [])

/-- Where impl.meetElements stands. -/
structure MeR (w wr : World) (p : Int) (gs : List Nat) (pos k : Nat) (E : List Nat) (W : List (List Int)) (gE cE : Nat) (l : List (Nat × Value)) : Prop where
  rch : Rch p gs ⟨pos, k, E, W⟩
  mon : wr.heap[w.heap.size + 1 + 1 + 1 + 1]? = some (.cells #[.slice (some ⟨gE, 0, none⟩) E.length cE, .map (some (w.heap.size + 1 + 1 + 1))] 48 (0, 0))
  own : OwnM wr (w.heap.size + 1 + 1 + 1 + 1 + 1) (.slice (some ⟨gE, 0, none⟩) E.length cE) (mE p E)
  map : MapN2 wr p (w.heap.size + 1 + 1 + 1) E.length l
  mws : Mws wr (w.heap.size + 1 + 1 + 1 + 1 + 1) E W l
  res : wr.heap[w.heap.size]? = some (.cells #[.slice none 0 0, .map none] 48 (0, 0))
  bf : ∃ q t, wr.heap[w.heap.size + 1]? = some (.cells (mcells q t) 31 (0, 0))
  bg : ∃ q t, wr.heap[w.heap.size + 1 + 1]? = some (.cells (mcells q t) 31 (0, 0))
  bel : Below w.heap.size w wr

/-- Ahead of the label of the next element. -/
def M0 (w : World) (p : Int) (gs : List Nat) (a : Option Addr) (cap pos : Nat) (a' : Act) (wr : World) : Prop :=
  ∃ (E : List Nat) (W : List (List Int)) (gE cE : Nat) (l : List (Nat × Value)), pos ≤ E.length ∧ E.length ≤ 300 ∧ MeR w wr p gs pos 0 E W gE cE l ∧ ∃ u9 u11 u12 u13 u14 u15 u16 u17 u18 u19 u20 u21 u22 u23 u24 u25 u26 u27 u28 u29 u30 u31 u32 u33 u34 u35 u36 u37 u38 u39 u40 u41 u42 u43 u44 u45 u46 u47 u48 u49 u50 u51 u52 u53 u54 u55 u56 u57 u58 : Value, a' = { tmps := #[.int .i64 p, .slice a gs.length cap, undef, undef, .pointer (some ⟨w.heap.size, 0, none⟩), .int .i64 0, .pointer (some ⟨w.heap.size + 1, 0, none⟩), .pointer (some ⟨w.heap.size + 1 + 1, 0, none⟩), .int .i64 pos, u9, .pointer (some ⟨w.heap.size + 1 + 1 + 1 + 1, 0, none⟩), u11, u12, u13, u14, u15, u16, u17, u18, u19, u20, u21, u22, u23, u24, u25, u26, u27, u28, u29, u30, u31, u32, u33, u34, u35, u36, u37, u38, u39, u40, u41, u42, u43, u44, u45, u46, u47, u48, u49, u50, u51, u52, u53, u54, u55, u56, u57, u58], defers := [] }

/-- Ahead of the label of the next map. -/
def M1 (w : World) (p : Int) (gs : List Nat) (a : Option Addr) (cap pos k : Nat) (a' : Act) (wr : World) : Prop :=
  ∃ (E : List Nat) (W : List (List Int)) (gE cE : Nat) (l : List (Nat × Value)), pos < E.length ∧ E.length ≤ 300 ∧ MeR w wr p gs pos k E W gE cE l ∧ wr.heap[w.heap.size + 1]? = some (.cells (mcells p (dcd (E.getD pos 0))) 31 (0, 0)) ∧
    ∃ u11 u12 u13 u14 u15 u16 u17 u18 u19 u20 u21 u22 u23 u24 u25 u26 u27 u28 u29 u30 u31 u32 u33 u34 u35 u36 u37 u38 u39 u40 u41 u42 u43 u44 u45 u46 u47 u48 u49 u50 u51 u52 u53 u54 u55 u56 u57 u58 : Value, a' = { tmps := #[.int .i64 p, .slice a gs.length cap, undef, undef, .pointer (some ⟨w.heap.size, 0, none⟩), .int .i64 0, .pointer (some ⟨w.heap.size + 1, 0, none⟩), .pointer (some ⟨w.heap.size + 1 + 1, 0, none⟩), .int .i64 ((pos : Int) + 1), .int .i64 k, .pointer (some ⟨w.heap.size + 1 + 1 + 1 + 1, 0, none⟩), u11, u12, u13, u14, u15, u16, u17, u18, u19, u20, u21, u22, u23, u24, u25, u26, u27, u28, u29, u30, u31, u32, u33, u34, u35, u36, u37, u38, u39, u40, u41, u42, u43, u44, u45, u46, u47, u48, u49, u50, u51, u52, u53, u54, u55, u56, u57, u58], defers := [] }

noncomputable def rest0 : Code := tailOf <| ((Try.f78.body.bind scopeIn).bind fun c => findLabel c 0).getD .skip
noncomputable def rest1 : Code := tailOf <| ((Try.f78.body.bind scopeIn).bind fun c => findLabel c 1).getD .skip

/-- What impl.meetElements leaves. -/
def RetMeet (p : Int) (gs : List Nat) (w : World) (e : Ending) (w' : World) : Prop :=
  Below w.heap.size w w' ∧ Rch p gs (cfin p gs) ∧ cterm (cfin p gs) ∧
    ((300 < (cfin p gs).E.length ∧ e = .returned (.tuple #[.agg #[.slice none 0 0, .map none], .int .i64 3])) ∨
     ((cfin p gs).E.length ≤ 300 ∧ ∃ gE cE b l, e = .returned (.tuple #[.agg #[.slice (some ⟨gE, 0, none⟩) (cfin p gs).E.length cE, .map (some b)], .int .i64 0]) ∧
       OwnM w' w.heap.size (.slice (some ⟨gE, 0, none⟩) (cfin p gs).E.length cE) (mE p (cfin p gs).E) ∧ MapN2 w' p b (cfin p gs).E.length l ∧ w.heap.size ≤ b ∧ Mws w' w.heap.size (cfin p gs).E (cfin p gs).W l))

theorem product_num {p : Int} {a b : Nat} (ha : vld p a) (hb : vld p b) (w : World) :
    Calls Try.prog 68 #[mv p (dcd a), mv p (dcd b)] w fun e w' => e = .returned (mv p (dcd (mulC p a b))) ∧ Below w.heap.size w w' := by
  have h := product_any p (dcd a) (dcd b) ha.2 hb.2 w
  rw [mv_ecd (mul_ok ha.2 hb.2)] at h
  exact h

theorem iid_num {p : Int} (h1 : 1 ≤ p) (h5 : p ≤ 5) (w : World) :
    Calls Try.prog 67 #[.int .i64 p] w fun e w' => e = .returned (mv p (dcd (idC p))) ∧ Below w.heap.size w w' := by
  have h := iid_any p h1 h5 w
  rw [mv_ecd (idn_ok h1 h5)] at h
  exact h

theorem MeR.below {w wr wr' : World} {p : Int} {gs : List Nat} {pos k : Nat} {E : List Nat} {W : List (List Int)} {gE cE : Nat} {l : List (Nat × Value)} (h : MeR w wr p gs pos k E W gE cE l) (hb : Below wr.heap.size wr wr') : MeR w wr' p gs pos k E W gE cE l :=
  have at_ : ∀ {b : Nat} {o : Obj}, wr.heap[b]? = some o → wr'.heap[b]? = some o := fun ho => (hb.block _ (Array.getElem?_eq_some_iff.1 ho).1).trans ho
  ⟨h.rch, at_ h.mon, ownM_bel h.own hb, mapN2_below h.map hb, ⟨h.mws.mem, h.mws.nd, fun j hj => by
    obtain ⟨u, hu, ho⟩ := h.mws.row j hj
    exact ⟨u, hu, own_bel ho hb⟩⟩, at_ h.res, by obtain ⟨q, t, ho⟩ := h.bf; exact ⟨q, t, at_ ho⟩, by obtain ⟨q, t, ho⟩ := h.bg; exact ⟨q, t, at_ ho⟩, h.bel.trans (hb.mono h.bel.size)⟩

theorem turn6 (w : World) (b : Nat) (v0 v1 v2 v3 v4 v5 : Value) : Turn w ((((((w.setCell ⟨b, 0, none⟩ v0).setCell ⟨b, 1, none⟩ v1).setCell ⟨b, 2, none⟩ v2).setCell ⟨b, 3, none⟩ v3).setCell ⟨b, 4, none⟩ v4).setCell ⟨b, 5, none⟩ v5) (fun r => r = b) := by
  have h0 : Turn w w (fun r => r = b) := Turn.of_below (Below.refl _ _)
  exact (((((h0.setCell (g := b) rfl).setCell (g := b) rfl).setCell (g := b) rfl).setCell (g := b) rfl).setCell (g := b) rfl).setCell (g := b) rfl

theorem block6 {w : World} {b T : Nat} {q p : Int} {s t : Nat → Int} (h : w.heap[b]? = some (.cells (mcells q s) T (0, 0))) :
    ((((((w.setCell ⟨b, 0, none⟩ (.int .i64 p)).setCell ⟨b, 1, none⟩ (.int .i64 (t 0))).setCell ⟨b, 2, none⟩ (.int .i64 (t 1))).setCell ⟨b, 3, none⟩ (.int .i64 (t 2))).setCell ⟨b, 4, none⟩ (.int .i64 (t 3))).setCell ⟨b, 5, none⟩ (.int .i64 (t 4))).heap[b]? = some (.cells (mcells p t) T (0, 0)) :=
  Joins.block_setCell (Joins.block_setCell (Joins.block_setCell (Joins.block_setCell (Joins.block_setCell (Joins.block_setCell h _) _) _) _) _) _

/-- Behind a store into the box of the product. -/
theorem MeR.turn {w wr wr' : World} {p : Int} {gs : List Nat} {pos k : Nat} {E : List Nat} {W : List (List Int)} {gE cE : Nat} {l : List (Nat × Value)} {q : Int} {t : Nat → Int} (h : MeR w wr p gs pos k E W gE cE l) (ht : Turn wr wr' (fun r => r = w.heap.size + 1 + 1))
    (hb : wr'.heap[w.heap.size + 1 + 1]? = some (.cells (mcells q t) 31 (0, 0))) : MeR w wr' p gs pos k E W gE cE l := by
  refine ⟨h.rch, ht.at_ h.mon (by omega), ht.own h.own (fun r e => by have := (h.own.lt r e).1; omega), ht.map h.map (by omega), ⟨h.mws.mem, h.mws.nd, fun j hj => ?_⟩, ht.at_ h.res (by omega), ?_, ⟨q, t, hb⟩, ?_⟩
  · obtain ⟨u, hu, ho⟩ := h.mws.row j hj
    exact ⟨u, hu, ht.own ho (fun r e => by have := (ho.lt r e).1; omega)⟩
  · obtain ⟨q, t, ho⟩ := h.bf
    exact ⟨q, t, ht.at_ ho (by omega)⟩
  · have hs := h.bel.size
    exact ⟨ht.os.trans h.bel.os, ht.tape.trans h.bel.tape, ht.output.trans h.bel.output, Nat.le_trans hs ht.size, fun r hr => (ht.block r (by omega) (by omega)).trans (h.bel.block r hr)⟩

set_option maxHeartbeats 1000000 in
theorem clone_own {u : Value} {L : List Int} {B : Nat} (hL : L.length ≤ 100000) (w : World) (h : Own w B u L) :
    Calls Try.prog 98 #[u] w (RetOwn w.heap.size L w) := by
  rcases h.2 with ⟨rfl, h0⟩ | ⟨b, cap, cur, rfl, _, hb, _⟩
  · have hl := List.length_eq_zero_iff.1 h0
    subst hl
    have hnil : ∀ w : World, (binOp .eql 82 (.slice none 0 0) (.slice none 0 0)).run Try.prog w = .ok (.bool true) w := fun w => Lib.run_eql_slice_nil w _ _ _ 0 0 0 0 Try.underlying82
    clear h h0
    go_enter Try.func98, Try.ntmps98
    go_wp2_with fail
    go_ret
    exact ⟨_, rfl, World.ownsRow_nil _ _ _ _, Below.refl _ _⟩
  · obtain ⟨hlt, hc⟩ := own_cells h (by omega)
    exact clone_any b 0 L.length cap L rfl (by omega) w hc

set_option maxRecDepth 100000 in
theorem look_word {w : World} {p : Int} {b n c : Nat} {u : Value} {l : List (Nat × Value)} (h : MapN2 w p b n l) (hc : vld p c) (hn : (l.map Prod.fst).Nodup) (hu : (c, u) ∈ l) :
    ∀ x : World, Below w.heap.size w x → (Instr.lookup 46 (.map (some b)) (mv p (dcd c)) false).run Try.prog x = .ok u x := fun x hx => by
  obtain ⟨v, ps, hr, hv⟩ := (mapN2_below h hx).1.lookup lawM Try.underlying46 (zeroRow x) (zd := .held (.slice none 0 0)) (zp := []) rfl (key_of hc.2)
  have e := valR_inv hv
  rw [wD_at hc _ h.2 hn hu] at e
  injection e with e
  rw [e]
  exact hr

/-- Behind the adding of an element. -/
theorem meR_new {w w6 wc : World} {p : Int} {gs : List Nat} {pos k n4 : Nat} {E : List Nat} {W : List (List Int)} {gE cE gE2 cE2 nx : Nat} {Wx : List Int} {u6 : Value} {l : List (Nat × Value)}
    (hM : MeR w w6 p gs pos k E W gE cE l) (hW : W.length = E.length) (hnew : Rch p gs ⟨pos, k + 1, E ++ [nx], W ++ [Wx]⟩) (hm : nx ∉ E) (hu : Own w6 n4 u6 Wx) (hn4 : w.heap.size + 1 + 1 + 1 + 1 < n4)
    (hmon : wc.heap[w.heap.size + 1 + 1 + 1 + 1]? = some (.cells #[.slice (some ⟨gE2, 0, none⟩) (E.length + 1) cE2, .map (some (w.heap.size + 1 + 1 + 1))] 48 (0, 0)))
    (hown : OwnM wc (w.heap.size + 1 + 1 + 1 + 1 + 1) (.slice (some ⟨gE2, 0, none⟩) (E.length + 1) cE2) (mE p (E ++ [nx]))) (hmap : MapN2 wc p (w.heap.size + 1 + 1 + 1) (E.length + 1) ((nx, u6) :: l))
    (ht : Turn w6 wc (fun r => r = w.heap.size + 1 + 1 + 1 + 1 ∨ r = w.heap.size + 1 + 1 + 1 ∨ some r = (Value.slice (some ⟨gE, 0, none⟩) E.length cE).ownBlock)) :
    MeR w wc p gs pos (k + 1) (E ++ [nx]) (W ++ [Wx]) gE2 cE2 ((nx, u6) :: l) := by
  have hl : (E ++ [nx]).length = E.length + 1 := by simp
  have hgE := (hM.own.lt gE rfl).1
  have hint : ∀ {v : Value} {L : List Int} {base : Nat}, w.heap.size + 1 + 1 + 1 + 1 + 1 ≤ base → Own w6 base v L → Own wc (w.heap.size + 1 + 1 + 1 + 1 + 1) v L := fun {v L base} hb ho => by
    have hap := own_apart (by decide) ho hM.own
    refine ht.own (World.ownsRow.mono (base' := w.heap.size + 1 + 1 + 1 + 1 + 1) ho hb) (fun r e => ?_)
    have h2 := (ho.lt r e).1
    rintro (h | h | h)
    · omega
    · omega
    · rcases hap with h3 | h3
      · rw [h3] at e; cases e
      · exact h3 (e.trans h)
  have hbox : ∀ {b : Nat} {o : Obj}, b < w.heap.size + 1 + 1 + 1 → w6.heap[b]? = some o → wc.heap[b]? = some o := fun {b o} hb ho => ht.at_ ho (by
    rintro (h | h | h)
    · omega
    · omega
    · have : b = gE := by simpa [Value.ownBlock] using h
      omega)
  refine ⟨hnew, by rw [hl]; exact hmon, by rw [hl]; exact hown, by rw [hl]; exact hmap, ⟨fun c => ?_, ?_, fun j hj => ?_⟩, hbox (by omega) hM.res, ?_, ?_, ?_⟩
  · rw [List.map_cons, List.mem_cons, hM.mws.mem c, List.mem_append, List.mem_singleton]
    exact Or.comm
  · rw [List.map_cons, List.nodup_cons]
    exact ⟨fun h => hm ((hM.mws.mem nx).1 h), hM.mws.nd⟩
  · by_cases e : j < E.length
    · obtain ⟨u, hu2, ho⟩ := hM.mws.row j e
      have e1 : (E ++ [nx]).getD j 0 = E.getD j 0 := by rw [List.getD_eq_getElem?_getD, List.getElem?_append_left e, ← List.getD_eq_getElem?_getD]
      have e2 : (W ++ [Wx]).getD j [] = W.getD j [] := by rw [List.getD_eq_getElem?_getD, List.getElem?_append_left (by omega), ← List.getD_eq_getElem?_getD]
      rw [e1, e2]
      exact ⟨u, List.mem_cons_of_mem _ hu2, hint (Nat.le_refl _) ho⟩
    · have ej : j = E.length := by rw [hl] at hj; omega
      have e1 : (E ++ [nx]).getD j 0 = nx := by rw [ej, List.getD_eq_getElem?_getD]; simp
      have e2 : (W ++ [Wx]).getD j [] = Wx := by rw [ej, ← hW, List.getD_eq_getElem?_getD]; simp
      rw [e1, e2]
      exact ⟨u6, by simp, hint (by omega) hu⟩
  · obtain ⟨q, t, ho⟩ := hM.bf
    exact ⟨q, t, hbox (by omega) ho⟩
  · obtain ⟨q, t, ho⟩ := hM.bg
    exact ⟨q, t, hbox (by omega) ho⟩
  · have hs := hM.bel.size
    exact ⟨ht.os.trans hM.bel.os, ht.tape.trans hM.bel.tape, ht.output.trans hM.bel.output, Nat.le_trans hs ht.size, fun r hr => (ht.block r (by omega) (by
      rintro (h | h | h)
      · omega
      · omega
      · have : r = gE := by simpa [Value.ownBlock] using h
        omega)).trans (hM.bel.block r hr)⟩

set_option maxRecDepth 1000000 in
set_option maxHeartbeats 4000000 in
theorem body1_any {p : Int} {gs : List Nat} (h1 : 1 ≤ p) (h5 : p ≤ 5) (hg : ∀ c ∈ gs, vld p c) (hn : gs.length ≤ 6) (a : Option Addr) (cap : Nat) (w : World) (hr : InRowM w a (mE p gs)) (pos k : Nat) (X : Nat → Act → World → Prop)
    (hX0 : ∀ a' w', M0 w p gs a cap (pos + 1) a' w' → X 0 a' w') (hX1 : k < gs.length → ∀ a' w', M1 w p gs a cap pos (k + 1) a' w' → X 1 a' w')
    (E : List Nat) (W : List (List Int)) (gE cE : Nat) (l : List (Nat × Value)) (wr : World) (hp : pos < E.length) (hle : E.length ≤ 300) (hM : MeR w wr p gs pos k E W gE cE l) (hf : wr.heap[w.heap.size + 1]? = some (.cells (mcells p (dcd (E.getD pos 0))) 31 (0, 0))) (u11 u12 u13 u14 u15 u16 u17 u18 u19 u20 u21 u22 u23 u24 u25 u26 u27 u28 u29 u30 u31 u32 u33 u34 u35 u36 u37 u38 u39 u40 u41 u42 u43 u44 u45 u46 u47 u48 u49 u50 u51 u52 u53 u54 u55 u56 u57 u58 : Value) :
    Code.wp Try.prog rest1 (jumpTo X (bodyPost Try.prog Try.f78 (RetMeet p gs w))) { tmps := #[.int .i64 p, .slice a gs.length cap, undef, undef, .pointer (some ⟨w.heap.size, 0, none⟩), .int .i64 0, .pointer (some ⟨w.heap.size + 1, 0, none⟩), .pointer (some ⟨w.heap.size + 1 + 1, 0, none⟩), .int .i64 ((pos : Int) + 1), .int .i64 k, .pointer (some ⟨w.heap.size + 1 + 1 + 1 + 1, 0, none⟩), u11, u12, u13, u14, u15, u16, u17, u18, u19, u20, u21, u22, u23, u24, u25, u26, u27, u28, u29, u30, u31, u32, u33, u34, u35, u36, u37, u38, u39, u40, u41, u42, u43, u44, u45, u46, u47, u48, u49, u50, u51, u52, u53, u54, u55, u56, u57, u58], defers := [] } wr := by
  conv => arg 2; whnf
  have HM := Lib.hid hM
  have HF := Lib.hid hf
  have HG := Lib.hid hg
  have HR := Lib.hid hr
  have HX0 := Lib.hid hX0
  have HX1 := Lib.hid hX1
  have hI := hM.rch.inv h1 h5 hg
  have hk2 : k ≤ gs.length := hI.k
  have HI := Lib.hid hI
  clear hM hf hg hr hX0 hX1 hI
  by_cases hk : k < gs.length
  · have hk' : ¬ ((k : Int) = (gs.length : Int)) := by omega
    have hk2' : (k : Int) < (gs.length : Int) := by omega
    obtain ⟨b, off, rfl, hbl, hy⟩ := (HR.out.below HM.out.bel).at6 k (by rw [mE_len]; exact hk)
    rw [mE_at p gs k hk] at hy
    have hva := HI.out.vl _ (getD_mem hp)
    have hvb := HG.out _ (getD_mem hk)
    have hT := fun w => product_num hva hvb w
    have HVN := Lib.hid (mulC_vld hva hvb)
    obtain ⟨nx, hnx⟩ : ∃ nx, nx = mulC p (E.getD pos 0) (gs.getD k 0) := ⟨_, rfl⟩
    rw [← hnx] at hT HVN
    have HNX := Lib.hid hnx
    obtain ⟨x0, x1, x2, x3, x4, x5⟩ := blk6 HF.out
    clear hva hvb hnx
    have HXV : Hid (∃ x, x = E.getD pos 0) := Lib.hid ⟨_, rfl⟩
    generalize hex : E.getD pos 0 = x at x0 x1 x2 x3 x4 x5 hT
    have HEX := Lib.hid hex
    clear hex
    generalize gs.getD k 0 = y at hy hT
    simp only [mv, mcells] at hT
    have HT := Lib.hid hT
    clear hT
    obtain ⟨y0, y1, y2, y3, y4, y5⟩ := hy
    simp only [] at y0 y1 y2 y3 y4 y5
    obtain ⟨qg, tg, hbg⟩ := HM.out.bg
    have hgl : w.heap.size + 1 + 1 < wr.heap.size := (Array.getElem?_eq_some_iff.1 hbg).1
    have HBG := Lib.hid hbg
    obtain ⟨z0, z1, z2, z3, z4, z5⟩ := blk6 hbg
    have hfr := blk_free hbg
    clear hbg
    go_wp2_with fail
    go_still_tail 5, (by kernel_rfl)
    go_wp2_with fail
    refine (HT.out _).mono ?_
    rintro e w2 ⟨rfl, hb⟩
    have hbd : Below wr.heap.size wr w2 := ⟨hb.os, hb.tape, hb.output, hb.size, fun q hq => hb.block q hq⟩
    have HM2 := Lib.hid (HM.out.below hbd)
    have HBG2 : Hid (w2.heap[w.heap.size + 1 + 1]? = some (.cells (mcells qg tg) 31 (0, 0))) := Lib.hid ((hbd.block _ hgl).trans HBG.out)
    have HF2 : Hid (w2.heap[w.heap.size + 1]? = some (.cells (mcells p (dcd x)) 31 (0, 0))) := Lib.hid ((hbd.block _ (by omega)).trans (by rw [← HEX.out]; exact HF.out))
    have hgl2 : w.heap.size + 1 + 1 < w2.heap.size := by have := hbd.size; omega
    clear hb hbd x0 x1 x2 x3 x4 x5 y0 y1 y2 y3 y4 y5 z0 z1 z2 z3 z4 z5 hfr HM HBG HF
    obtain ⟨z0, z1, z2, z3, z4, z5⟩ := blk6 HBG2.out
    have hfr := blk_free HBG2.out
    go_wp2_with fail
    obtain ⟨w3, hw3⟩ : ∃ w3, w3 = (((((w2.setCell ⟨w.heap.size + 1 + 1, 0, none⟩ (.int .i64 p)).setCell ⟨w.heap.size + 1 + 1, 1, none⟩ (.int .i64 (dcd nx 0))).setCell ⟨w.heap.size + 1 + 1, 2, none⟩ (.int .i64 (dcd nx 1))).setCell ⟨w.heap.size + 1 + 1, 3, none⟩ (.int .i64 (dcd nx 2))).setCell ⟨w.heap.size + 1 + 1, 4, none⟩ (.int .i64 (dcd nx 3))).setCell ⟨w.heap.size + 1 + 1, 5, none⟩ (.int .i64 (dcd nx 4)) := ⟨_, rfl⟩
    rw [← hw3]
    have HG3 : Hid (w3.heap[w.heap.size + 1 + 1]? = some (.cells (mcells p (dcd nx)) 31 (0, 0))) := Lib.hid (by rw [hw3]; exact block6 HBG2.out)
    have HT3 : Hid (Turn w2 w3 (fun r => r = w.heap.size + 1 + 1)) := Lib.hid (by rw [hw3]; exact turn6 _ _ _ _ _ _ _ _)
    have HM3 := Lib.hid (HM2.out.turn HT3.out HG3.out)
    have HF3 : Hid (w3.heap[w.heap.size + 1]? = some (.cells (mcells p (dcd x)) 31 (0, 0))) := Lib.hid (HT3.out.at_ HF2.out (by omega))
    clear hw3 HM2 HBG2 HF2 HT3 z0 z1 z2 z3 z4 z5 hfr
    have hH := mhas_any (g := w.heap.size + 1 + 1 + 1 + 1) w3 HVN.out HM3.out.map HM3.out.mon
    by_cases hm : nx ∈ E
    · rw [decide_eq_true ((HM3.out.mws.mem nx).2 hm)] at hH
      have hold := HM3.out.rch.old hp hle hk (by rw [← HNX.out]; exact hm)
      have HOLD := Lib.hid hold
      have HH := Lib.hid hH
      have hps : ¬ (300 < (E.length : Int)) := by omega
      clear hold hH hm
      simp only [mv, mcells] at HH
      refine HH.out.mono ?_
      rintro e w4 ⟨rfl, hb⟩
      have HM4 := Lib.hid (HM3.out.below hb)
      have HF4 : Hid (w4.heap[w.heap.size + 1]? = some (.cells (mcells p (dcd x)) 31 (0, 0))) := Lib.hid ((hb.block _ (by have := HM3.out.bel.size; have h := HF3.out; exact (Array.getElem?_eq_some_iff.1 h).1)).trans HF3.out)
      clear hb HM3 HF3 HG3
      have c0 := Joins.cell_of_block HM4.out.mon 0
      simp only [List.getElem?_toArray, List.getElem?_cons_zero] at c0
      go_wp2_with fail
      go_step3
      exact HX1.out hk _ _ ⟨E, W, gE, cE, l, hp, hle, ⟨HOLD.out, HM4.out.mon, HM4.out.own, HM4.out.map, HM4.out.mws, HM4.out.res, HM4.out.bf, HM4.out.bg, HM4.out.bel⟩, by rw [HEX.out]; exact HF4.out, _, _, _, _, _, _, _, _, _, _, _, _, _, _, _, _, _, _, _, _, _, _, _, _, _, _, _, _, _, _, _, _, _, _, _, _, _, _, _, _, _, _, _, _, _, _, _, _, rfl⟩
    · rw [decide_eq_false (fun h => hm ((HM3.out.mws.mem nx).1 h))] at hH
      have hnew := HM3.out.rch.new hp hle hk (by rw [← HNX.out]; exact hm)
      rw [← HNX.out] at hnew
      have HNEW := Lib.hid hnew
      have HH := Lib.hid hH
      have HM := Lib.hid hm
      clear hnew hH hm
      simp only [mv, mcells] at HH
      refine HH.out.mono ?_
      rintro e w4 ⟨rfl, hb⟩
      have HM4 := Lib.hid (HM3.out.below hb)
      have HF4 : Hid (w4.heap[w.heap.size + 1]? = some (.cells (mcells p (dcd x)) 31 (0, 0))) := Lib.hid ((hb.block _ (by have h := HF3.out; exact (Array.getElem?_eq_some_iff.1 h).1)).trans HF3.out)
      have HG4 : Hid (w4.heap[w.heap.size + 1 + 1]? = some (.cells (mcells p (dcd nx)) 31 (0, 0))) := Lib.hid ((hb.block _ (by have h := HG3.out; exact (Array.getElem?_eq_some_iff.1 h).1)).trans HG3.out)
      clear hb HM3 HF3 HG3
      obtain ⟨u0, hu0, hw0⟩ := HM4.out.mws.row pos hp
      rw [HEX.out] at hu0
      have hxv : vld p x := HM4.out.map.2 _ hu0
      have hlk := look_word HM4.out.map hxv HM4.out.mws.nd hu0
      have hwl : (W.getD pos []).length ≤ pos := HI.out.wl pos
      generalize hWx : W.getD pos [] = Wx at hw0 hwl
      have hnew2 := HNEW.out
      rw [hWx] at hnew2
      have HNEW2 := Lib.hid hnew2
      clear hWx hnew2
      have HCL : Hid (∀ z, Below w4.heap.size w4 z → Calls Try.prog 98 #[u0] z (RetOwn z.heap.size Wx z)) := Lib.hid fun z hz => clone_own (by omega) z (own_bel hw0 hz)
      have HADD : Hid (∀ z u6, Below w4.heap.size w4 z → Calls Try.prog 97 #[.pointer (some ⟨w.heap.size + 1 + 1 + 1 + 1, 0, none⟩), mv p (dcd nx), u6] z (RetAdd p (w.heap.size + 1 + 1 + 1 + 1 + 1) (w.heap.size + 1 + 1 + 1 + 1) (w.heap.size + 1 + 1 + 1) E.length (.slice (some ⟨gE, 0, none⟩) E.length cE) E l nx u6 z)) := Lib.hid fun z u6 hz => by
        have hM := HM4.out.below hz
        have hsz : w.heap.size + 1 + 1 + 1 + 1 < z.heap.size := (Array.getElem?_eq_some_iff.1 hM.mon).1
        exact madd_any z HVN.out (by omega) (by omega) (by omega) hM.own hM.map hM.mon
      have hmz : w.heap.size + 1 + 1 + 1 + 1 < w4.heap.size := (Array.getElem?_eq_some_iff.1 HM4.out.mon).1
      obtain ⟨x0, x1, x2, x3, x4, x5⟩ := blk6 HF4.out
      obtain ⟨y0, y1, y2, y3, y4, y5⟩ := blk6 HG4.out
      have m1 := Joins.cell_of_block HM4.out.mon 1
      simp only [List.getElem?_toArray, List.getElem?_cons_zero, List.getElem?_cons_succ] at m1
      simp only [mv, mcells] at hlk HADD
      have rm : ∀ z, Below w4.heap.size w4 z → z.cell? _ = some _ := fun z h => (h.cell (p := ⟨w.heap.size + 1 + 1 + 1 + 1, _, none⟩) hmz).trans m1
      have r0 : ∀ z, Below w4.heap.size w4 z → z.cell? _ = some _ := fun z h => (h.cell (p := ⟨w.heap.size + 1, _, none⟩) (by simp; omega)).trans x0
      have r1 : ∀ z, Below w4.heap.size w4 z → z.cell? _ = some _ := fun z h => (h.cell (p := ⟨w.heap.size + 1, _, none⟩) (by simp; omega)).trans x1
      have r2 : ∀ z, Below w4.heap.size w4 z → z.cell? _ = some _ := fun z h => (h.cell (p := ⟨w.heap.size + 1, _, none⟩) (by simp; omega)).trans x2
      have r3 : ∀ z, Below w4.heap.size w4 z → z.cell? _ = some _ := fun z h => (h.cell (p := ⟨w.heap.size + 1, _, none⟩) (by simp; omega)).trans x3
      have r4 : ∀ z, Below w4.heap.size w4 z → z.cell? _ = some _ := fun z h => (h.cell (p := ⟨w.heap.size + 1, _, none⟩) (by simp; omega)).trans x4
      have r5 : ∀ z, Below w4.heap.size w4 z → z.cell? _ = some _ := fun z h => (h.cell (p := ⟨w.heap.size + 1, _, none⟩) (by simp; omega)).trans x5
      have q0 : ∀ z, Below w4.heap.size w4 z → z.cell? _ = some _ := fun z h => (h.cell (p := ⟨w.heap.size + 1 + 1, _, none⟩) (by simp; omega)).trans y0
      have q1 : ∀ z, Below w4.heap.size w4 z → z.cell? _ = some _ := fun z h => (h.cell (p := ⟨w.heap.size + 1 + 1, _, none⟩) (by simp; omega)).trans y1
      have q2 : ∀ z, Below w4.heap.size w4 z → z.cell? _ = some _ := fun z h => (h.cell (p := ⟨w.heap.size + 1 + 1, _, none⟩) (by simp; omega)).trans y2
      have q3 : ∀ z, Below w4.heap.size w4 z → z.cell? _ = some _ := fun z h => (h.cell (p := ⟨w.heap.size + 1 + 1, _, none⟩) (by simp; omega)).trans y3
      have q4 : ∀ z, Below w4.heap.size w4 z → z.cell? _ = some _ := fun z h => (h.cell (p := ⟨w.heap.size + 1 + 1, _, none⟩) (by simp; omega)).trans y4
      have q5 : ∀ z, Below w4.heap.size w4 z → z.cell? _ = some _ := fun z h => (h.cell (p := ⟨w.heap.size + 1 + 1, _, none⟩) (by simp; omega)).trans y5
      have st : Below w4.heap.size w4 w4 := Below.refl _ _
      have stD : Below w4.heap.size w4 w4.drew := st.drew
      have stA : ∀ o, Below w4.heap.size w4 (w4.alloc o) := fun o => st.alloc (Nat.le_refl _) o
      have stAD : ∀ o, Below w4.heap.size w4 (w4.alloc o).drew := fun o => (st.alloc (Nat.le_refl _) o).drew
      clear x0 x1 x2 x3 x4 x5 y0 y1 y2 y3 y4 y5 m1 hw0 hxv
      obtain ⟨i0, hi, hz0, hz1, hz2⟩ := info_parts info_int
      go_upto_region 13 with fail
      go_cut [] from 42 to 51 (fun wx => ∃ w6 u6, Below w4.heap.size w4 w6 ∧ Own w6 w4.heap.size u6 (Wx ++ [(k : Int)]) ∧ RetAdd p (w.heap.size + 1 + 1 + 1 + 1 + 1) (w.heap.size + 1 + 1 + 1 + 1) (w.heap.size + 1 + 1 + 1) E.length (.slice (some ⟨gE, 0, none⟩) E.length cE) E l nx u6 w6 (.returned (.tuple #[])) wx)
      case first =>
        go_region_law (first
          | (refine step_append_own rfl (.tmp 47) (.tmp 49) 82 rfl w4.heap.size 2 i0 (.int .i64 0) 1 8 Try.underlying82 hi hz0 hz1 hz2 rfl (by decide) v5 Wx.length (Wx.map (Value.int .i64)) rfl ((World.ownsRow.mono HO5.out (Nat.le_refl _)).alloc _) ⟨w5.heap.size, 0, none⟩ 1 1 [Value.int .i64 (k : Int)] rfl rfl (cell_one_new _ _ _) (ints_oneCell .i64 [(k : Int)]) (by unfold maxLen; omega) (by omega) (Nat.le_trans hs5 (by simp)) ?_; intro v6 w6 hown6 hgrow6; have HO6 := Lib.hid hown6; have HB6 : Hid (Below w4.heap.size w4 w6) := Lib.hid (Below.grown (w := w5.alloc (.cells #[.int .i64 k] 2)) (by (repeat' (first | (with_reducible exact Below.refl _ _) | (with_reducible refine Below.alloc ?_ ?_ _) | (with_reducible refine Below.setCell ?_ ?_ _) | (with_reducible refine Below.drew ?_) | (with_reducible refine below_drewN ?_ _) | (with_reducible refine Below.trans ?_ (Below.mono (Hid.out (by assumption)) ?_)) | omega | (simp; done) | (simp; omega)))) hgrow6 (Nat.le_trans hs5 (by simp)) (fun r e => ((World.ownsRow.mono HO5.out (Nat.le_refl w4.heap.size)).lt r e).1)); have st6 := HB6.out; clear hown6 hgrow6)
          | (refine step_append_own rfl (.tmp 47) (.tmp 49) 82 rfl w4.heap.size 2 i0 (.int .i64 0) 1 8 Try.underlying82 hi hz0 hz1 hz2 rfl (by decide) v5 Wx.length (Wx.map (Value.int .i64)) rfl (World.ownsRow.mono HO5.out (by simp)) ⟨w4.heap.size, 0, none⟩ 1 1 [Value.int .i64 (k : Int)] rfl rfl (cell_one_below Hb5.out (by simp)) (ints_oneCell .i64 [(k : Int)]) (by unfold maxLen; omega) (by omega) hs5 ?_; intro v6 w6 hown6 hgrow6; have HO6 := Lib.hid hown6; have HB6 : Hid (Below w4.heap.size w4 w6) := Lib.hid (Below.grown (w := w5) (by (repeat' (first | (with_reducible exact Below.refl _ _) | (with_reducible refine Below.alloc ?_ ?_ _) | (with_reducible refine Below.setCell ?_ ?_ _) | (with_reducible refine Below.drew ?_) | (with_reducible refine below_drewN ?_ _) | (with_reducible refine Below.trans ?_ (Below.mono (Hid.out (by assumption)) ?_)) | omega | (simp; done) | (simp; omega)))) hgrow6 hs5 (fun r e => ((World.ownsRow.mono (base' := w4.heap.size) HO5.out (by simp)).lt r e).1)); have st6 := HB6.out; clear hown6 hgrow6)
          | (go_simp; go_at_call 97; refine (HADD.out _ _ HB6.out).mono ?_; rintro e w7 hra; have he := hra.1; subst he; have HRA := Lib.hid hra; clear hra)
          | (go_simp; go_at_call 98; refine (HCL.out _ (by (repeat' (first | (with_reducible exact Below.refl _ _) | (with_reducible refine Below.alloc ?_ ?_ _) | (with_reducible refine Below.setCell ?_ ?_ _) | (with_reducible refine Below.drew ?_) | (with_reducible refine below_drewN ?_ _) | (with_reducible refine Below.trans ?_ (Below.mono (Hid.out (by assumption)) ?_)) | omega | (simp; done) | (simp; omega))))).mono ?_; rintro e w5 ⟨v5, rfl, hown5, hb5⟩; have HO5 := Lib.hid hown5; have Hb5 := Lib.hid hb5; have hs5 : w4.heap.size ≤ w5.heap.size := Nat.le_trans (by first | exact Nat.le_refl _ | (simp; done)) hb5.size; have st5 : Below w4.heap.size w4 w5 := (by (repeat' (first | (with_reducible exact Below.refl _ _) | (with_reducible refine Below.alloc ?_ ?_ _) | (with_reducible refine Below.setCell ?_ ?_ _) | (with_reducible refine Below.drew ?_) | (with_reducible refine below_drewN ?_ _) | (with_reducible refine Below.trans ?_ (Below.mono (Hid.out (by assumption)) ?_)) | omega | (simp; done) | (simp; omega)))); have st5D : Below w4.heap.size w4 w5.drew := st5.drew; have st5A : ∀ o, Below w4.heap.size w4 (w5.alloc o) := (fun o => st5.alloc hs5 o); have st5B : ∀ o, Below w4.heap.size w4 (w5.alloc o).drew := (fun o => (st5.alloc hs5 o).drew); clear hown5 hb5))
        all_goals (go_wp2_with fail)
        all_goals go_meet
        all_goals
          refine ⟨w6, v6, HB6.out, ?_, HRA.out⟩
          have h := HO6.out
          unfold Own
          simpa using h
      case rest =>
        obtain ⟨w6, u6, hb6, hu6, hra⟩ := hcut
        clear stD stA stAD st rm r0 r1 r2 r3 r4 r5 q0 q1 q2 q3 q4 q5 hlk
        have HRA := Lib.hid hra
        have HB6 := Lib.hid hb6
        have HU6 := Lib.hid hu6
        have hM6 := HM4.out.below hb6
        obtain ⟨_, gE2, cE2, hmon, hown, hloc, hmap, hturn⟩ := hra
        have hfx := hturn.at_ ((hb6.block _ (by omega)).trans HF4.out) (by
          have hgE := (hM6.own.lt gE rfl).1
          rintro (h | h | h)
          · omega
          · omega
          · have : w.heap.size + 1 = gE := by simpa [Value.ownBlock] using h
            omega)
        have HFX := Lib.hid hfx
        have HMN := Lib.hid (meR_new hM6 HI.out.len HNEW2.out HM.out hu6 (by omega) hmon hown hmap hturn)
        clear hb6 hu6 hM6 hown hloc hmap hturn hfx HM4 HF4 HG4 HCL HADD
        have c0 := Joins.cell_of_block hmon 0
        have hmlt : w.heap.size + 1 + 1 + 1 + 1 < wc.heap.size := (Array.getElem?_eq_some_iff.1 hmon).1
        simp only [List.getElem?_toArray, List.getElem?_cons_zero] at c0
        clear hmon
        by_cases h3 : E.length = 300
        · have h3' : (300 : Int) < (E.length : Int) + 1 := by omega
          have H3 := Lib.hid h3
          clear h3
          have hl : (E ++ [nx]).length = E.length + 1 := by simp
          have hfi := HNEW2.out.fin (Or.inr (show 300 < (E ++ [nx]).length by rw [hl]; have := H3.out; omega))
          have HFI := Lib.hid hfi
          obtain ⟨d0, d1⟩ : wc.cell? ⟨w.heap.size, 0, none⟩ = some (.slice none 0 0) ∧ wc.cell? ⟨w.heap.size, 1, none⟩ = some (.map none) := ⟨Joins.cell_of_block HMN.out.res 0, Joins.cell_of_block HMN.out.res 1⟩
          have hfr := blk_free HMN.out.res
          clear hl hfi
          go_wp2_with fail
          have hbr := Joins.block_setCell (Joins.block_setCell HMN.out.res (i := 0) (.slice none 0 0)) (i := 1) (.map none)
          have b0 := Joins.cell_of_block hbr 0
          have b1 := Joins.cell_of_block hbr 1
          have hlr : w.heap.size ≤ wc.heap.size := HMN.out.bel.size
          have hbl5 : Below w.heap.size w ((wc.setCell ⟨w.heap.size, 0, none⟩ (.slice none 0 0)).setCell ⟨w.heap.size, 1, none⟩ (.map none)) := (HMN.out.bel.setCell (Nat.le_refl _) _).setCell (Nat.le_refl _) _
          refine (show bodyPost _ _ _ _ _ _ from bodyPost_ret (v := .tuple #[.agg #[.slice none 0 0, .map none], .int .i64 3]) (by simp [results, Try.results78, go_sem, b0, b1]) rfl ⟨hbl5, by rw [HFI.out]; exact HNEW2.out, by rw [HFI.out]; exact Or.inr (show 300 < (E ++ [nx]).length by have := H3.out; simp; omega), Or.inl ⟨?_, rfl⟩⟩)
          rw [HFI.out]
          show 300 < (E ++ [nx]).length
          have := H3.out
          simp
          omega
        · have h3' : ¬ ((300 : Int) < (E.length : Int) + 1) := by omega
          have H3 := Lib.hid h3
          clear h3
          go_wp2_with fail
          go_step3
          have hl : (E ++ [nx]).length = E.length + 1 := by simp
          have hge : (E ++ [nx]).getD pos 0 = x := by rw [← HEX.out, List.getD_eq_getElem?_getD, List.getElem?_append_left hp, ← List.getD_eq_getElem?_getD]
          exact HX1.out hk _ _ ⟨E ++ [nx], _, gE2, cE2, _, by rw [hl]; omega, by rw [hl]; have := H3.out; omega, HMN.out, by rw [hge]; exact HFX.out, _, _, _, _, _, _, _, _, _, _, _, _, _, _, _, _, _, _, _, _, _, _, _, _, _, _, _, _, _, _, _, _, _, _, _, _, _, _, _, _, _, _, _, _, _, _, _, _, rfl⟩
  · have hk' : (k : Int) = (gs.length : Int) := by omega
    have hke : k = gs.length := by omega
    have hrow := HM.out.rch.row hp hle (by omega)
    have HROW := Lib.hid hrow
    have hps : pos + 1 ≤ E.length := by omega
    clear hrow hke hk
    go_wp2_with fail
    go_step3
    exact HX0.out _ _ ⟨E, W, gE, cE, l, hps, hle, ⟨HROW.out, HM.out.mon, HM.out.own, HM.out.map, HM.out.mws, HM.out.res, HM.out.bf, HM.out.bg, HM.out.bel⟩, _, _, _, _, _, _, _, _, _, _, _, _, _, _, _, _, _, _, _, _, _, _, _, _, _, _, _, _, _, _, _, _, _, _, _, _, _, _, _, _, _, _, _, _, _, _, _, _, _, rfl⟩

theorem turn2 (w : World) (b : Nat) (v0 v1 : Value) : Turn w ((w.setCell ⟨b, 0, none⟩ v0).setCell ⟨b, 1, none⟩ v1) (fun r => r = b) := by
  have h0 : Turn w w (fun r => r = b) := Turn.of_below (Below.refl _ _)
  exact (h0.setCell (g := b) rfl).setCell (g := b) rfl

/-- Behind a store into the box of the element. -/
theorem MeR.turnF {w wr wr' : World} {p : Int} {gs : List Nat} {pos k : Nat} {E : List Nat} {W : List (List Int)} {gE cE : Nat} {l : List (Nat × Value)} {q : Int} {t : Nat → Int} (h : MeR w wr p gs pos k E W gE cE l) (ht : Turn wr wr' (fun r => r = w.heap.size + 1))
    (hb : wr'.heap[w.heap.size + 1]? = some (.cells (mcells q t) 31 (0, 0))) : MeR w wr' p gs pos k E W gE cE l := by
  refine ⟨h.rch, ht.at_ h.mon (by omega), ht.own h.own (fun r e => by have := (h.own.lt r e).1; omega), ht.map h.map (by omega), ⟨h.mws.mem, h.mws.nd, fun j hj => ?_⟩, ht.at_ h.res (by omega), ⟨q, t, hb⟩, ?_, ?_⟩
  · obtain ⟨u, hu, ho⟩ := h.mws.row j hj
    exact ⟨u, hu, ht.own ho (fun r e => by have := (ho.lt r e).1; omega)⟩
  · obtain ⟨q, t, ho⟩ := h.bg
    exact ⟨q, t, ht.at_ ho (by omega)⟩
  · have hs := h.bel.size
    exact ⟨ht.os.trans h.bel.os, ht.tape.trans h.bel.tape, ht.output.trans h.bel.output, Nat.le_trans hs ht.size, fun r hr => (ht.block r (by omega) (by omega)).trans (h.bel.block r hr)⟩

set_option maxRecDepth 1000000 in
set_option maxHeartbeats 4000000 in
theorem body0_any {p : Int} {gs : List Nat} (h1 : 1 ≤ p) (h5 : p ≤ 5) (hg : ∀ c ∈ gs, vld p c) (hn : gs.length ≤ 6) (a : Option Addr) (cap : Nat) (w : World) (hr : InRowM w a (mE p gs)) (pos : Nat) (X : Nat → Act → World → Prop)
    (hX0 : pos ≤ 299 → ∀ a' w', M0 w p gs a cap (pos + 1) a' w' → X 0 a' w') (hX1 : pos ≤ 299 → 0 < gs.length → ∀ a' w', M1 w p gs a cap pos (0 + 1) a' w' → X 1 a' w')
    (E : List Nat) (W : List (List Int)) (gE cE : Nat) (l : List (Nat × Value)) (wr : World) (hp : pos ≤ E.length) (hle : E.length ≤ 300) (hM : MeR w wr p gs pos 0 E W gE cE l) (u9 u11 u12 u13 u14 u15 u16 u17 u18 u19 u20 u21 u22 u23 u24 u25 u26 u27 u28 u29 u30 u31 u32 u33 u34 u35 u36 u37 u38 u39 u40 u41 u42 u43 u44 u45 u46 u47 u48 u49 u50 u51 u52 u53 u54 u55 u56 u57 u58 : Value) :
    Code.wp Try.prog rest0 (jumpTo X (bodyPost Try.prog Try.f78 (RetMeet p gs w))) { tmps := #[.int .i64 p, .slice a gs.length cap, undef, undef, .pointer (some ⟨w.heap.size, 0, none⟩), .int .i64 0, .pointer (some ⟨w.heap.size + 1, 0, none⟩), .pointer (some ⟨w.heap.size + 1 + 1, 0, none⟩), .int .i64 pos, u9, .pointer (some ⟨w.heap.size + 1 + 1 + 1 + 1, 0, none⟩), u11, u12, u13, u14, u15, u16, u17, u18, u19, u20, u21, u22, u23, u24, u25, u26, u27, u28, u29, u30, u31, u32, u33, u34, u35, u36, u37, u38, u39, u40, u41, u42, u43, u44, u45, u46, u47, u48, u49, u50, u51, u52, u53, u54, u55, u56, u57, u58], defers := [] } wr := by
  conv => arg 2; whnf
  have HM := Lib.hid hM
  have c0 := Joins.cell_of_block hM.mon 0
  have c1 := Joins.cell_of_block hM.mon 1
  have hmlt : w.heap.size + 1 + 1 + 1 + 1 < wr.heap.size := (Array.getElem?_eq_some_iff.1 hM.mon).1
  simp only [List.getElem?_toArray, List.getElem?_cons_zero, List.getElem?_cons_succ] at c0 c1
  clear hM
  by_cases he : pos = E.length
  · have hf := HM.out.rch.fin (Or.inl (show E.length ≤ pos by omega))
    have HF := Lib.hid hf
    have HE := Lib.hid he
    have he' : ((pos : Int) == (E.length : Int)) = true := by simp; omega
    have d0 := Joins.cell_of_block HM.out.res 0
    have d1 := Joins.cell_of_block HM.out.res 1
    have hfr := blk_free HM.out.res
    simp only [List.getElem?_toArray, List.getElem?_cons_zero, List.getElem?_cons_succ] at d0 d1
    have heI : (pos : Int) = (E.length : Int) := by omega
    clear hf he he'
    go_wp2_with fail
    have hbr := Joins.block_setCell (Joins.block_setCell HM.out.res (i := 0) (.slice (some ⟨gE, 0, none⟩) E.length cE)) (i := 1) (.map (some (w.heap.size + 1 + 1 + 1)))
    have b0 := Joins.cell_of_block hbr 0
    have b1 := Joins.cell_of_block hbr 1
    have ht := turn2 wr w.heap.size (.slice (some ⟨gE, 0, none⟩) E.length cE) (.map (some (w.heap.size + 1 + 1 + 1)))
    refine (show bodyPost _ _ _ _ _ _ from bodyPost_ret (v := .tuple #[.agg #[.slice (some ⟨gE, 0, none⟩) E.length cE, .map (some (w.heap.size + 1 + 1 + 1))], .int .i64 0]) (by simp [results, Try.results78, go_sem, b0, b1]) rfl ?_)
    refine ⟨(HM.out.bel.setCell (Nat.le_refl _) _).setCell (Nat.le_refl _) _, by rw [HF.out]; exact HM.out.rch, by rw [HF.out]; exact Or.inl (show E.length ≤ pos by have := HE.out; omega), Or.inr ?_⟩
    rw [HF.out]
    refine ⟨hle, gE, cE, w.heap.size + 1 + 1 + 1, l, rfl, ht.own (HM.out.own.mono (by omega)) (fun r e => by have := (HM.out.own.lt r e).1; omega), ht.map HM.out.map (by omega), by omega, ⟨HM.out.mws.mem, HM.out.mws.nd, fun j hj => ?_⟩⟩
    obtain ⟨u, hu, ho⟩ := HM.out.mws.row j hj
    exact ⟨u, hu, ht.own (World.ownsRow.mono ho (by omega)) (fun r e => by have := (ho.lt r e).1; omega)⟩
  · have hne : ¬ ((pos : Int) = (E.length : Int)) := by omega
    have hlt : pos < E.length := by omega
    have hlt' : (pos : Int) < (E.length : Int) := by omega
    obtain ⟨_, hgE, hcE⟩ := ownM_at HM.out.own (by rw [mE_len]; omega)
    have hx := hcE pos (by rw [mE_len]; exact hlt)
    rw [mE_at p E pos hlt] at hx
    unfold AtM at hx
    rw [Nat.zero_add] at hx
    obtain ⟨qf, tf, hbf⟩ := HM.out.bf
    have hflt : w.heap.size + 1 < wr.heap.size := by omega
    have HBF := Lib.hid hbf
    have hfr := blk_free hbf
    obtain ⟨z0, z1, z2, z3, z4, z5⟩ := blk6 hbf
    obtain ⟨x, hx2⟩ : ∃ x, x = E.getD pos 0 := ⟨_, rfl⟩
    rw [← hx2] at hx
    have HX2 := Lib.hid hx2
    clear hcE he hx2 hbf
    obtain ⟨x0, x1, x2, x3, x4, x5⟩ := hx
    simp only [] at x0 x1 x2 x3 x4 x5
    have hinc : IntKind.i64.wrap ((pos : Int) + 1) = (pos : Int) + 1 := IntWalk.i64_in _ (by omega)
    go_wp2_with fail
    go_step3
    have hf3 := block6 (p := p) (t := dcd x) HBF.out
    have ht := turn6 wr (w.heap.size + 1) (.int .i64 p) (.int .i64 (dcd x 0)) (.int .i64 (dcd x 1)) (.int .i64 (dcd x 2)) (.int .i64 (dcd x 3)) (.int .i64 (dcd x 4))
    rename_i Kx hKx
    refine hKx _ _ (code_swap (c := rest1) (by kernel_rfl) ?_)
    exact (body1_any h1 h5 hg hn a cap w hr pos 0 X (hX0 (by omega)) (hX1 (by omega)) E W gE cE l _ hlt hle (HM.out.turnF ht hf3) (by rw [← HX2.out]; exact hf3) _ _ _ _ _ _ _ _ _ _ _ _ _ _ _ _ _ _ _ _ _ _ _ _ _ _ _ _ _ _ _ _ _ _ _ _ _ _ _ _ _ _ _ _ _ _ _ _)

def slotN (a : Act) (i : Nat) : Nat := match a.tmps.getD i undef with
  | .int _ x => x.toNat
  | _ => 0

theorem m0_slot {w wr : World} {p : Int} {gs : List Nat} {a : Option Addr} {cap pos : Nat} {a' : Act} (h : M0 w p gs a cap pos a' wr) : slotN a' 8 = pos ∧ pos ≤ 300 := by
  obtain ⟨E, W, gE, cE, l, hp, hle, _, u9, hf⟩ := h
  obtain ⟨u11, hf⟩ := hf
  obtain ⟨u12, hf⟩ := hf
  obtain ⟨u13, hf⟩ := hf
  obtain ⟨u14, hf⟩ := hf
  obtain ⟨u15, hf⟩ := hf
  obtain ⟨u16, hf⟩ := hf
  obtain ⟨u17, hf⟩ := hf
  obtain ⟨u18, hf⟩ := hf
  obtain ⟨u19, hf⟩ := hf
  obtain ⟨u20, hf⟩ := hf
  obtain ⟨u21, hf⟩ := hf
  obtain ⟨u22, hf⟩ := hf
  obtain ⟨u23, hf⟩ := hf
  obtain ⟨u24, hf⟩ := hf
  obtain ⟨u25, hf⟩ := hf
  obtain ⟨u26, hf⟩ := hf
  obtain ⟨u27, hf⟩ := hf
  obtain ⟨u28, hf⟩ := hf
  obtain ⟨u29, hf⟩ := hf
  obtain ⟨u30, hf⟩ := hf
  obtain ⟨u31, hf⟩ := hf
  obtain ⟨u32, hf⟩ := hf
  obtain ⟨u33, hf⟩ := hf
  obtain ⟨u34, hf⟩ := hf
  obtain ⟨u35, hf⟩ := hf
  obtain ⟨u36, hf⟩ := hf
  obtain ⟨u37, hf⟩ := hf
  obtain ⟨u38, hf⟩ := hf
  obtain ⟨u39, hf⟩ := hf
  obtain ⟨u40, hf⟩ := hf
  obtain ⟨u41, hf⟩ := hf
  obtain ⟨u42, hf⟩ := hf
  obtain ⟨u43, hf⟩ := hf
  obtain ⟨u44, hf⟩ := hf
  obtain ⟨u45, hf⟩ := hf
  obtain ⟨u46, hf⟩ := hf
  obtain ⟨u47, hf⟩ := hf
  obtain ⟨u48, hf⟩ := hf
  obtain ⟨u49, hf⟩ := hf
  obtain ⟨u50, hf⟩ := hf
  obtain ⟨u51, hf⟩ := hf
  obtain ⟨u52, hf⟩ := hf
  obtain ⟨u53, hf⟩ := hf
  obtain ⟨u54, hf⟩ := hf
  obtain ⟨u55, hf⟩ := hf
  obtain ⟨u56, hf⟩ := hf
  obtain ⟨u57, hf⟩ := hf
  obtain ⟨u58, hf⟩ := hf
  subst hf
  exact ⟨Int.toNat_natCast pos, by omega⟩

theorem m1_slot {w wr : World} {p : Int} {gs : List Nat} {a : Option Addr} {cap pos k : Nat} {a' : Act} (h : M1 w p gs a cap pos k a' wr) : slotN a' 8 = pos + 1 ∧ slotN a' 9 = k ∧ pos ≤ 299 := by
  obtain ⟨E, W, gE, cE, l, hp, hle, _, _, hf⟩ := h
  obtain ⟨u11, hf⟩ := hf
  obtain ⟨u12, hf⟩ := hf
  obtain ⟨u13, hf⟩ := hf
  obtain ⟨u14, hf⟩ := hf
  obtain ⟨u15, hf⟩ := hf
  obtain ⟨u16, hf⟩ := hf
  obtain ⟨u17, hf⟩ := hf
  obtain ⟨u18, hf⟩ := hf
  obtain ⟨u19, hf⟩ := hf
  obtain ⟨u20, hf⟩ := hf
  obtain ⟨u21, hf⟩ := hf
  obtain ⟨u22, hf⟩ := hf
  obtain ⟨u23, hf⟩ := hf
  obtain ⟨u24, hf⟩ := hf
  obtain ⟨u25, hf⟩ := hf
  obtain ⟨u26, hf⟩ := hf
  obtain ⟨u27, hf⟩ := hf
  obtain ⟨u28, hf⟩ := hf
  obtain ⟨u29, hf⟩ := hf
  obtain ⟨u30, hf⟩ := hf
  obtain ⟨u31, hf⟩ := hf
  obtain ⟨u32, hf⟩ := hf
  obtain ⟨u33, hf⟩ := hf
  obtain ⟨u34, hf⟩ := hf
  obtain ⟨u35, hf⟩ := hf
  obtain ⟨u36, hf⟩ := hf
  obtain ⟨u37, hf⟩ := hf
  obtain ⟨u38, hf⟩ := hf
  obtain ⟨u39, hf⟩ := hf
  obtain ⟨u40, hf⟩ := hf
  obtain ⟨u41, hf⟩ := hf
  obtain ⟨u42, hf⟩ := hf
  obtain ⟨u43, hf⟩ := hf
  obtain ⟨u44, hf⟩ := hf
  obtain ⟨u45, hf⟩ := hf
  obtain ⟨u46, hf⟩ := hf
  obtain ⟨u47, hf⟩ := hf
  obtain ⟨u48, hf⟩ := hf
  obtain ⟨u49, hf⟩ := hf
  obtain ⟨u50, hf⟩ := hf
  obtain ⟨u51, hf⟩ := hf
  obtain ⟨u52, hf⟩ := hf
  obtain ⟨u53, hf⟩ := hf
  obtain ⟨u54, hf⟩ := hf
  obtain ⟨u55, hf⟩ := hf
  obtain ⟨u56, hf⟩ := hf
  obtain ⟨u57, hf⟩ := hf
  obtain ⟨u58, hf⟩ := hf
  subst hf
  exact ⟨Int.toNat_natCast (pos + 1), Int.toNat_natCast k, by omega⟩

set_option maxRecDepth 1000000 in
set_option maxHeartbeats 4000000 in
theorem meet_any {p : Int} {gs : List Nat} (h1 : 1 ≤ p) (h5 : p ≤ 5) (hg : ∀ c ∈ gs, vld p c) (hn : gs.length ≤ 6) (a : Option Addr) (cap : Nat) (w : World) (hr : InRowM w a (mE p gs)) :
    Calls Try.prog 78 #[.int .i64 p, .slice a gs.length cap] w (RetMeet p gs w) := by
  have hmm := @run_makeMap Try.prog
  have HID := Lib.hid fun w => iid_num h1 h5 w
  have HIV := Lib.hid (idC_vld h1 h5)
  simp only [mv, mcells] at HID
  go_enter Try.func78, Try.ntmps78
  go_wp2_with fail
  refine scope_labels (fun l => if l = 0 then some (.seq .skip rest0) else if l = 1 then some (.seq .skip rest1) else none) ?hat (fun l a' w' => (l = 0 ∧ ∃ pos, M0 w p gs a cap pos a' w') ∨ (l = 1 ∧ ∃ pos k, M1 w p gs a cap pos k a' w')) ?hJ
    (fun l a' _ => (301 - slotN a' 8) * 10 + (if l = 1 then gs.length - slotN a' 9 + 1 else 0)) ?first ?pass
  case hat =>
    intro l r h
    by_cases e0 : l = 0
    · subst e0; rw [if_pos rfl] at h; injection h with h; subst h; kernel_rfl
    · rw [if_neg e0] at h
      by_cases e1 : l = 1
      · subst e1; rw [if_pos rfl] at h; injection h with h; subst h; kernel_rfl
      · rw [if_neg e1] at h; cases h
  case hJ =>
    rintro l a' w' (⟨rfl, _⟩ | ⟨rfl, _⟩)
    · exact ⟨_, rfl⟩
    · exact ⟨_, rfl⟩
  case pass =>
    clear hmm
    rintro l r a' w' hl (⟨rfl, pos, hM⟩ | ⟨rfl, pos, k, hM⟩)
    · rw [if_pos rfl] at hl
      injection hl with hl
      subst hl
      obtain ⟨hs8, hp3⟩ := m0_slot hM
      rw [hs8]
      obtain ⟨E, W, gE, cE, l, hp, hle, hR, u9, hf⟩ := hM
      obtain ⟨u11, hf⟩ := hf
      obtain ⟨u12, hf⟩ := hf
      obtain ⟨u13, hf⟩ := hf
      obtain ⟨u14, hf⟩ := hf
      obtain ⟨u15, hf⟩ := hf
      obtain ⟨u16, hf⟩ := hf
      obtain ⟨u17, hf⟩ := hf
      obtain ⟨u18, hf⟩ := hf
      obtain ⟨u19, hf⟩ := hf
      obtain ⟨u20, hf⟩ := hf
      obtain ⟨u21, hf⟩ := hf
      obtain ⟨u22, hf⟩ := hf
      obtain ⟨u23, hf⟩ := hf
      obtain ⟨u24, hf⟩ := hf
      obtain ⟨u25, hf⟩ := hf
      obtain ⟨u26, hf⟩ := hf
      obtain ⟨u27, hf⟩ := hf
      obtain ⟨u28, hf⟩ := hf
      obtain ⟨u29, hf⟩ := hf
      obtain ⟨u30, hf⟩ := hf
      obtain ⟨u31, hf⟩ := hf
      obtain ⟨u32, hf⟩ := hf
      obtain ⟨u33, hf⟩ := hf
      obtain ⟨u34, hf⟩ := hf
      obtain ⟨u35, hf⟩ := hf
      obtain ⟨u36, hf⟩ := hf
      obtain ⟨u37, hf⟩ := hf
      obtain ⟨u38, hf⟩ := hf
      obtain ⟨u39, hf⟩ := hf
      obtain ⟨u40, hf⟩ := hf
      obtain ⟨u41, hf⟩ := hf
      obtain ⟨u42, hf⟩ := hf
      obtain ⟨u43, hf⟩ := hf
      obtain ⟨u44, hf⟩ := hf
      obtain ⟨u45, hf⟩ := hf
      obtain ⟨u46, hf⟩ := hf
      obtain ⟨u47, hf⟩ := hf
      obtain ⟨u48, hf⟩ := hf
      obtain ⟨u49, hf⟩ := hf
      obtain ⟨u50, hf⟩ := hf
      obtain ⟨u51, hf⟩ := hf
      obtain ⟨u52, hf⟩ := hf
      obtain ⟨u53, hf⟩ := hf
      obtain ⟨u54, hf⟩ := hf
      obtain ⟨u55, hf⟩ := hf
      obtain ⟨u56, hf⟩ := hf
      obtain ⟨u57, hf⟩ := hf
      obtain ⟨u58, hf⟩ := hf
      subst hf
      refine skip_seq (body0_any h1 h5 hg hn a cap w hr pos _ (fun h299 a2 w2 h => ?_) (fun h299 h0 a2 w2 h => ?_) E W gE cE l w' hp hle hR u9 u11 u12 u13 u14 u15 u16 u17 u18 u19 u20 u21 u22 u23 u24 u25 u26 u27 u28 u29 u30 u31 u32 u33 u34 u35 u36 u37 u38 u39 u40 u41 u42 u43 u44 u45 u46 u47 u48 u49 u50 u51 u52 u53 u54 u55 u56 u57 u58)
      · have := m0_slot h
        exact ⟨Or.inl ⟨rfl, _, h⟩, by rw [this.1]; first | (simp; done) | (simp; omega)⟩
      · have := m1_slot h
        exact ⟨Or.inr ⟨rfl, _, _, h⟩, by rw [this.1, this.2.1]; first | (simp; done) | (simp; omega)⟩
    · rw [if_neg (by decide), if_pos rfl] at hl
      injection hl with hl
      subst hl
      obtain ⟨hs8, hs9, hp3⟩ := m1_slot hM
      rw [hs8, hs9]
      obtain ⟨E, W, gE, cE, l, hp, hle, hR, hfx, hf⟩ := hM
      obtain ⟨u11, hf⟩ := hf
      obtain ⟨u12, hf⟩ := hf
      obtain ⟨u13, hf⟩ := hf
      obtain ⟨u14, hf⟩ := hf
      obtain ⟨u15, hf⟩ := hf
      obtain ⟨u16, hf⟩ := hf
      obtain ⟨u17, hf⟩ := hf
      obtain ⟨u18, hf⟩ := hf
      obtain ⟨u19, hf⟩ := hf
      obtain ⟨u20, hf⟩ := hf
      obtain ⟨u21, hf⟩ := hf
      obtain ⟨u22, hf⟩ := hf
      obtain ⟨u23, hf⟩ := hf
      obtain ⟨u24, hf⟩ := hf
      obtain ⟨u25, hf⟩ := hf
      obtain ⟨u26, hf⟩ := hf
      obtain ⟨u27, hf⟩ := hf
      obtain ⟨u28, hf⟩ := hf
      obtain ⟨u29, hf⟩ := hf
      obtain ⟨u30, hf⟩ := hf
      obtain ⟨u31, hf⟩ := hf
      obtain ⟨u32, hf⟩ := hf
      obtain ⟨u33, hf⟩ := hf
      obtain ⟨u34, hf⟩ := hf
      obtain ⟨u35, hf⟩ := hf
      obtain ⟨u36, hf⟩ := hf
      obtain ⟨u37, hf⟩ := hf
      obtain ⟨u38, hf⟩ := hf
      obtain ⟨u39, hf⟩ := hf
      obtain ⟨u40, hf⟩ := hf
      obtain ⟨u41, hf⟩ := hf
      obtain ⟨u42, hf⟩ := hf
      obtain ⟨u43, hf⟩ := hf
      obtain ⟨u44, hf⟩ := hf
      obtain ⟨u45, hf⟩ := hf
      obtain ⟨u46, hf⟩ := hf
      obtain ⟨u47, hf⟩ := hf
      obtain ⟨u48, hf⟩ := hf
      obtain ⟨u49, hf⟩ := hf
      obtain ⟨u50, hf⟩ := hf
      obtain ⟨u51, hf⟩ := hf
      obtain ⟨u52, hf⟩ := hf
      obtain ⟨u53, hf⟩ := hf
      obtain ⟨u54, hf⟩ := hf
      obtain ⟨u55, hf⟩ := hf
      obtain ⟨u56, hf⟩ := hf
      obtain ⟨u57, hf⟩ := hf
      obtain ⟨u58, hf⟩ := hf
      subst hf
      refine skip_seq (body1_any h1 h5 hg hn a cap w hr pos k _ (fun a2 w2 h => ?_) (fun hk a2 w2 h => ?_) E W gE cE l w' hp hle hR hfx u11 u12 u13 u14 u15 u16 u17 u18 u19 u20 u21 u22 u23 u24 u25 u26 u27 u28 u29 u30 u31 u32 u33 u34 u35 u36 u37 u38 u39 u40 u41 u42 u43 u44 u45 u46 u47 u48 u49 u50 u51 u52 u53 u54 u55 u56 u57 u58)
      · have := m0_slot h
        exact ⟨Or.inl ⟨rfl, _, h⟩, by rw [this.1]; first | (simp; done) | (simp; omega)⟩
      · have := m1_slot h
        exact ⟨Or.inr ⟨rfl, _, _, h⟩, by rw [this.1, this.2.1]; first | (simp; done) | (simp; omega)⟩
  case first =>
    go_wp2_with fail
    obtain ⟨wm, hwm⟩ : ∃ wm, wm = ((w.alloc (.cells #[.slice none 0 0, .map none] 48)).alloc (.cells (mcells 0 fun _ => 0) 31)).alloc (.cells (mcells 0 fun _ => 0) 31) := ⟨_, rfl⟩
    have hsm : wm.heap.size = w.heap.size + 1 + 1 + 1 := by rw [hwm]; simp
    obtain ⟨wz, hwz⟩ : ∃ wz, wz = (wm.alloc (.map #[] 0)).alloc (.cells #[.slice none 0 0, .map (some (w.heap.size + 1 + 1 + 1))] 48) := ⟨_, rfl⟩
    have hmap : MapN2 wz p (w.heap.size + 1 + 1 + 1) 0 [] := by
      rw [hwz, ← hsm]
      exact ⟨(World.ownsMap_made wm Try.prog 31 valR).alloc _, fun x hx => by cases hx⟩
    have hbm : Below w.heap.size w wm := by rw [hwm]; exact (((Below.refl _ _).alloc (Nat.le_refl _) _).alloc (by first | (simp; done) | (simp; omega)) _).alloc (by first | (simp; done) | (simp; omega)) _
    have hbz : Below wm.heap.size wm wz := by rw [hwz]; exact ((Below.refl _ _).alloc (Nat.le_refl _) _).alloc (by simp) _
    have hres : wz.heap[w.heap.size]? = some (.cells #[.slice none 0 0, .map none] 48 (0, 0)) := by
      refine (hbz.block _ (by omega)).trans ?_
      rw [hwm]
      exact (halloc_lt _ _ _ (by first | (simp; done) | (simp; omega))).trans ((halloc_lt _ _ _ (by simp)).trans (halloc_at _ _ _ rfl))
    have hbf : wz.heap[w.heap.size + 1]? = some (.cells (mcells 0 fun _ => 0) 31 (0, 0)) := by
      refine (hbz.block _ (by omega)).trans ?_
      rw [hwm]
      exact (halloc_lt _ _ _ (by simp)).trans (halloc_at _ _ _ (by simp))
    have hbg : wz.heap[w.heap.size + 1 + 1]? = some (.cells (mcells 0 fun _ => 0) 31 (0, 0)) := by
      refine (hbz.block _ (by omega)).trans ?_
      rw [hwm]
      exact halloc_at _ _ _ (by simp)
    have hmon : wz.heap[w.heap.size + 1 + 1 + 1 + 1]? = some (.cells #[.slice none 0 0, .map (some (w.heap.size + 1 + 1 + 1))] 48 (0, 0)) := by
      rw [hwz]
      exact halloc_at _ _ _ (by first | (simp; done) | (simp; omega))
    have hsz : wz.heap.size = w.heap.size + 1 + 1 + 1 + 1 + 1 := by rw [hwz]; first | (simp; done) | (simp; omega)
    have hbel := hbm.trans (hbz.mono hbm.size)
    simp only [mcells] at hwm
    rw [← hwm, ← hwz]
    have HMAP := Lib.hid hmap
    have HRES := Lib.hid hres
    have HBF := Lib.hid hbf
    have HBG := Lib.hid hbg
    have HMON := Lib.hid hmon
    have HBEL := Lib.hid hbel
    clear hmap hres hbf hbg hmon hbel hwm hwz hbm hbz hsm hmm
    refine (HID.out _).mono ?_
    rintro e w2 ⟨rfl, hb⟩
    have hs2 := hb.size
    have at2 : ∀ {b : Nat} {o : Obj}, wz.heap[b]? = some o → w2.heap[b]? = some o := fun ho => (hb.block _ (Array.getElem?_eq_some_iff.1 ho).1).trans ho
    have HAdd := Lib.hid (madd_any (p := p) (B := w.heap.size + 1 + 1 + 1 + 1 + 1) (vE := .slice none 0 0) (u := .slice none 0 0) (E := []) (l := []) (n := 0) w2 HIV.out (by simp) (by omega) (by omega) (World.ownsRow_nil _ _ _ _) (mapN2_below HMAP.out hb) (at2 HMON.out))
    have HRES2 := Lib.hid (at2 HRES.out)
    have HBF2 := Lib.hid (at2 HBF.out)
    have HBG2 := Lib.hid (at2 HBG.out)
    have HBEL2 := Lib.hid (HBEL.out.trans (hb.mono HBEL.out.size))
    clear hb at2 HMAP HRES HBF HBG HMON HBEL
    simp only [mv, mcells] at HAdd
    go_wp2_with fail
    refine HAdd.out.mono ?_
    rintro e w3 ⟨rfl, gE, cE, hmon, hown, _, hmap, hturn⟩
    have hbox : ∀ {b : Nat} {o : Obj}, b < w.heap.size + 1 + 1 + 1 → w2.heap[b]? = some o → w3.heap[b]? = some o := fun {b o} hb ho => hturn.at_ ho (by
      rintro (h | h | h)
      · omega
      · omega
      · simp [Value.ownBlock] at h)
    have hMe : MeR w w3 p gs 0 0 [idC p] [[]] gE cE [(idC p, .slice none 0 0)] := by
      refine ⟨rch_start p gs, hmon, hown, hmap, ⟨fun c => by simp, by simp, fun j hj => ?_⟩, hbox (by omega) HRES2.out, ⟨_, _, hbox (by omega) HBF2.out⟩, ⟨_, _, hbox (by omega) HBG2.out⟩, ?_⟩
      · obtain rfl : j = 0 := by simpa using hj
        exact ⟨_, List.mem_singleton.2 rfl, World.ownsRow_nil _ _ _ _⟩
      · have hs := HBEL2.out.size
        exact ⟨hturn.os.trans HBEL2.out.os, hturn.tape.trans HBEL2.out.tape, hturn.output.trans HBEL2.out.output, Nat.le_trans hs hturn.size, fun r hr => (hturn.block r (by omega) (by
          rintro (h | h | h)
          · omega
          · omega
          · simp [Value.ownBlock] at h)).trans (HBEL2.out.block r hr)⟩
    have HMe := Lib.hid hMe
    clear hMe hbox hmon hown hmap hturn
    go_wp2_with fail
    go_step3
    rename_i Kx hKx
    refine hKx _ _ (code_swap (c := rest0) (by kernel_rfl) ?_)
    exact body0_any h1 h5 hg hn a cap w hr 0 _ (fun _ a2 w2 h => Or.inl ⟨rfl, _, h⟩) (fun _ _ a2 w2 h => Or.inr ⟨rfl, _, _, h⟩) [idC p] [[]] gE cE _ _ (by simp) (by simp) HMe.out _ _ _ _ _ _ _ _ _ _ _ _ _ _ _ _ _ _ _ _ _ _ _ _ _ _ _ _ _ _ _ _ _ _ _ _ _ _ _ _ _ _ _ _ _ _ _ _ _

end Go.Proofs.Ytiogagaclhjdaaa
