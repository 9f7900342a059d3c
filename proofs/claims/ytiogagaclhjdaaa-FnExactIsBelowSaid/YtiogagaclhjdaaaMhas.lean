/- The contracts of impl's (*monoid).has, (*monoid).add. -/
import Derived.Test.YtiogagaclhjdaaaWdm
import Derived.Test.YtiogagaclhjdaaaLab
import Derived.Test.YtiogagaclhjdaaaTurn
import Derived.Test.YtiogagaclhjdaaaSclo
import Derived.ScopeJumps
namespace Go.Proofs.Ytiogagaclhjdaaa
open Go.RowKit Go.Maps

/-! A law of control: a scope in which the run jumps to several labels. What holds at a jump may hang on the label; a measure falls from jump to jump. -/

theorem zeroRow (w : World) : (zeroValue 82).run Try.prog w = .ok (.slice none 0 0) w := by kernel_rfl

theorem valR_inv {v : Value} {d : DataW Value} {ps : List MemPlace} (h : valR v = some (d, ps)) : d = .held v := by
  unfold valR at h; injection h with h; injection h with h _; exact h.symm

/-- The map of a search. -/
def MapN2 (w : World) (p : Int) (b n : Nat) (l : List (Nat × Value)) : Prop := w.ownsMap Try.prog 31 valR b n (wD p l) ∧ ∀ x ∈ l, vld p x.1

theorem mapN2_below {w w' : World} {p : Int} {b n : Nat} {l : List (Nat × Value)} (h : MapN2 w p b n l) (hb : Below w.heap.size w w') : MapN2 w' p b n l :=
  ⟨h.1.kept (row := none) ⟨hb.os, hb.tape, hb.output, hb.size, fun j hj _ => hb.block j hj⟩ (by simp), h.2⟩

set_option maxRecDepth 100000 in
theorem look_num {w : World} {p : Int} {b n c : Nat} {l : List (Nat × Value)} (h : MapN2 w p b n l) (hc : vld p c) :
    ∃ v, (∀ x : World, x.heap = w.heap → (Instr.lookup 46 (.map (some b)) (mv p (dcd c)) true).run Try.prog x = .ok (.tuple #[v, .bool (decide (c ∈ l.map Prod.fst))]) x) := by
  have hown : ∀ x : World, x.heap = w.heap → x.ownsMap Try.prog 31 valR b n (wD p l) := fun x hx => by
    obtain ⟨es, clock, hb, F, hs, hD⟩ := h.1
    exact ⟨es, clock, by rw [hx]; exact hb, F, hs, hD⟩
  obtain ⟨v, ps, _, hv⟩ := (hown w rfl).look_ok lawM Try.underlying46 (zeroRow w) (zd := .held (.slice none 0 0)) (zp := []) rfl (key_of hc.2)
  refine ⟨v, fun x hx => ?_⟩
  obtain ⟨v2, ps2, hr, hv2⟩ := (hown x hx).look_ok lawM Try.underlying46 (zeroRow x) (zd := .held (.slice none 0 0)) (zp := []) rfl (key_of hc.2)
  rw [wD_has hc h.2] at hr
  have e1 := valR_inv hv
  have e2 := valR_inv hv2
  rw [e1] at e2
  injection e2 with e2
  rw [e2]
  exact hr

set_option maxRecDepth 100000 in
theorem mhas_any {p : Int} {b n g c : Nat} {vE : Value} {l : List (Nat × Value)} (w : World) (hc : vld p c) (hm : MapN2 w p b n l) (hx : w.heap[g]? = some (.cells #[vE, .map (some b)] 48 (0, 0))) :
    Calls Try.prog 74 #[.pointer (some ⟨g, 0, none⟩), mv p (dcd c)] w fun e w' => e = .returned (.bool (decide (c ∈ l.map Prod.fst))) ∧ Below w.heap.size w w' := by
  have hb0 : Below w.heap.size w (w.alloc (.cells (mcells p (dcd c)) 31)) := (Below.refl _ _).alloc (Nat.le_refl _) _
  obtain ⟨v, hv⟩ := look_num (mapN2_below hm hb0) hc
  have hlk : ∀ m, (Instr.lookup 46 (.map (some b)) (mv p (dcd c)) true).run Try.prog ((w.alloc (.cells (mcells p (dcd c)) 31)).drewN m) = .ok (.tuple #[v, .bool (decide (c ∈ l.map Prod.fst))]) ((w.alloc (.cells (mcells p (dcd c)) 31)).drewN m) := fun m => hv _ rfl
  have hl0 := hv _ rfl
  have c0 := Joins.cell_of_block hx 0
  have c1 := Joins.cell_of_block hx 1
  have hg : g < w.heap.size := (Array.getElem?_eq_some_iff.1 hx).1
  simp only [List.getElem?_toArray, List.getElem?_cons_zero, List.getElem?_cons_succ] at c0 c1
  clear hm hv hb0
  simp only [mv, mcells] at *
  generalize decide (c ∈ l.map Prod.fst) = B at *
  go_enter Try.func74, Try.ntmps74
  go_wp2_with fail
  go_quiet (fail)
  go_wp2_with fail
  go_ret
  exact ⟨rfl, below_drewN ((Below.refl _ _).alloc (Nat.le_refl _) _) _⟩

theorem app_form {w : World} {B : Nat} {v : Value} {p : Int} {E : List Nat} {c : Nat} (h : OwnM w B v (mE p E ++ [(p, dcd c)])) (hE : E.length ≤ 1000) : ∃ g cap, v = .slice (some ⟨g, 0, none⟩) (E.length + 1) cap := by
  obtain ⟨g, cap, e, _⟩ := ownM_put h (by simp [mE_len]; omega) (by simp)
  exact ⟨g, cap, by rw [e]; simp [mE_len]⟩

theorem Turn.map {w w' : World} {S : Nat → Prop} {p : Int} {b n : Nat} {l : List (Nat × Value)} (h : Turn w w' S) (hm : MapN2 w p b n l) (hS : ¬ S b) : MapN2 w' p b n l := by
  obtain ⟨⟨es, clock, hb, F, hs, hD⟩, hv⟩ := hm
  exact ⟨⟨es, clock, h.at_ hb hS, F, hs, hD⟩, hv⟩

theorem grown_set (w : World) (g o : Nat) (v : Value) : w.grownBy (w.setCell ⟨g, o, none⟩ v) (some g) :=
  ⟨rfl, rfl, rfl, by simp, fun k _ hk => hset_ne _ _ _ _ (fun e => hk (by have : k = g := e; rw [this]))⟩

/-- What (*monoid).add leaves. -/
def RetAdd (p : Int) (B g b n : Nat) (vE : Value) (E : List Nat) (l : List (Nat × Value)) (c : Nat) (u : Value) (w : World) (e : Ending) (w' : World) : Prop :=
  e = .returned (.tuple #[]) ∧ ∃ gE cE, w'.heap[g]? = some (.cells #[.slice (some ⟨gE, 0, none⟩) (E.length + 1) cE, .map (some b)] 48 (0, 0)) ∧ OwnM w' B (.slice (some ⟨gE, 0, none⟩) (E.length + 1) cE) (mE p (E ++ [c])) ∧
    (some gE = vE.ownBlock ∨ w.heap.size ≤ gE) ∧ MapN2 w' p b (n + 1) ((c, u) :: l) ∧ Turn w w' (fun k => k = g ∨ k = b ∨ some k = vE.ownBlock)

set_option maxRecDepth 100000 in
set_option maxHeartbeats 2000000 in
theorem madd_any {p : Int} {B b n g c : Nat} {vE u : Value} {E : List Nat} {l : List (Nat × Value)} (w : World) (hc : vld p c) (hE : E.length ≤ 1000) (hn : n ≤ 1000) (hBw : B ≤ w.heap.size) (hown : OwnM w B vE (mE p E)) (hm : MapN2 w p b n l)
    (hx : w.heap[g]? = some (.cells #[vE, .map (some b)] 48 (0, 0))) :
    Calls Try.prog 97 #[.pointer (some ⟨g, 0, none⟩), mv p (dcd c), u] w (RetAdd p B g b n vE E l c u w) := by
  have c0 := Joins.cell_of_block hx 0
  have c1 := Joins.cell_of_block hx 1
  have hfr := blk_free hx
  have hg : g < w.heap.size := (Array.getElem?_eq_some_iff.1 hx).1
  have hbl : b < w.heap.size := hm.1.lt
  simp only [List.getElem?_toArray, List.getElem?_cons_zero, List.getElem?_cons_succ] at c0 c1
  have HOWN := Lib.hid hown
  have HM := Lib.hid hm
  have HX := Lib.hid hx
  have HKEY := Lib.hid (key_of hc.2)
  have HC := Lib.hid hc
  clear hown hm hx hc
  simp only [mv, mcells] at HKEY ⊢
  go_enter Try.func97, Try.ntmps97
  go_wp2_with fail
  obtain ⟨wq, hwq⟩ : ∃ wq, wq = w.alloc (.cells #[.int .i64 p, .int .i64 (dcd c 0), .int .i64 (dcd c 1), .int .i64 (dcd c 2), .int .i64 (dcd c 3), .int .i64 (dcd c 4)] 31) := ⟨_, rfl⟩
  rw [← hwq]
  have hsq : wq.heap.size = w.heap.size + 1 := by rw [hwq]; simp
  have HBQ : Hid (Below w.heap.size w wq) := Lib.hid (by rw [hwq]; exact (Below.refl _ _).alloc (Nat.le_refl _) _)
  have HXQ : Hid (wq.heap[w.heap.size]? = some (.cells (mcells p (dcd c)) 31 (0, 0))) := Lib.hid (by rw [hwq]; exact halloc_at _ _ _ rfl)
  have HOQ := Lib.hid (ownM_bel HOWN.out HBQ.out)
  have HMQ := Lib.hid (mapN2_below HM.out HBQ.out)
  have HGQ : Hid (wq.heap[g]? = some (.cells #[vE, .map (some b)] 48 (0, 0))) := Lib.hid ((HBQ.out.block g hg).trans HX.out)
  have hgE : Hid (∀ r, vE.ownBlock = some r → r < w.heap.size) := Lib.hid fun r e => (HOWN.out.lt r e).2
  have hgn : Hid (some g ≠ vE.ownBlock) := Lib.hid (blk_apart (by decide) HX.out HOWN.out)
  have hbn : Hid (some b ≠ vE.ownBlock ∧ b ≠ g) := Lib.hid (by
    obtain ⟨es, clock, hbm, _⟩ := HM.out.1
    refine ⟨fun e => ?_, fun e => ?_⟩
    · rcases HOWN.out.2 with ⟨rfl, _⟩ | ⟨g2, cap, cur, rfl, _, hg2, _⟩
      · simp [Value.ownBlock] at e
      · have e' : b = g2 := by simpa [Value.ownBlock] using e
        subst e'
        rw [hbm] at hg2; cases hg2
    · subst e
      rw [HX.out] at hbm; cases hbm)
  clear hwq c0 c1 HOWN HM HX
  have c0 := Joins.cell_of_block HGQ.out 0
  have c1 := Joins.cell_of_block HGQ.out 1
  simp only [List.getElem?_toArray, List.getElem?_cons_zero, List.getElem?_cons_succ] at c0 c1
  have hgq : g < wq.heap.size := by omega
  have hBq : B ≤ wq.heap.size := by omega
  have hxq : w.heap.size < wq.heap.size := by omega
  obtain ⟨x0, x1, x2, x3, x4, x5⟩ := blk6 HXQ.out
  go_region_law (first
    | (refine step_appM rfl (.tmp 10) (.tmp 12) rfl B vE (mE p E) rfl (ownM_bel HOQ.out (by (repeat' (first | (with_reducible exact Below.refl _ _) | (with_reducible refine Below.alloc ?_ ?_ _) | (with_reducible refine Below.setCell ?_ ?_ _) | (with_reducible refine Below.drew ?_) | (with_reducible refine below_drewN ?_ _) | (with_reducible refine Below.trans ?_ (Below.mono (Hid.out (by assumption)) ?_)) | omega | (simp; done) | (simp; omega))))) _ 0 1 [(p, dcd c)] rfl (at_one (by (repeat' (first | omega | (rw [hdrew]) | (with_reducible assumption) | (with_reducible exact Hid.out (by assumption)) | (with_reducible rfl) | ((with_reducible refine halloc_at _ _ _ ?_) <;> (first | (with_reducible rfl) | omega | (simp; done))) | (with_reducible refine chain6 ?_) | (with_reducible refine Eq.trans (hset_ne _ _ _ _ ?_) ?_) | (with_reducible refine Eq.trans (halloc_lt _ _ _ ?_) ?_) | (with_reducible refine Eq.trans (Below.block (Hid.out (by assumption)) _ ?_) ?_) | (simp; done) | (simp; omega))))) (by simp only [mE_len, List.length_cons, List.length_nil]; omega) (by first | exact hBq | (simp; omega)) ?_; intro vF w1 hown1 hg1 hat1; obtain ⟨gE, cE, eE⟩ := app_form hown1 hE; subst eE; have HO1 := Lib.hid hown1; have HG1 := Lib.hid hg1; have HA1 := Lib.hid hat1; have HM1 : Hid (w1.heap[g]? = some (.cells #[vE, .map (some b)] 48 (0, 0))) := Lib.hid ((hg1.block g (by first | exact hgq | (simp; omega)) hgn.out).trans (by (repeat' (first | omega | (rw [hdrew]) | (with_reducible assumption) | (with_reducible exact Hid.out (by assumption)) | (with_reducible rfl) | ((with_reducible refine halloc_at _ _ _ ?_) <;> (first | (with_reducible rfl) | omega | (simp; done))) | (with_reducible refine chain6 ?_) | (with_reducible refine Eq.trans (hset_ne _ _ _ _ ?_) ?_) | (with_reducible refine Eq.trans (halloc_lt _ _ _ ?_) ?_) | (with_reducible refine Eq.trans (Below.block (Hid.out (by assumption)) _ ?_) ?_) | (simp; done) | (simp; omega))))); have e0 := Joins.cell_of_block HM1.out 0; have e1 := blk_free HM1.out; simp only [List.getElem?_toArray, List.getElem?_cons_zero] at e0; have hs1 := hg1.size; have HT1 : Hid (Turn wq w1 (fun k => some k = vE.ownBlock)) := Lib.hid (Turn.grown (Turn.of_below (by (repeat' (first | (with_reducible exact Below.refl _ _) | (with_reducible refine Below.alloc ?_ ?_ _) | (with_reducible refine Below.setCell ?_ ?_ _) | (with_reducible refine Below.drew ?_) | (with_reducible refine below_drewN ?_ _) | (with_reducible refine Below.trans ?_ (Below.mono (Hid.out (by assumption)) ?_)) | omega | (simp; done) | (simp; omega))))) hg1 (fun k _ e => e)); have HLOC : Hid (some gE = vE.ownBlock ∨ w.heap.size ≤ gE) := Lib.hid (by rcases hat1 with h | h; exact Or.inl h; right; simp [Value.ownBlock] at h; omega); clear hown1 hg1 hat1))
  all_goals
    have HVG : Hid (some g ≠ some gE) := Lib.hid (blk_apart (by decide) HM1.out HO1.out)
    have HO2 : Hid (OwnM (w1.setCell ⟨g, 0, none⟩ (.slice (some ⟨gE, 0, none⟩) (E.length + 1) cE)) B (.slice (some ⟨gE, 0, none⟩) (E.length + 1) cE) (mE p E ++ [(p, dcd c)])) := Lib.hid (HO1.out.kept (grown_set _ _ _ _) (Or.inr (fun e => HVG.out e.symm)))
    have HX2 : Hid ((w1.setCell ⟨g, 0, none⟩ (.slice (some ⟨gE, 0, none⟩) (E.length + 1) cE)).heap[g]? = some (.cells #[.slice (some ⟨gE, 0, none⟩) (E.length + 1) cE, .map (some b)] 48 (0, 0))) := Lib.hid (Joins.block_setCell HM1.out _)
    have HT2 : Hid (Turn wq (w1.setCell ⟨g, 0, none⟩ (.slice (some ⟨gE, 0, none⟩) (E.length + 1) cE)) (fun k => k = g ∨ some k = vE.ownBlock)) := Lib.hid ((HT1.out.mono (fun k _ h => Or.inr h)).setCell (Or.inl rfl))
    generalize w1.setCell ⟨g, 0, none⟩ (.slice (some ⟨gE, 0, none⟩) (E.length + 1) cE) = w2 at *
    clear HO1 HM1 HG1 HA1 HT1 HGQ HOQ e0 e1 c0 c1 x0 x1 x2 x3 x4 x5 hs1
    have HB2 : Hid (w2.heap[w.heap.size]? = some (.cells (mcells p (dcd c)) 31 (0, 0))) := Lib.hid (HT2.out.at_ HXQ.out (by rintro (e | e) <;> first | omega | (have := hgE.out _ e.symm; omega)))
    have HM2 := Lib.hid (HT2.out.map HMQ.out (by rintro (e | e) <;> first | exact hbn.out.2 e | exact hbn.out.1 e))
    have c1 := Joins.cell_of_block HX2.out 1
    obtain ⟨x0, x1, x2, x3, x4, x5⟩ := blk6 HB2.out
    simp only [List.getElem?_toArray, List.getElem?_cons_zero, List.getElem?_cons_succ] at c1
    have hg2 : g < w2.heap.size := by have := HT2.out.size; omega
    have HFIN : Hid (∀ w3 : World, w3.ownsMap Try.prog 31 valR b (n + 1) ((wD p l).put (kyL p (dcd c)) (.held u)) → w2.grownBy w3 (some b) → RetAdd p B g b n vE E l c u w (.returned (.tuple #[])) w3) := Lib.hid fun w3 hmap hgr => by
      refine ⟨rfl, gE, cE, (hgr.block g hg2 (fun e => hbn.out.2 (by injection e with e; exact e.symm))).trans HX2.out, ?_, HLOC.out, ⟨hmap, ?_⟩, ?_⟩
      · rw [mE_app]
        refine HO2.out.kept hgr (Or.inr fun e => ?_)
        obtain ⟨es, clock, hbm, _⟩ := HM2.out.1
        rcases HO2.out.2 with ⟨e2, _⟩ | ⟨g2, cap, cur, e2, _, hh, _⟩
        · cases e2
        · injection e2 with e2 _ _
          injection e2 with e2
          injection e2 with e2
          injection e with e
          rw [← e2, show gE = b from e, hbm] at hh
          cases hh
      · intro x hx
        rcases List.mem_cons.1 hx with e | hx
        · rw [e]; exact HC.out
        · exact HMQ.out.2 x hx
      · have h1 : Turn w w2 (fun k => k = g ∨ k = b ∨ some k = vE.ownBlock) := ⟨HT2.out.os.trans HBQ.out.os, HT2.out.tape.trans HBQ.out.tape, HT2.out.output.trans HBQ.out.output, by have := HT2.out.size; omega, fun k hk hS => (HT2.out.block k (by omega) (fun h => hS (by rcases h with h | h; exact Or.inl h; exact Or.inr (Or.inr h)))).trans (HBQ.out.block k hk)⟩
        exact h1.grown hgr (fun k _ e => Or.inr (Or.inl (by injection e)))
    clear HO2 HT2 HX2 HLOC HVG
    go_wp2_with fail
    go_still_tail 6, (by kernel_rfl)
    go_wp2_with (at_mapUpdate; (refine wpList_mapUpdate_own _ rfl _ _ _ 46 rfl 31 82 lawM Try.underlying46 valR b n (wD p l) rfl HM2.out.1 (by unfold maxLen; omega) _ _ _ rfl rfl HKEY.out (.held u) [] rfl ?_; intro w3 hmap hgr; have HF := Lib.hid (HFIN.out w3 hmap ⟨hgr.os, hgr.tape, hgr.output, hgr.size, hgr.block⟩); clear hmap hgr))
    go_end0
    exact HF.out

end Go.Proofs.Ytiogagaclhjdaaa
