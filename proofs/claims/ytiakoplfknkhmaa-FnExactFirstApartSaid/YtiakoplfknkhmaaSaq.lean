/- What spec.l07Apart keeps: pairs and words, and the places that are met. -/
import Derived.Test.YtiakoplfknkhmaaSal
import Derived.Test.YtiakoplfknkhmaaOwn
namespace Go.Proofs.Ytiakoplfknkhmaa
open Go Go.RowKit Go.Maps

/-- The pairs of a search, as rows of two numbers. -/
def prZ (Q : List ((Nat × Nat) × List Int)) : List (List Int) := Q.map fun z => [(z.1.1 : Int), (z.1.2 : Int)]

/-- Where a search for pairs stands. -/
structure ApH (wb wr : World) (P : Value) (us : List Value) (Z : List (List Int)) (W : Value) (vs : List Value) (Y : List (List Int)) (gm m n : Nat) (Q : List ((Nat × Nat) × List Int)) : Prop where
  prs : Wdz wr wb.heap.size P us Z
  wds : Wdz wr wb.heap.size W vs Y
  ne : P.ownBlock ≠ W.ownBlock
  met : MetR wr gm m n Q
  bel : Below wb.heap.size wb wr
  lo : wb.heap.size ≤ gm

abbrev ApS (wb wr : World) (P : Value) (us : List Value) (W : Value) (vs : List Value) (gm m n : Nat) (Q : List ((Nat × Nat) × List Int)) : Prop :=
  ApH wb wr P us (prZ Q) W vs (Q.map Prod.snd) gm m n Q

/-- What the search answers: the word, and whether there is one. -/
def RetAp (o : Option (List Int)) (w : World) (e : Ending) (w' : World) : Prop :=
  ∃ a c, e = .returned (.tuple #[.slice a (waW o).length c, .bool o.isSome]) ∧ Rd w' w.heap.size a (waW o) ∧ Below w.heap.size w w'

theorem make_bools (n : Nat) (hn : n < 26) (w : World) :
    (Instr.makeSlice 89 (.int .i64 (n : Int)) (.int .i64 (n : Int))).run Try.prog w = .ok (.slice (some ⟨w.heap.size, 0, none⟩) n n) (w.alloc (.cells (Array.replicate n (.bool false)) 4)) := by
  rcases (by omega : n = 0 ∨ n = 1 ∨ n = 2 ∨ n = 3 ∨ n = 4 ∨ n = 5 ∨ n = 6 ∨ n = 7 ∨ n = 8 ∨ n = 9 ∨ n = 10 ∨ n = 11 ∨ n = 12 ∨ n = 13 ∨ n = 14 ∨ n = 15 ∨ n = 16 ∨ n = 17 ∨ n = 18 ∨ n = 19 ∨ n = 20 ∨ n = 21 ∨ n = 22 ∨ n = 23 ∨ n = 24 ∨ n = 25) with rfl | rfl | rfl | rfl | rfl | rfl | rfl | rfl | rfl | rfl | rfl | rfl | rfl | rfl | rfl | rfl | rfl | rfl | rfl | rfl | rfl | rfl | rfl | rfl | rfl | rfl <;> kernel_rfl

theorem Wdz.kept {w w' : World} {B : Nat} {v P : Value} {us ps : List Value} {W Z : List (List Int)} (h : Wdz w B v us W) (hp : Wdz w B P ps Z) (hg : w.grownBy w' P.ownBlock) (hne : P.ownBlock ≠ v.ownBlock) : Wdz w' B v us W :=
  ⟨World.ownsRow.kept h.own hg (Or.inr (Ne.symm hne)), fun j hj => World.ownsRow.kept (h.row j hj) hg (by
    cases e : Value.ownBlock _ with
    | none => exact Or.inl rfl
    | some r => exact Or.inr fun e2 => own_tne (by decide) (h.row j hj) hp.own r e e2.symm)⟩

theorem MetR.kept {w w' : World} {g m n B : Nat} {Q : List ((Nat × Nat) × List Int)} {P : Value} {ps : List Value} {Z : List (List Int)} (h : MetR w g m n Q) (hp : Wdz w B P ps Z) (hg : w.grownBy w' P.ownBlock) : MetR w' g m n Q := by
  have hl : g < w.heap.size := by
    obtain ⟨C, h1, _⟩ := h
    exact (Array.getElem?_eq_some_iff.1 h1).1
  exact h.same (hg.block g hl (fun e => metR_ne (by decide) h hp.own e.symm))

theorem Wdz.setB {w : World} {B : Nat} {v : Value} {us : List Value} {W : List (List Int)} (h : Wdz w B v us W) {g m n : Nat} {Q : List ((Nat × Nat) × List Int)} (hm : MetR w g m n Q) (c : Nat) (x : Value) : Wdz (w.setCell ⟨g, c, none⟩ x) B v us W := by
  have ht : Turn w (w.setCell ⟨g, c, none⟩ x) (fun r => r = g) := Turn.setCell (Turn.of_below (Below.refl _ _)) rfl
  refine h.turn ht (fun r e e2 => ?_) (fun j hj r e e2 => ?_)
  · have e2 : r = g := e2
    subst e2
    exact metR_ne (by decide) hm h.own e
  · have e2 : r = g := e2
    subst e2
    exact metR_ne (by decide) hm (h.row j hj) e

section
variable {wb wr w' : World} {P W : Value} {us vs : List Value} {Z Y : List (List Int)} {gm m n : Nat} {Q : List ((Nat × Nat) × List Int)}

theorem MetR.lt (h : MetR wr gm m n Q) : gm < wr.heap.size := by
  obtain ⟨C, h1, _⟩ := h
  exact (Array.getElem?_eq_some_iff.1 h1).1

theorem ApH.below (h : ApH wb wr P us Z W vs Y gm m n Q) (hb : Below wr.heap.size wr w') : ApH wb w' P us Z W vs Y gm m n Q :=
  ⟨h.prs.below hb, h.wds.below hb, h.ne, h.met.same (hb.block _ h.met.lt), h.bel.trans (hb.mono h.bel.size), h.lo⟩

theorem ApH.mark (h : ApH wb wr P us Z W vs Y gm m n Q) (hm : 0 < m) {x y : Nat} (hy : y < m) (hn : x * m + y < n) (wd : List Int) : ApH wb (wr.setCell ⟨gm, x * m + y, none⟩ (.bool true)) P us Z W vs Y gm m n (Q ++ [((x, y), wd)]) :=
  ⟨h.prs.setB h.met _ _, h.wds.setB h.met _ _, h.ne, h.met.set hm hy hn wd, h.bel.setCell h.lo _, h.lo⟩

theorem ApH.appP (h : ApH wb wr P us Z W vs Y gm m n Q) {P' : Value} {us' : List Value} {Z' : List (List Int)} (hw : Wdz w' wb.heap.size P' us' Z') (hg : wr.grownBy w' P.ownBlock) (ho : P'.ownBlock = P.ownBlock ∨ P'.ownBlock = some wr.heap.size) :
    ApH wb w' P' us' Z' W vs Y gm m n Q := by
  refine ⟨hw, h.wds.kept h.prs hg h.ne, ?_, h.met.kept h.prs hg, h.bel.grown hg h.bel.size (fun r e => (World.ownsRow.lt h.prs.own r e).1), h.lo⟩
  rcases ho with e | e
  · rw [e]; exact h.ne
  · intro e2
    rw [e] at e2
    have := (World.ownsRow.lt h.wds.own _ e2.symm).2
    omega

theorem ApH.appW (h : ApH wb wr P us Z W vs Y gm m n Q) {W' : Value} {vs' : List Value} {Y' : List (List Int)} (hw : Wdz w' wb.heap.size W' vs' Y') (hg : wr.grownBy w' W.ownBlock) (ho : W'.ownBlock = W.ownBlock ∨ W'.ownBlock = some wr.heap.size) :
    ApH wb w' P us Z W' vs' Y' gm m n Q := by
  refine ⟨h.prs.kept h.wds hg (Ne.symm h.ne), hw, ?_, h.met.kept h.wds hg, h.bel.grown hg h.bel.size (fun r e => (World.ownsRow.lt h.wds.own r e).1), h.lo⟩
  rcases ho with e | e
  · rw [e]; exact h.ne
  · intro e2
    rw [e] at e2
    have := (World.ownsRow.lt h.prs.own _ e2).2
    omega
end

theorem own_oneCell {w : World} {B : Nat} {v : Value} {L : List Int} (h : Own w B v L) : v.oneCell' = true := by
  rcases own_shape h with ⟨rfl, _⟩ | ⟨_, _, rfl, _, _⟩ <;> rfl

theorem prZ_snoc (Q : List ((Nat × Nat) × List Int)) (x y : Nat) (wd : List Int) : prZ (Q ++ [((x, y), wd)]) = prZ Q ++ [[(x : Int), (y : Int)]] := by
  unfold prZ; rw [List.map_append]; rfl

theorem sndZ_snoc (Q : List ((Nat × Nat) × List Int)) (z : Nat × Nat) (wd : List Int) : (Q ++ [(z, wd)]).map Prod.snd = Q.map Prod.snd ++ [wd] := by
  rw [List.map_append]; rfl

theorem apart_at {L M : List MapN} {S T : List Int} {x y j : Nat} (hj25 : j ≤ 25) {z : (Nat × Nat) × List Int} (hgj : (brun (nxQ L M) L.length (x, y) j)[j]? = some z)
    (hno : ∀ i zz, i < j → (brun (nxQ L M) L.length (x, y) j)[i]? = some zz → accQ S T zz.1 = false) (h : accQ S T z.1 = true) : aprt L S M T x y = some z.2 := by
  have hg := brun_le (nxQ L M) L.length (x, y) hj25
  unfold aprt rchQ
  generalize brun (nxQ L M) L.length (x, y) 25 = R at hg ⊢
  refine bfirst_at (hg.at hgj) h (fun i u hi hz => ?_)
  have hlt : i < (brun (nxQ L M) L.length (x, y) j).length := by have := (List.getElem?_eq_some_iff.1 hgj).1; omega
  have h1 := List.getElem?_eq_getElem hlt
  have h2 := hg.at h1
  rw [h2] at hz
  injection hz with hz
  rw [← hz]
  exact hno i _ hi h1

theorem apart_no {L M : List MapN} {S T : List Int} {x y j : Nat} {z : (Nat × Nat) × List Int} (hgj : (brun (nxQ L M) L.length (x, y) j)[j]? = some z)
    (hno : ∀ i zz, i < j → (brun (nxQ L M) L.length (x, y) j)[i]? = some zz → accQ S T zz.1 = false) (h : accQ S T z.1 = false) : ∀ i zz, i < j + 1 → (brun (nxQ L M) L.length (x, y) (j + 1))[i]? = some zz → accQ S T zz.1 = false := by
  intro i u hi hz
  have hlt : i < (brun (nxQ L M) L.length (x, y) j).length := by have := (List.getElem?_eq_some_iff.1 hgj).1; omega
  have h1 := List.getElem?_eq_getElem hlt
  have h2 := (brun_le (nxQ L M) L.length (x, y) (Nat.le_succ j)).at h1
  rw [h2] at hz
  injection hz with hz
  rw [← hz]
  rcases Nat.lt_succ_iff_lt_or_eq.1 hi with h3 | h3
  · exact hno i _ h3 h1
  · subst h3
    rw [h1] at hgj
    injection hgj with hgj
    rw [hgj]; exact h

theorem apart_none {L M : List MapN} {S T : List Int} {x y j : Nat} (hj : j ≤ 25) (hl : (brun (nxQ L M) L.length (x, y) j).length ≤ j)
    (hno : ∀ i zz, i < j → (brun (nxQ L M) L.length (x, y) j)[i]? = some zz → accQ S T zz.1 = false) : aprt L S M T x y = none := by
  unfold aprt rchQ
  rw [brun_stops (m := 25) hl hj]
  refine bfirst_none (fun i z hz => ?_)
  exact hno i z (by have := (List.getElem?_eq_some_iff.1 hz).1; omega) hz

end Go.Proofs.Ytiakoplfknkhmaa
