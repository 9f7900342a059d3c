/- A range over an iterator that does not end by itself and keeps a state of its own in memory: the loop's body ends it within N rounds. -/
import Derived.RangeFuncNested
import Derived.RangeFuncBound
import Derived.RangeFuncCalls
import Derived.RangeFuncLeaves
import Derived.Shelf.Abstract
import Derived.Shelf.RegionOpen
import Derived.WalkKit
import Derived.OwnWalkIn
import Derived.TacticsInMore
import Derived.LoopNIn
import Derived.LoopIn
namespace Go.Proofs.Ythblbamiammodaa
open Go Go.RowKit

/-- The blocks of K, and what lay from B on, lie as they lay. -/
structure Kept (K : Nat → Prop) (B : Nat) (W W' : World) : Prop where
  size : W.heap.size ≤ W'.heap.size
  kept : ∀ b, K b → W'.heap[b]? = W.heap[b]?
  rest : ∀ b, B ≤ b → b < W.heap.size → W'.heap[b]? = W.heap[b]?

theorem Kept.refl (K : Nat → Prop) (B : Nat) (W : World) : Kept K B W W := ⟨Nat.le_refl _, fun _ _ => rfl, fun _ _ _ => rfl⟩

theorem Kept.mono {K : Nat → Prop} {B B' : Nat} {W W' : World} (h : Kept K B W W') (hB : B ≤ B') : Kept K B' W W' := ⟨h.size, h.kept, fun b h1 h2 => h.rest b (Nat.le_trans hB h1) h2⟩

theorem Kept.trans {K : Nat → Prop} {B : Nat} {X Y Z : World} (h : Kept K B X Y) (k : Kept K B Y Z) : Kept K B X Z :=
  ⟨Nat.le_trans h.size k.size, fun b hb => (k.kept b hb).trans (h.kept b hb), fun b h1 h2 => (k.rest b h1 (Nat.lt_of_lt_of_le h2 h.size)).trans (h.rest b h1 h2)⟩

theorem Kept.of {K : Nat → Prop} {B : Nat} {W W' : World} (h : Below W.heap.size W W') (hK : ∀ b, K b → b < W.heap.size) : Kept K B W W' := ⟨h.size, fun b hb => h.block b (hK b hb), fun b _ h2 => h.block b h2⟩

/-- J stays whatever turns from B on. -/
def AbidesAll {β : Type} (B : Nat) (J : β → World → Prop) : Prop := ∀ s X Y row, J s X → X.grownBy Y row → (∀ r, row = some r → B ≤ r) → J s Y

theorem AbidesAll.alloc {β : Type} {B : Nat} {J : β → World → Prop} (h : AbidesAll B J) {s : β} {W : World} (o : Obj) (hs : J s W) : J s (W.alloc o) := h s W _ none hs (World.grownBy_alloc W o none) (fun r e => by cases e)

theorem AbidesAll.put {β : Type} {B : Nat} {J : β → World → Prop} (h : AbidesAll B J) {s : β} {W : World} {l : Nat} (o : Obj) (hs : J s W) (hl : B ≤ l) : J s (W.putObj l o) := h s W _ (some l) hs (grownBy_putObj' W l o) (fun r e => by cases e; exact hl)

theorem grown_at {A B : World} {row : Option Nat} {m k : Nat} {o : Obj} (hg : A.grownBy B row) (hr : ∀ r, row = some r → m ≤ r) (hk : k < m) (h : A.heap[k]? = some o) : B.heap[k]? = some o :=
  (hg.block k (Array.getElem?_eq_some_iff.1 h).1 (fun e => by have := hr k e.symm; omega)).trans h

/-- What an iterator does that hands out enc 0, enc 1, .. for as long as rounds go on: J tells what holds between two rounds, and J is not kept for N rounds. -/
def Endless (F : Fence) (n : Nat) (P : Program) (g : Nat) (lb : Array Value) (encs : Nat → Array Value) (K : Nat → Prop) (N : Nat) (w : World) : Prop :=
  ∀ (l : Nat) (J : Nat → World → Prop) (Jx : Unit → World → Prop) (W : World), Below w.heap.size w W → AbidesAll W.heap.size J → AbidesAll W.heap.size Jx →
    (∀ k W1, J k W1 → k < N) →
    (∀ k W1, J k W1 → YieldAt F (n - 1) P l (encs k) W1 fun e W' => (e = .returned (.bool true) ∧ J (k + 1) W' ∧ Kept K W.heap.size W1 W') ∨ (e = .returned (.bool false) ∧ Jx () W')) →
    J 0 W → CallsIn F n P g (#[.func (.yield l) #[] #[]] ++ lb) W fun e W' => (∃ v, e = .returned v) ∧ Jx () W'

/-- How a round may be left: it goes on, or it breaks. -/
def endPost (B : Nat) (K : Nat → Prop) (I Ix : World → Prop) (id : Nat) (W : World) : Exit → Act → World → Prop
  | .normal, _, W' => Kept K B W W' ∧ I W'
  | .exit i, _, W' => i = id ∧ (∀ b, B ≤ b → b < W.heap.size → W'.heap[b]? = W.heap[b]?) ∧ Ix W'
  | _, _, _ => False

variable {F : Fence} {n : Nat} {P : Program}

theorem range_endless {g : Operand} {ps : Array Tmp} {assign body : Code} {Q : Exit → Act → World → Prop} {a : Act} {w : World}
    (hro : F.round = none) (h1 : 1 ≤ n) {gf : Nat} {lb : Array Value} (hg : a.eval g = .func (.func gf) #[] lb) (hFg : F.fn gf) (eg : ∀ args w, (callFunc gf args).run P w = .ok (.enter gf args) w)
    {encs : Nat → Array Value} {K : Nat → Prop} {N id : Nat} {w0 : World} (hseq : Endless F (n - 1) P gf lb encs K N w0) (hKw : ∀ b, K b → b < w.heap.size) (hb0 : Below w0.heap.size w0 w) (hps : ∀ k, (encs k).size = ps.size)
    (I : Nat → World → Prop) (Ix : Unit → World → Prop) (hI : AbidesAll w.heap.size I) (hIx : AbidesAll w.heap.size Ix) (h0 : I 0 w) (hN : ∀ k W, I k W → k < N)
    (Ax : Nat → Act → World → Prop) (hAx : ∀ k a', OwnFrom w.heap.size (fun (_ : Unit) W => Ax k a' W))
    (hassign : ∀ (l k : Nat) (W : World) (Kx : Act → World → Prop), I k W → w.heap.size + 1 < W.heap.size → (∀ a' W', Kept K w.heap.size W W' → I k W' → Ax k a' W' → Kx a' W') →
      assign.wpIn (F.inRound l) (n - 1 - 1) P (Exit.then Kx (fun _ _ _ => False)) { tmps := (ps.zip (encs k)).foldl (fun t (p, v) => t.setIfInBounds p v) a.tmps, defers := [] } W)
    (hbody : ∀ (l k : Nat) (a' : Act) (W : World), I k W → Ax k a' W → w.heap.size + 1 < W.heap.size → body.wpIn (F.inRound l) (n - 1 - 1) P (endPost w.heap.size K (I (k + 1)) (Ix ()) id W) a' W)
    (hstop : ∀ (D : Nat) (W : World), w.heap.size ≤ D → Ix () W → W.heap[D]? = some (.deferred (some [])) → (Code.exit id).wpIn F n P Q { a with defers := { target := .collected D, args := #[] } :: a.defers } W) :
    (Code.rangeFunc g ps assign body).wpIn F n P Q a w := by
  refine wpIn_rangeFunc ?_
  intro fn hfn
  rw [hro]
  -- the loop's record, and the two blocks of book-keeping that the loop lays: the deferred calls, then the record
  let rc : LoopState → Option Code → Loop := fun st pe => { state := st, pending := pe, fn, tmps := a.tmps, params := ps, assign, body, defers := w.heap.size }
  have hD : ∀ X : World, X = (w.alloc (.deferred (some []))).alloc (.loop (rc .ready none)) → X.heap[w.heap.size + 1]? = some (.loop (rc .ready none)) ∧ X.heap[w.heap.size]? = some (.deferred (some [])) := fun X e => by
    subst e
    have h1 := World.alloc_heap_new (w.alloc (.deferred (some []))) (.loop (rc .ready none))
    rw [World.size_alloc] at h1
    exact ⟨h1, (Below.heap_alloc _ _ _ (by simp)).trans (World.alloc_heap_new w _)⟩
  generalize hX : (w.alloc (.deferred (some []))).alloc (.loop (rc .ready none)) = X at hD
  obtain ⟨hL, hK0⟩ := hD X rfl
  have hIX : I 0 X := by rw [← hX]; exact hI.alloc _ (hI.alloc _ h0)
  have hsX : X.heap.size = w.heap.size + 1 + 1 := by rw [← hX]; simp
  have hbX : Below w0.heap.size w0 X := by
    rw [← hX]
    exact hb0.trans ((((Below.refl _ w).alloc (Nat.le_refl _) _).alloc (by simp) _).mono hb0.size)
  have hput : ∀ (W : World) (o o' : Obj), W.heap[w.heap.size + 1]? = some o → Kept K X.heap.size W (W.putObj (w.heap.size + 1) o') := fun W o o' h =>
    ⟨by simp, fun b hb => World.putObj_heap_other (by have := hKw b hb; omega), fun b h1 _ => World.putObj_heap_other (by omega)⟩
  refine ⟨w.heap.size + 1, [{ target := .collected w.heap.size, args := #[] }], X, { target := .fn (.func gf) lb, args := #[.func (.yield (w.heap.size + 1)) #[] #[]] }, X, gf,
    #[.func (.yield (w.heap.size + 1)) #[] #[]] ++ lb, X, ?_, ?_, ?_, ?_, fun _ => h1, ?_⟩
  · rw [← hX]; exact run_enterLoop_outer _ _ _ _ _
  · simp only [resolve, hg]
    simp [go_sem]
  · intro f' hf'; simp [Target.leads] at hf'; subst hf'; exact hFg
  · simp [invoke, go_sem, eg]
  · have hle : w.heap.size ≤ X.heap.size := by omega
    refine (hseq (w.heap.size + 1)
      (fun k W => I k W ∧ W.heap[w.heap.size + 1]? = some (.loop (rc .ready none)) ∧ W.heap[w.heap.size]? = some (.deferred (some [])))
      (fun _ W => Ix () W ∧ W.heap[w.heap.size + 1]? = some (.loop (rc .done (some (.exit id)))) ∧ W.heap[w.heap.size]? = some (.deferred (some [])))
      X hbX
      (fun s A B row hs hg' hr => ⟨hI s A B row hs.1 hg' (fun r e => Nat.le_trans hle (hr r e)), grown_at hg' hr (by omega) hs.2.1, grown_at hg' hr (by omega) hs.2.2⟩)
      (fun s A B row hs hg' hr => ⟨hIx s A B row hs.1 hg' (fun r e => Nat.le_trans hle (hr r e)), grown_at hg' hr (by omega) hs.2.1, grown_at hg' hr (by omega) hs.2.2⟩)
      (fun k W1 h => hN k W1 h.1) ?_ ⟨hIX, hL, hK0⟩).mono ?_
    · rintro k W ⟨hi, hl, hk⟩
      have hltW : w.heap.size + 1 < W.heap.size := (Array.getElem?_eq_some_iff.1 hl).1
      refine ⟨fn, _, assign, body, run_yield (P := P) (args := encs k) hl (hps k), roundIn_of_wpIn hfn (hassign _ k W _ hi hltW ?_)⟩
      intro a' V hkv hiv hax
      have hl := (hkv.rest _ (by omega) hltW).trans hl
      have hk := (hkv.rest _ (Nat.le_refl _) (by omega)).trans hk
      have hlt : w.heap.size + 1 < V.heap.size := (Array.getElem?_eq_some_iff.1 hl).1
      refine ⟨_, run_beginRound hl rfl, ?_⟩
      have hl2 : (V.putObj (w.heap.size + 1) (.loop (rc .busy none))).heap[w.heap.size + 1]? = some (.loop (rc .busy none)) := World.putObj_heap_same hlt
      have hk2 : (V.putObj (w.heap.size + 1) (.loop (rc .busy none))).heap[w.heap.size]? = some (.deferred (some [])) := (World.putObj_heap_other (by omega)).trans hk
      have hlt2 : w.heap.size + 1 < (V.putObj (w.heap.size + 1) (.loop (rc .busy none))).heap.size := (Array.getElem?_eq_some_iff.1 hl2).1
      refine wpIn_mono (hbody _ k a' _ (hI.put _ hiv (by omega)) ((hAx k a').putObj (s := ()) _ hax (by omega) hl rfl) hlt2) ?_
      rintro e a3 W3 hp
      cases e with
      | normal =>
        obtain ⟨hk3, hi3⟩ := hp
        have hl3 := (hk3.rest _ (by omega) hlt2).trans hl2
        have hd3 := (hk3.rest _ (Nat.le_refl _) (Nat.lt_of_succ_lt hlt2)).trans hk2
        refine ⟨_, _, run_endRound (P := P) none hl3, .inl ⟨rfl, ⟨hI.put _ hi3 (by omega), World.putObj_heap_same (Array.getElem?_eq_some_iff.1 hl3).1, (World.putObj_heap_other (by omega)).trans hd3⟩, ?_⟩⟩
        exact (((hkv.mono hle).trans (hput _ _ _ hl)).trans (hk3.mono hle)).trans (hput _ _ _ hl3)
      | exit i =>
        obtain ⟨rfl, hk3, hi3⟩ := hp
        have hl3 := (hk3 _ (by omega) hlt2).trans hl2
        have hd3 := (hk3 _ (Nat.le_refl _) (Nat.lt_of_succ_lt hlt2)).trans hk2
        exact ⟨_, _, run_endRound (P := P) (some (.exit i)) hl3, .inr ⟨rfl, hIx.put _ hi3 (by omega), World.putObj_heap_same (Array.getElem?_eq_some_iff.1 hl3).1, (World.putObj_heap_other (by omega)).trans hd3⟩⟩
      | ret => exact hp.elim
      | goto t => exact hp.elim
      | panic ch => exact hp.elim
      | outgrown => exact hp.elim
    · rintro e W2 ⟨⟨v, rfl⟩, hi, hl, hk⟩
      exact ⟨some (.exit id), _, run_endLoop (P := P) hl (by simp [rc]), hstop _ _ (Nat.le_refl _) (hIx.put _ hi (by omega)) ((World.putObj_heap_other (by omega)).trans hk)⟩

end Go.Proofs.Ythblbamiammodaa
