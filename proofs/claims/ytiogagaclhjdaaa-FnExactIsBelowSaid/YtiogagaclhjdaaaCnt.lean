/- A range over an iterator that hands out a certain number of values and may keep blocks of its own, and whose loop's body always goes on and touches none of these. -/
import Derived.Test.YtiogagaclhjdaaaEnd
namespace Go.Proofs.Ytiogagaclhjdaaa
open Go Go.RowKit

/-- J stays when a block turns that lies from B on and is not the body's. -/
def Abs (B : Nat) (J : Nat → List Nat → World → Prop) : Prop := ∀ k S X Y row, J k S X → X.grownBy Y row → (∀ r, row = some r → B ≤ r ∧ r ∈ S) → J k S Y

/-- A new block is not the body's. -/
def Fresh (J : Nat → List Nat → World → Prop) : Prop := ∀ k S X Y b, J k S X → X.grownBy Y none → X.heap.size ≤ b → b < Y.heap.size → J k (b :: S) Y

theorem Abs.grown {B : Nat} {J : Nat → List Nat → World → Prop} (h : Abs B J) {k : Nat} {S : List Nat} {X Y : World} (hs : J k S X) (hg : X.grownBy Y none) : J k S Y := h k S X Y none hs hg (fun r e => by cases e)
theorem Abs.put {B : Nat} {J : Nat → List Nat → World → Prop} (h : Abs B J) {k : Nat} {S : List Nat} {W : World} {l : Nat} (o : Obj) (hs : J k S W) (hl : B ≤ l) (hS : l ∈ S) : J k S (W.putObj l o) := h k S W _ (some l) hs (grownBy_putObj' W l o) (fun r e => by cases e; exact ⟨hl, hS⟩)

/-- What an iterator does that hands out enc 0, .., enc (N - 1): J tells what holds between two rounds. -/
def Counted (F : Fence) (n : Nat) (P : Program) (g : Nat) (lb : Array Value) (encs : Nat → Array Value) (S0 : List Nat) (N : Nat) (w : World) : Prop :=
  ∀ (l : Nat) (J : Nat → List Nat → World → Prop) (S1 : List Nat) (W : World), Below w.heap.size w W → Abs W.heap.size J → Fresh J → (∀ b, b ∈ S0 → b ∈ S1) →
    (∀ k S W1, k < N → J k S W1 → YieldAt F (n - 1) P l (encs k) W1 fun e W' => e = .returned (.bool true) ∧ J (k + 1) S W' ∧ W1.heap.size ≤ W'.heap.size ∧ ∀ b, b ∈ S → b < W1.heap.size → W'.heap[b]? = W1.heap[b]?) →
    J 0 S1 W → CallsIn F n P g (#[.func (.yield l) #[] #[]] ++ lb) W fun e W' => (∃ v, e = .returned v) ∧ ∃ S, J N S W'

/-- A round goes on. -/
def goPost (S : List Nat) (I : World → Prop) (W : World) : Exit → Act → World → Prop
  | .normal, _, W' => W.heap.size ≤ W'.heap.size ∧ (∀ b, b ∈ S → b < W.heap.size → W'.heap[b]? = W.heap[b]?) ∧ I W'
  | _, _, _ => False

variable {F : Fence} {n : Nat} {P : Program}

theorem range_counted {g : Operand} {ps : Array Tmp} {assign body : Code} {Q : Exit → Act → World → Prop} {a : Act} {w : World}
    (hro : F.round = none) (h1 : 1 ≤ n) {gf : Nat} {lb : Array Value} (hg : a.eval g = .func (.func gf) #[] lb) (hFg : F.fn gf) (eg : ∀ args w, (callFunc gf args).run P w = .ok (.enter gf args) w)
    {encs : Nat → Array Value} {S0 : List Nat} {N : Nat} {w0 : World} (hseq : Counted F (n - 1) P gf lb encs S0 N w0) (hb0 : Below w0.heap.size w0 w) (hps : ∀ k, (encs k).size = ps.size)
    (I : Nat → List Nat → World → Prop) (hI : Abs w.heap.size I) (hIf : Fresh I) (h0 : I 0 S0 w)
    (Ax : Nat → Act → World → Prop) (hAx : ∀ k a', OwnFrom w.heap.size (fun (_ : Unit) W => Ax k a' W))
    (hassign : ∀ (l k : Nat) (S : List Nat) (W : World) (Kx : Act → World → Prop), k < N → I k S W → w.heap.size + 1 < W.heap.size → (∀ a' W', W.grownBy W' none → Ax k a' W' → Kx a' W') →
      assign.wpIn (F.inRound l) (n - 1 - 1) P (Exit.then Kx (fun _ _ _ => False)) { tmps := (ps.zip (encs k)).foldl (fun t (p, v) => t.setIfInBounds p v) a.tmps, defers := [] } W)
    (hbody : ∀ (l k : Nat) (S : List Nat) (a' : Act) (W : World), k < N → I k S W → Ax k a' W → w.heap.size + 1 < W.heap.size → body.wpIn (F.inRound l) (n - 1 - 1) P (goPost S (I (k + 1) S) W) a' W)
    (hdone : ∀ (D : Nat) (S : List Nat) (W : World), w.heap.size ≤ D → I N S W → D ∈ S → W.heap[D]? = some (.deferred (some [])) → Q .normal { a with defers := { target := .collected D, args := #[] } :: a.defers } W) :
    (Code.rangeFunc g ps assign body).wpIn F n P Q a w := by
  refine wpIn_rangeFunc ?_
  intro fn hfn
  rw [hro]
  let rc : LoopState → Option Code → Loop := fun st pe => { state := st, pending := pe, fn, tmps := a.tmps, params := ps, assign, body, defers := w.heap.size }
  have hD : ∀ X : World, X = (w.alloc (.deferred (some []))).alloc (.loop (rc .ready none)) → X.heap[w.heap.size + 1]? = some (.loop (rc .ready none)) ∧ X.heap[w.heap.size]? = some (.deferred (some [])) := fun X e => by
    subst e
    have h1 := World.alloc_heap_new (w.alloc (.deferred (some []))) (.loop (rc .ready none))
    rw [World.size_alloc] at h1
    exact ⟨h1, (Below.heap_alloc _ _ _ (by simp)).trans (World.alloc_heap_new w _)⟩
  generalize hX : (w.alloc (.deferred (some []))).alloc (.loop (rc .ready none)) = X at hD
  obtain ⟨hL, hK0⟩ := hD X rfl
  have hIX : I 0 ((w.heap.size + 1) :: w.heap.size :: S0) X := by
    rw [← hX]
    exact hIf _ _ _ _ _ (hIf _ _ _ _ _ h0 (World.grownBy_alloc w _ none) (Nat.le_refl _) (by simp)) (World.grownBy_alloc _ _ none) (by simp) (by simp)
  have hsX : X.heap.size = w.heap.size + 1 + 1 := by rw [← hX]; simp
  have hbX : Below w0.heap.size w0 X := by
    rw [← hX]
    exact hb0.trans ((((Below.refl _ w).alloc (Nat.le_refl _) _).alloc (by simp) _).mono hb0.size)
  refine ⟨w.heap.size + 1, [{ target := .collected w.heap.size, args := #[] }], X, { target := .fn (.func gf) lb, args := #[.func (.yield (w.heap.size + 1)) #[] #[]] }, X, gf,
    #[.func (.yield (w.heap.size + 1)) #[] #[]] ++ lb, X, ?_, ?_, ?_, ?_, fun _ => h1, ?_⟩
  · rw [← hX]; exact run_enterLoop_outer _ _ _ _ _
  · simp only [resolve, hg]
    simp [go_sem]
  · intro f' hf'; simp [Target.leads] at hf'; subst hf'; exact hFg
  · simp [invoke, go_sem, eg]
  · have hle : w.heap.size ≤ X.heap.size := by omega
    refine (hseq (w.heap.size + 1)
      (fun k S W => I k S W ∧ (w.heap.size + 1 ∈ S ∧ w.heap.size ∈ S) ∧ W.heap[w.heap.size + 1]? = some (.loop (rc .ready none)) ∧ W.heap[w.heap.size]? = some (.deferred (some [])))
      ((w.heap.size + 1) :: w.heap.size :: S0) X hbX
      (fun k S A B row hs hg' hr => ⟨hI k S A B row hs.1 hg' (fun r e => ⟨Nat.le_trans hle (hr r e).1, (hr r e).2⟩), hs.2.1, grown_at hg' (fun r e => (hr r e).1) (by omega) hs.2.2.1, grown_at hg' (fun r e => (hr r e).1) (by omega) hs.2.2.2⟩)
      (fun k S A B b hs hg' hb hbB => ⟨hIf k S A B b hs.1 hg' hb hbB, ⟨List.mem_cons_of_mem _ hs.2.1.1, List.mem_cons_of_mem _ hs.2.1.2⟩, grown_at (m := A.heap.size) hg' (fun r e => by cases e) (Array.getElem?_eq_some_iff.1 hs.2.2.1).1 hs.2.2.1, grown_at (m := A.heap.size) hg' (fun r e => by cases e) (Array.getElem?_eq_some_iff.1 hs.2.2.2).1 hs.2.2.2⟩)
      (fun b hb => List.mem_cons_of_mem _ (List.mem_cons_of_mem _ hb))
      ?_ ⟨hIX, ⟨by simp, by simp⟩, hL, hK0⟩).mono ?_
    · rintro k S W hkN ⟨hi, ⟨hS1, hS0⟩, hl, hk⟩
      have hltW : w.heap.size + 1 < W.heap.size := (Array.getElem?_eq_some_iff.1 hl).1
      refine ⟨fn, _, assign, body, run_yield (P := P) (args := encs k) hl (hps k), roundIn_of_wpIn hfn (hassign _ k S W _ hkN hi hltW ?_)⟩
      intro a' V hkv hax
      have hiv := hI.grown hi hkv
      have hlV := (hkv.block _ hltW (fun e => by cases e)).trans hl
      have hkV := (hkv.block _ (by omega) (fun e => by cases e)).trans hk
      have hlt : w.heap.size + 1 < V.heap.size := (Array.getElem?_eq_some_iff.1 hlV).1
      refine ⟨_, run_beginRound hlV rfl, ?_⟩
      have hl2 : (V.putObj (w.heap.size + 1) (.loop (rc .busy none))).heap[w.heap.size + 1]? = some (.loop (rc .busy none)) := World.putObj_heap_same hlt
      have hk2 : (V.putObj (w.heap.size + 1) (.loop (rc .busy none))).heap[w.heap.size]? = some (.deferred (some [])) := (World.putObj_heap_other (by omega)).trans hkV
      have hlt2 : w.heap.size + 1 < (V.putObj (w.heap.size + 1) (.loop (rc .busy none))).heap.size := (Array.getElem?_eq_some_iff.1 hl2).1
      have hszp : ∀ (V : World) (b : Nat) (o : Obj), (V.putObj b o).heap.size = V.heap.size := fun V b o => by simp
      have hs1 := hkv.size
      refine wpIn_mono (hbody _ k S a' _ hkN (hI.put _ hiv (by omega) hS1) ((hAx k a').putObj (s := ()) _ hax (by omega) hlV rfl) hlt2) ?_
      rintro e a3 W3 hp
      cases e with
      | normal =>
        obtain ⟨hz3, hk3, hi3⟩ := hp
        have hl3 := (hk3 _ hS1 hlt2).trans hl2
        have hd3 := (hk3 _ hS0 (Nat.lt_of_succ_lt hlt2)).trans hk2
        have hlt3 := (Array.getElem?_eq_some_iff.1 hl3).1
        have hz4 : V.heap.size ≤ W3.heap.size := Nat.le_trans (Nat.le_of_eq (hszp V _ _).symm) hz3
        refine ⟨_, _, run_endRound (P := P) none hl3, rfl, ⟨hI.put _ hi3 (by omega) hS1, ⟨hS1, hS0⟩, World.putObj_heap_same hlt3, (World.putObj_heap_other (by omega)).trans hd3⟩, ?_, fun b hb hbW => ?_⟩
        · exact Nat.le_trans (Nat.le_trans hs1 hz4) (Nat.le_of_eq (hszp _ _ _).symm)
        · by_cases eb : b = w.heap.size + 1
          · rw [eb, hl]
            exact World.putObj_heap_same hlt3
          · refine (World.putObj_heap_other eb).trans ((hk3 b hb (Nat.lt_of_lt_of_le (Nat.lt_of_lt_of_le hbW hs1) (Nat.le_of_eq (hszp _ _ _).symm))).trans ((World.putObj_heap_other eb).trans ?_))
            exact hkv.block b hbW (fun e => by cases e)
      | exit i => exact hp.elim
      | ret => exact hp.elim
      | goto t => exact hp.elim
      | panic ch => exact hp.elim
      | outgrown => exact hp.elim
    · rintro e W2 ⟨⟨v, rfl⟩, S, hi, ⟨hS1, hS0⟩, hl, hk⟩
      exact ⟨none, _, run_endLoop (P := P) hl (by simp [rc]), hdone _ S _ (Nat.le_refl _) (hI.put _ hi (by omega) hS1) hS0 ((World.putObj_heap_other (by omega)).trans hk)⟩

end Go.Proofs.Ytiogagaclhjdaaa
