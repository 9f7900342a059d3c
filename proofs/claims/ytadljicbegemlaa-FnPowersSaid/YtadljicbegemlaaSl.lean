/- Lists in memory: what they hold, and the contracts of laws.eqInt64S, laws.markInt64S and laws.heldInt64S. -/
import Derived.Test.YtadljicbegemlaaSet
namespace Go.Proofs.Ytadljicbegemlaa
open Go.RowKit

/-- The address leads to a row from block B on that holds the numbers of L and may be written. -/
def Rd (w : World) (B : Nat) (a : Option Addr) (L : List Int) : Prop :=
  L.length ≤ 2000000 ∧ (L = [] ∨ ∃ g, a = some ⟨g, 0, none⟩ ∧ B ≤ g ∧ g < w.heap.size ∧ ∀ i, i < L.length → w.cell? ⟨g, i, none⟩ = some (.int .i64 (L.getD i 0)) ∧ w.frozen? ⟨g, i, none⟩ = false)

theorem Rd.below {w w' : World} {B : Nat} {a : Option Addr} {L : List Int} (h : Rd w B a L) (hb : Below w.heap.size w w') : Rd w' B a L := by
  refine ⟨h.1, ?_⟩
  rcases h.2 with h0 | ⟨g, ha, hB, hg, hc⟩
  · exact Or.inl h0
  · refine Or.inr ⟨g, ha, hB, by have := hb.size; omega, fun i hi => ?_⟩
    rw [hb.cell (p := ⟨g, i, none⟩) hg, hb.frozen (p := ⟨g, i, none⟩) hg]
    exact hc i hi

theorem Rd.mono {w : World} {B B' : Nat} {a : Option Addr} {L : List Int} (h : Rd w B a L) (hB : B' ≤ B) : Rd w B' a L := by
  refine ⟨h.1, ?_⟩
  rcases h.2 with h0 | ⟨g, ha, hb, hg, hc⟩
  · exact Or.inl h0
  · exact Or.inr ⟨g, ha, Nat.le_trans hB hb, hg, hc⟩

/-- Of the world nothing has turned but the block that begins at a. -/
structure But (w w' : World) (a : Option Addr) : Prop where
  os : w'.os = w.os
  tape : w'.tape = w.tape
  output : w'.output = w.output
  size : w'.heap.size = w.heap.size
  block : ∀ b, a ≠ some ⟨b, 0, none⟩ → w'.heap[b]? = w.heap[b]?

theorem But.refl (w : World) (a : Option Addr) : But w w a := ⟨rfl, rfl, rfl, rfl, fun _ _ => rfl⟩

/-- A row beyond the block that has turned is read as before. -/
theorem Rd.but {w w' : World} {B g : Nat} {a : Option Addr} {L : List Int} (h : Rd w B a L) (hb : But w w' (some ⟨g, 0, none⟩)) (hg : g < B) : Rd w' B a L := by
  refine ⟨h.1, ?_⟩
  rcases h.2 with h0 | ⟨k, ha, hB, hk, hc⟩
  · exact Or.inl h0
  · refine Or.inr ⟨k, ha, hB, by rw [hb.size]; exact hk, fun i hi => ?_⟩
    have e := hb.block k (by intro e; injection e with e; injection e with e; omega)
    have h1 := hc i hi
    unfold World.cell? World.frozen? at h1 ⊢
    rw [e]
    exact h1

theorem But.below {w w' : World} {B : Nat} {a : Option Addr} {L M : List Int} (h : But w w' a) (hr : Rd w B a L) (_ : M.length = L.length) (hL : L = [] → w' = w) : Below B w w' := by
  rcases hr.2 with h0 | ⟨g, ha, hB, _, _⟩
  · rw [hL h0]; exact Below.refl _ _
  · exact ⟨h.os, h.tape, h.output, Nat.le_of_eq h.size.symm, fun b hb => h.block b (by rw [ha]; intro e; injection e with e; injection e with e; omega)⟩

theorem set_getD (L : List Int) (k i : Nat) (x : Int) (hk : k < L.length) : (L.set k x).getD i 0 = if i = k then x else L.getD i 0 := by
  by_cases h : i = k
  · subst h; simp [hk]
  · rw [if_neg h]; simp [Ne.symm h]



/-- The marks that markInt64S writes. -/
def mk (n : Nat) (k0 : Int) : List Int := (List.range n).map fun (i : Nat) => k0 + (i : Int)

theorem mk_len (n : Nat) (k0 : Int) : (mk n k0).length = n := by simp [mk]

theorem mk_getD (n : Nat) (k0 : Int) (i : Nat) (h : i < n) : (mk n k0).getD i 0 = k0 + i := by
  simp [mk, h]

/-- What markInt64S leaves: the marks in the row, all else as it was. -/
def Marked (w : World) (B : Nat) (a : Option Addr) (L : List Int) (k0 : Int) (e : Ending) (w' : World) : Prop :=
  e = .returned (.int .i64 (k0 + L.length)) ∧ Rd w' B a (mk L.length k0) ∧ But w w' a ∧ Below B w w'





/-- The call returns a list of its own and a code. -/
def RetRow (B : Nat) (L : List Int) (c : Int) (w : World) (e : Ending) (w' : World) : Prop :=
  ∃ a cap, e = .returned (.tuple #[.slice a L.length cap, .int .i64 c]) ∧ Rd w' B a L ∧ Below w.heap.size w w'

theorem own_rd {w : World} {B : Nat} {v : Value} {L : List Int} (h : Own w B v L) (hL : L.length ≤ 2000000) : ∃ a cap, v = .slice a L.length cap ∧ Rd w B a L := by
  have h2 := h.2
  rcases h2 with ⟨h1, h0⟩ | ⟨g, cap, cur, h1, hB, hg, hn, hcap, hsz, htk⟩
  · have := List.length_eq_zero_iff.1 h0
    subst this
    exact ⟨none, 0, h1, hL, Or.inl rfl⟩
  · refine ⟨_, cap, h1, hL, Or.inr ⟨g, rfl, hB, (Array.getElem?_eq_some_iff.1 hg).1, fun i hi => ⟨?_, Joins.unfrozen_of_block hg i⟩⟩⟩
    rw [Joins.cell_of_block hg i]
    have e : cur.toList[i]? = (L.map (Value.int .i64))[i]? := by
      rw [← htk, List.getElem?_take, if_pos (by omega)]
    rw [← Array.getElem?_toList, e, List.getElem?_map, List.getElem?_eq_getElem hi]
    simp [hi]

theorem own_empty (w : World) (base : Nat) (h : base ≤ w.heap.size) : (w.alloc (.cells #[] 2)).ownsRow base 2 1 (.slice (some ⟨w.heap.size, 0, none⟩) 0 0) 0 [] :=
  ⟨rfl, Or.inr ⟨_, 0, #[], rfl, h, halloc_at _ _ _ rfl, Nat.le_refl _, Nat.zero_le _, rfl, rfl⟩⟩

theorem bel_alloc_rd {w : World} {B : Nat} {a : Option Addr} {L : List Int} (h : Rd w B a L) (o : Obj) : Rd (w.alloc o) B a L := h.below ((Below.refl _ _).alloc (Nat.le_refl _) _)
end Go.Proofs.Ytadljicbegemlaa
