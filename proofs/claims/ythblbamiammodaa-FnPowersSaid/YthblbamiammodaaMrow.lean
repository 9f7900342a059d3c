/- Lists of maps in memory: six cells a map; the contract of laws.toMapS. -/
import Derived.Test.YthblbamiammodaaBase
import Derived.Test.YthblbamiammodaaSl
namespace Go.Proofs.Ythblbamiammodaa
open Go.RowKit

/-- A map or what is none, by its six numbers. -/
abbrev MapN := Int × (Nat → Int)

/-- The cells of the map at place j of a row that begins at off in block b. -/
def AtM (w : World) (b off : Nat) (j : Nat) (x : MapN) : Prop :=
  w.cell? ⟨b, off + j * 6, none⟩ = some (.int .i64 x.1) ∧ w.cell? ⟨b, off + j * 6 + 1, none⟩ = some (.int .i64 (x.2 0)) ∧ w.cell? ⟨b, off + j * 6 + 2, none⟩ = some (.int .i64 (x.2 1)) ∧
    w.cell? ⟨b, off + j * 6 + 3, none⟩ = some (.int .i64 (x.2 2)) ∧ w.cell? ⟨b, off + j * 6 + 4, none⟩ = some (.int .i64 (x.2 3)) ∧ w.cell? ⟨b, off + j * 6 + 5, none⟩ = some (.int .i64 (x.2 4))

def z0 : MapN := (0, fun _ => 0)

/-- A list of maps that came in: empty, or its cells lie at an address. -/
def InRowM (w : World) (a : Option Addr) (L : List MapN) : Prop :=
  L = [] ∨ ∃ b off, a = some ⟨b, off, none⟩ ∧ b < w.heap.size ∧ ∀ j, j < L.length → AtM w b off j (L.getD j z0)

theorem InRowM.below {w w' : World} {a : Option Addr} {L : List MapN} (h : InRowM w a L) (hb : Below w.heap.size w w') : InRowM w' a L := by
  rcases h with h0 | ⟨b, off, ha, hlt, hc⟩
  · exact Or.inl h0
  · refine Or.inr ⟨b, off, ha, by have := hb.size; omega, fun j hj => ?_⟩
    have := hc j hj
    unfold AtM at this ⊢
    rw [hb.cell (p := ⟨b, _, none⟩) hlt, hb.cell (p := ⟨b, _, none⟩) hlt, hb.cell (p := ⟨b, _, none⟩) hlt, hb.cell (p := ⟨b, _, none⟩) hlt, hb.cell (p := ⟨b, _, none⟩) hlt, hb.cell (p := ⟨b, _, none⟩) hlt]
    exact this

theorem info_map : (Try.prog.info? 26).map (fun i => (i.zero, i.size, i.bytes)) = some (some (.agg #[.int .i64 0, .int .i64 0, .int .i64 0, .int .i64 0, .int .i64 0, .int .i64 0]), 6, 48) := by kernel_rfl

/-- Six stores in a row. -/
abbrev set6 (w : World) (b o : Nat) (p t0 t1 t2 t3 t4 : Value) : World :=
  (((((w.setCell ⟨b, o, none⟩ p).setCell ⟨b, o + 1, none⟩ t0).setCell ⟨b, o + 2, none⟩ t1).setCell ⟨b, o + 3, none⟩ t2).setCell ⟨b, o + 4, none⟩ t3).setCell ⟨b, o + 5, none⟩ t4

theorem set_other (w : World) (b b' o x : Nat) (v : Value) (h : b' ≠ b ∨ x ≠ o) : (w.setCell ⟨b, o, none⟩ v).cell? ⟨b', x, none⟩ = w.cell? ⟨b', x, none⟩ :=
  World.cell?_setCell_other _ _ _ _ (by intro e; injection e with e1 e2 _; rcases h with h | h; exact h e1.symm; exact h e2.symm)

theorem set6_ne (w : World) (b b' o x : Nat) (p t0 t1 t2 t3 t4 : Value) (h : b' ≠ b ∨ x < o ∨ o + 5 < x) : (set6 w b o p t0 t1 t2 t3 t4).cell? ⟨b', x, none⟩ = w.cell? ⟨b', x, none⟩ := by
  unfold set6
  rw [set_other _ _ _ _ _ _ (by omega), set_other _ _ _ _ _ _ (by omega), set_other _ _ _ _ _ _ (by omega), set_other _ _ _ _ _ _ (by omega), set_other _ _ _ _ _ _ (by omega), set_other _ _ _ _ _ _ (by omega)]

theorem set6_frozen (w : World) (b o : Nat) (p t0 t1 t2 t3 t4 : Value) (q : Addr) : (set6 w b o p t0 t1 t2 t3 t4).frozen? q = w.frozen? q := by
  unfold set6
  rw [World.frozen?_setCell, World.frozen?_setCell, World.frozen?_setCell, World.frozen?_setCell, World.frozen?_setCell, World.frozen?_setCell]

theorem set6_is (w : World) (b o x : Nat) (p t0 t1 t2 t3 t4 : Value) (h : ∃ v, w.cell? ⟨b, x, none⟩ = some v) : ∃ v, (set6 w b o p t0 t1 t2 t3 t4).cell? ⟨b, x, none⟩ = some v := by
  have one : ∀ (w : World) (o : Nat) (u : Value), (∃ v, w.cell? ⟨b, x, none⟩ = some v) → ∃ v, (w.setCell ⟨b, o, none⟩ u).cell? ⟨b, x, none⟩ = some v := fun w o u h => by
    by_cases e : x = o
    · subst e
      obtain ⟨v, hv⟩ := h
      exact ⟨_, World.cell?_setCell_same _ _ _ hv⟩
    · rw [set_other _ _ _ _ _ _ (Or.inr e)]; exact h
  exact one _ _ _ (one _ _ _ (one _ _ _ (one _ _ _ (one _ _ _ (one _ _ _ h)))))

theorem set6_at (w : World) (b o : Nat) (p t0 t1 t2 t3 t4 : Value) (h : ∀ i, i < 6 → ∃ v, w.cell? ⟨b, o + i, none⟩ = some v) :
    (set6 w b o p t0 t1 t2 t3 t4).cell? ⟨b, o, none⟩ = some p ∧ (set6 w b o p t0 t1 t2 t3 t4).cell? ⟨b, o + 1, none⟩ = some t0 ∧ (set6 w b o p t0 t1 t2 t3 t4).cell? ⟨b, o + 2, none⟩ = some t1 ∧
      (set6 w b o p t0 t1 t2 t3 t4).cell? ⟨b, o + 3, none⟩ = some t2 ∧ (set6 w b o p t0 t1 t2 t3 t4).cell? ⟨b, o + 4, none⟩ = some t3 ∧ (set6 w b o p t0 t1 t2 t3 t4).cell? ⟨b, o + 5, none⟩ = some t4 := by
  have is : ∀ (w : World) (o' : Nat) (u : Value) (x : Nat), (∃ v, w.cell? ⟨b, x, none⟩ = some v) → ∃ v, (w.setCell ⟨b, o', none⟩ u).cell? ⟨b, x, none⟩ = some v := fun w o' u x h => by
    by_cases e : x = o'
    · subst e
      obtain ⟨v, hv⟩ := h
      exact ⟨_, World.cell?_setCell_same _ _ _ hv⟩
    · rw [set_other _ _ _ _ _ _ (Or.inr e)]; exact h
  have at' : ∀ (w : World) (x : Nat) (u : Value), (∃ v, w.cell? ⟨b, x, none⟩ = some v) → (w.setCell ⟨b, x, none⟩ u).cell? ⟨b, x, none⟩ = some u := fun w x u ⟨v, hv⟩ => World.cell?_setCell_same _ _ _ hv
  have h0 := h 0 (by omega)
  have h1 := h 1 (by omega)
  have h2 := h 2 (by omega)
  have h3 := h 3 (by omega)
  have h4 := h 4 (by omega)
  have h5 := h 5 (by omega)
  simp only [Nat.add_zero] at h0
  unfold set6
  refine ⟨?_, ?_, ?_, ?_, ?_, ?_⟩
  · rw [set_other _ _ _ _ _ _ (by omega), set_other _ _ _ _ _ _ (by omega), set_other _ _ _ _ _ _ (by omega), set_other _ _ _ _ _ _ (by omega), set_other _ _ _ _ _ _ (by omega)]
    exact at' _ _ _ h0
  · rw [set_other _ _ _ _ _ _ (by omega), set_other _ _ _ _ _ _ (by omega), set_other _ _ _ _ _ _ (by omega), set_other _ _ _ _ _ _ (by omega)]
    exact at' _ _ _ (is _ _ _ _ h1)
  · rw [set_other _ _ _ _ _ _ (by omega), set_other _ _ _ _ _ _ (by omega), set_other _ _ _ _ _ _ (by omega)]
    exact at' _ _ _ (is _ _ _ _ (is _ _ _ _ h2))
  · rw [set_other _ _ _ _ _ _ (by omega), set_other _ _ _ _ _ _ (by omega)]
    exact at' _ _ _ (is _ _ _ _ (is _ _ _ _ (is _ _ _ _ h3)))
  · rw [set_other _ _ _ _ _ _ (by omega)]
    exact at' _ _ _ (is _ _ _ _ (is _ _ _ _ (is _ _ _ _ (is _ _ _ _ h4))))
  · exact at' _ _ _ (is _ _ _ _ (is _ _ _ _ (is _ _ _ _ (is _ _ _ _ (is _ _ _ _ h5)))))

/-- The address leads to a row from block B on that holds the maps of L and may be written. -/
def RdM (w : World) (B : Nat) (a : Option Addr) (L : List MapN) : Prop :=
  L.length ≤ 2000000 ∧ (L = [] ∨ ∃ g, a = some ⟨g, 0, none⟩ ∧ B ≤ g ∧ g < w.heap.size ∧ (∀ j, j < L.length → AtM w g 0 j (L.getD j z0)) ∧ ∀ x, x < L.length * 6 → w.frozen? ⟨g, x, none⟩ = false)

theorem AtM.block {w w' : World} {b off j : Nat} {x : MapN} (h : AtM w b off j x) (e : w'.heap[b]? = w.heap[b]?) : AtM w' b off j x := by
  have c : ∀ y, w'.cell? ⟨b, y, none⟩ = w.cell? ⟨b, y, none⟩ := fun y => World.cell?_of_block (a := ⟨b, y, none⟩) e
  unfold AtM at h ⊢
  simp only [c]
  exact h

theorem RdM.below {w w' : World} {B : Nat} {a : Option Addr} {L : List MapN} (h : RdM w B a L) (hb : Below w.heap.size w w') : RdM w' B a L := by
  refine ⟨h.1, ?_⟩
  rcases h.2 with h0 | ⟨g, ha, hB, hg, hc, hf⟩
  · exact Or.inl h0
  · exact Or.inr ⟨g, ha, hB, by have := hb.size; omega, fun j hj => (hc j hj).block (hb.block g hg), fun x hx => by rw [World.frozen?_of_block (a := ⟨g, x, none⟩) (hb.block g hg)]; exact hf x hx⟩

theorem RdM.mono {w : World} {B B' : Nat} {a : Option Addr} {L : List MapN} (h : RdM w B a L) (hB : B' ≤ B) : RdM w B' a L := by
  refine ⟨h.1, ?_⟩
  rcases h.2 with h0 | ⟨g, ha, hb, hg, hc⟩
  · exact Or.inl h0
  · exact Or.inr ⟨g, ha, Nat.le_trans hB hb, hg, hc⟩

theorem RdM.inRow {w : World} {B : Nat} {a : Option Addr} {L : List MapN} (h : RdM w B a L) : InRowM w a L := by
  rcases h.2 with h0 | ⟨g, ha, _, hg, hc, _⟩
  · exact Or.inl h0
  · exact Or.inr ⟨g, 0, ha, hg, hc⟩

/-- The call returns a copy of its own. -/
def RetCopyM (L : List MapN) (w : World) (e : Ending) (w' : World) : Prop :=
  ∃ a, e = .returned (.slice a L.length L.length) ∧ RdM w' w.heap.size a L ∧ Below w.heap.size w w' ∧ a = some ⟨w.heap.size, 0, none⟩ ∧ w.heap.size < w'.heap.size



end Go.Proofs.Ythblbamiammodaa
