/- make of a slice of truths with as many as there are maps of n points; a row of truths in a block. -/
import Derived.Test.YtfghegjlilcafaaShn
import Derived.Laws.MakeOwn
namespace Go.Proofs.Ytfghegjlilcafaa
open Go Go.RowKit

def setB9 (s : Nat → Bool) (y : Nat) : Nat → Bool := fun j => if j = y then true else s j
/-- A row of truths in a block. -/
def MtS (w : World) (g n : Nat) (s : Nat → Bool) : Prop := g < w.heap.size ∧ ∀ j, j < n → w.cell? ⟨g, j, none⟩ = some (.bool (s j)) ∧ w.frozen? ⟨g, j, none⟩ = false
theorem MtS.set {w : World} {g n : Nat} {s : Nat → Bool} (h : MtS w g n s) (y : Nat) (hy : y < n) : MtS (w.setCell ⟨g, y, none⟩ (.bool true)) g n (setB9 s y) := by
  refine ⟨by simpa using h.1, fun j hj => ?_⟩
  rw [World.frozen?_setCell]
  refine ⟨?_, (h.2 j hj).2⟩
  unfold setB9
  by_cases e : j = y
  · subst e
    rw [if_pos rfl]
    exact World.cell?_setCell_same _ _ _ (h.2 j hj).1
  · rw [if_neg e, World.cell?_setCell_other _ _ _ _ (by intro q; injection q with _ q; exact e q.symm)]
    exact (h.2 j hj).1
theorem MtS.below {w w' : World} {g n : Nat} {s : Nat → Bool} (h : MtS w g n s) (hb : Below w.heap.size w w') : MtS w' g n s :=
  ⟨by have := hb.size; have := h.1; omega, fun j hj => ⟨(hb.cell (p := ⟨g, j, none⟩) h.1).trans (h.2 j hj).1, (hb.frozen (p := ⟨g, j, none⟩) h.1).trans (h.2 j hj).2⟩⟩
theorem MtS.congr {w : World} {g n : Nat} {s u : Nat → Bool} (h : MtS w g n s) (e : ∀ j, j < n → s j = u j) : MtS w g n u :=
  ⟨h.1, fun j hj => by rw [← e j hj]; exact h.2 j hj⟩

theorem info_bool9 : (Try.prog.info? 4).map (fun i => (i.zero, i.size, i.bytes)) = some (some (.bool false), 1, 1) := by kernel_rfl
theorem cells_bool : (Value.bool false).cells = #[Value.bool false] := by simp [Value.cells]
theorem made_bools (N j : Nat) (hj : j < N) : (madeCells (Value.bool false).cells (N * 1))[j]? = some (.bool false) := by
  simp [madeCells, Value.cells, hj, Nat.mod_one]
theorem make_boolsN (N : Nat) (hN : N ≤ 3125) (w : World) :
    (Instr.makeSlice 65 (.int .i64 (N : Int)) (.int .i64 (N : Int))).run Try.prog w = .ok (.slice (some ⟨w.heap.size, 0, none⟩) N N) (w.alloc (.cells (madeCells (Value.bool false).cells (N * 1)) 4)) := by
  obtain ⟨i0, hi, hz0, hz1, hz2⟩ := info_parts info_bool9
  have h := run_makeSlice (P := Try.prog) (w := w) 65 4 i0 (.bool false) Try.underlying65 hi hz0 .i64 .i64 (N : Int) (N : Int) (by omega) (Int.le_refl _) (by rw [hz1, Int.toNat_natCast]; omega) (by rw [hz2]; omega) (by omega)
  rw [hz1, Int.toNat_natCast] at h
  exact h

theorem mtS_new (N : Nat) (w : World) : MtS (w.alloc (.cells (madeCells (Value.bool false).cells (N * 1)) 4)) w.heap.size N (fun _ => false) := by
  have hb : (w.alloc (.cells (madeCells (Value.bool false).cells (N * 1)) 4)).heap[w.heap.size]? = some (.cells (madeCells (Value.bool false).cells (N * 1)) 4 (0, 0)) := halloc_at _ _ _ rfl
  refine ⟨by simp, fun j hj => ⟨?_, Joins.unfrozen_of_block hb j⟩⟩
  rw [Joins.cell_of_block hb j]
  exact made_bools N j hj

theorem mtS_new1 (N : Nat) (w : World) : MtS (w.alloc (.cells (madeCells #[.bool false] N) 4)) w.heap.size N (fun _ => false) := by
  have h := mtS_new N w
  rw [cells_bool, Nat.mul_one] at h
  exact h

/-- One of the first k renumbered forms of a map is the j-th map. -/
def hitB (n c : Nat) (O : List Nat) (k j : Nat) : Bool := (List.range k).any fun t => idN n (rnC n c (O.getD t 0)) == j
theorem hitB_zero (n c : Nat) (O : List Nat) (j : Nat) : hitB n c O 0 j = false := rfl
theorem hitB_succ (n c : Nat) (O : List Nat) (k j : Nat) : hitB n c O (k + 1) j = (hitB n c O k j || (idN n (rnC n c (O.getD k 0)) == j)) := by
  unfold hitB
  rw [List.range_succ, List.any_append]
  simp
theorem hitB_all {n i j : Nat} (h1 : 1 ≤ n) (h5 : n ≤ 5) (hj : j < n ^ n) : hitB n (cdN n i) (olN n) (olN n).length j = (lfC n (cdN n i) == lfC n (cdN n j)) := by
  have hi := cdN_vld (k := i) h1 h5
  have hv := cdN_vld (k := j) h1 h5
  rw [Bool.eq_iff_iff, beq_iff_eq, lf_eq h1 h5 hi hv]
  unfold hitB
  rw [List.any_eq_true]
  constructor
  · rintro ⟨t, ht, e⟩
    have hq := getD_in t (List.mem_range.1 ht)
    refine ⟨_, hq, ?_⟩
    have := (id_any h1 h5 (rn_vld h1 h5 hi hq)).2
    rw [eq_of_beq e] at this
    exact this
  · rintro ⟨q, hq, e⟩
    obtain ⟨t, ht, et⟩ := List.getElem_of_mem hq
    refine ⟨t, List.mem_range.2 ht, ?_⟩
    rw [List.getD_eq_getElem?_getD, List.getElem?_eq_getElem ht]
    show (idN n (rnC n (cdN n i) (olN n)[t]) == j) = true
    rw [et, ← e, id_cd h1 h5 hj]
    exact beq_self_eq_true _

end Go.Proofs.Ytfghegjlilcafaa
