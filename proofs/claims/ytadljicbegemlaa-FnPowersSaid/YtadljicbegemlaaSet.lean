/- Sets of points told without Go: five truth values, their digits in base 2, their ascending list. -/
import Derived.Test.YtadljicbegemlaaBase
namespace Go.Proofs.Ytadljicbegemlaa
open Go.RowKit

def bi (b : Bool) (x : Int) : Int := if b then x else 0
def mask (b : Nat → Bool) : Int := bi (b 0) 1 + bi (b 1) 2 + bi (b 2) 4 + bi (b 3) 8 + bi (b 4) 16
def setB (b : Nat → Bool) (j : Nat) : Nat → Bool := fun i => if i = j then true else b i
def ascK (b : Nat → Bool) (k : Nat) : List Int := ((List.range k).filter b).map Int.ofNat
def asc (b : Nat → Bool) : List Int := ascK b 5
/-- The points to which the first k points are led. -/
def imgK (t : Nat → Int) (k : Nat) : Nat → Bool := fun j => (List.range k).any fun i => t i == (j : Int)
def imgB (p : Int) (t : Nat → Int) : Nat → Bool := imgK t p.toNat
theorem ascK_succ (b : Nat → Bool) (k : Nat) : ascK b (k + 1) = if b k = true then ascK b k ++ [(k : Int)] else ascK b k := by
  unfold ascK
  rw [List.range_succ, List.filter_append, List.map_append]
  by_cases h : b k = true <;> simp [h]
theorem ascK_len (b : Nat → Bool) (k : Nat) : (ascK b k).length ≤ k := by
  unfold ascK
  have := List.length_filter_le b (List.range k)
  simp at this ⊢
  exact this
theorem imgK_succ (t : Nat → Int) (k : Nat) (h0 : 0 ≤ t k) : setB (imgK t k) (t k).toNat = imgK t (k + 1) := by
  funext j
  unfold setB imgK
  rw [List.range_succ, List.any_append]
  by_cases h : j = (t k).toNat
  · rw [if_pos h]; subst h; simp; right; omega
  · rw [if_neg h]
    have : (t k == (j : Int)) = false := by simp; omega
    simp [this]
def cells5 (b : Nat → Bool) : Array Value := #[.bool (b 0), .bool (b 1), .bool (b 2), .bool (b 3), .bool (b 4)]
theorem cells5_at (b : Nat → Bool) (k : Nat) (hk : k < 5) : (cells5 b)[k]? = some (.bool (b k)) := by
  rcases (by omega : k = 0 ∨ k = 1 ∨ k = 2 ∨ k = 3 ∨ k = 4) with rfl | rfl | rfl | rfl | rfl <;> rfl
theorem cells5_set (b : Nat → Bool) (k : Nat) (hk : k < 5) : (cells5 b).setIfInBounds k (.bool true) = cells5 (setB b k) := by
  rcases (by omega : k = 0 ∨ k = 1 ∨ k = 2 ∨ k = 3 ∨ k = 4) with rfl | rfl | rfl | rfl | rfl <;> rfl
theorem cells5_put (b : Nat → Bool) (k : Nat) (hk : k < 5) (x : Bool) : (cells5 b).setIfInBounds k (.bool x) = cells5 (fun i => if i = k then x else b i) := by
  rcases (by omega : k = 0 ∨ k = 1 ∨ k = 2 ∨ k = 3 ∨ k = 4) with rfl | rfl | rfl | rfl | rfl <;> rfl
theorem blk5 {w : World} {b T : Nat} {fr : Nat × Nat} {s : Nat → Bool} (h : w.heap[b]? = some (.cells (cells5 s) T fr)) :
    w.cell? ⟨b, 0, none⟩ = some (.bool (s 0)) ∧ w.cell? ⟨b, 1, none⟩ = some (.bool (s 1)) ∧ w.cell? ⟨b, 2, none⟩ = some (.bool (s 2)) ∧ w.cell? ⟨b, 3, none⟩ = some (.bool (s 3)) ∧ w.cell? ⟨b, 4, none⟩ = some (.bool (s 4)) :=
  ⟨Joins.cell_of_block h 0, Joins.cell_of_block h 1, Joins.cell_of_block h 2, Joins.cell_of_block h 3, Joins.cell_of_block h 4⟩
theorem blk5_at {w : World} {b T : Nat} {fr : Nat × Nat} {s : Nat → Bool} (h : w.heap[b]? = some (.cells (cells5 s) T fr)) (k : Nat) (hk : k < 5) : w.cell? ⟨b, k, none⟩ = some (.bool (s k)) :=
  (Joins.cell_of_block h k).trans (cells5_at s k hk)
theorem blk5_set {w : World} {b T : Nat} {fr : Nat × Nat} {s : Nat → Bool} (h : w.heap[b]? = some (.cells (cells5 s) T fr)) (k : Nat) (hk : k < 5) :
    (w.setCell ⟨b, k, none⟩ (.bool true)).heap[b]? = some (.cells (cells5 (setB s k)) T fr) := by
  rw [Joins.block_setCell h, cells5_set s k hk]
theorem mask_bd (b : Nat → Bool) : 0 ≤ mask b ∧ mask b ≤ 31 := by
  unfold mask bi
  cases b 0 <;> cases b 1 <;> cases b 2 <;> cases b 3 <;> cases b 4 <;> decide
/-- A list that a call made: it is told by its numbers. -/
def Own (w : World) (base : Nat) (v : Value) (L : List Int) : Prop := w.ownsRow base 2 1 v L.length (L.map (Value.int .i64))
theorem own_shape {w : World} {base : Nat} {v : Value} {L : List Int} (h : Own w base v L) : (v = .slice none 0 0 ∧ L = []) ∨ ∃ g cap, v = .slice (some ⟨g, 0, none⟩) L.length cap ∧ base ≤ g ∧ g < w.heap.size := by
  rcases h.2 with ⟨h1, h2⟩ | ⟨g, cap, cur, h1, h2, h3, _⟩
  · exact Or.inl ⟨h1, List.length_eq_zero_iff.1 h2⟩
  · exact Or.inr ⟨g, cap, h1, h2, (Array.getElem?_eq_some_iff.1 h3).1⟩
theorem info_int : (Try.prog.info? 2).map (fun i => (i.zero, i.size, i.bytes)) = some (some (.int .i64 0), 1, 8) := by kernel_rfl
end Go.Proofs.Ytadljicbegemlaa
