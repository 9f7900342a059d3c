/- Small facts on blocks of cells that a call makes: where they lie, what they hold, what a store leaves. -/
import Derived.Test.YtooeiafkhdiepaaIs
import Derived.Lib.SmallJoins
namespace Go.Proofs.Ytooeiafkhdiepaa
open Go.RowKit

theorem bcell {W w1 : World} {B : Nat} (hb : Below B W w1) : (∀ b o, b < B → w1.cell? ⟨b, o, none⟩ = W.cell? ⟨b, o, none⟩) ∧ (∀ b o, b < B → w1.frozen? ⟨b, o, none⟩ = W.frozen? ⟨b, o, none⟩) :=
  ⟨fun b o h => hb.cell (p := ⟨b, o, none⟩) h, fun b o h => hb.frozen (p := ⟨b, o, none⟩) h⟩

theorem halloc (w : World) (o : Obj) : (w.alloc o).heap = w.heap.push o := rfl

theorem hdrew (w : World) : w.drew.heap = w.heap := rfl

theorem halloc_at (w : World) (o : Obj) (k : Nat) (h : k = w.heap.size) : (w.alloc o).heap[k]? = some o := by
  subst h
  show (w.heap.push o)[_]? = _
  simp

theorem halloc_lt (w : World) (o : Obj) (k : Nat) (h : k < w.heap.size) : (w.alloc o).heap[k]? = w.heap[k]? := Below.heap_alloc w o k h

theorem blk6 {w : World} {b T : Nat} {fr : Nat × Nat} {p : Int} {t : Nat → Int} (h : w.heap[b]? = some (.cells (mcells p t) T fr)) :
    w.cell? ⟨b, 0, none⟩ = some (.int .i64 p) ∧ w.cell? ⟨b, 1, none⟩ = some (.int .i64 (t 0)) ∧ w.cell? ⟨b, 2, none⟩ = some (.int .i64 (t 1)) ∧ w.cell? ⟨b, 3, none⟩ = some (.int .i64 (t 2)) ∧
      w.cell? ⟨b, 4, none⟩ = some (.int .i64 (t 3)) ∧ w.cell? ⟨b, 5, none⟩ = some (.int .i64 (t 4)) :=
  ⟨Joins.cell_of_block h 0, Joins.cell_of_block h 1, Joins.cell_of_block h 2, Joins.cell_of_block h 3, Joins.cell_of_block h 4, Joins.cell_of_block h 5⟩

theorem blk_at {w : World} {b T : Nat} {fr : Nat × Nat} {p : Int} {t : Nat → Int} (h : w.heap[b]? = some (.cells (mcells p t) T fr)) (k : Nat) (hk : k < 5) : w.cell? ⟨b, 1 + k, none⟩ = some (.int .i64 (t k)) :=
  (Joins.cell_of_block h (1 + k)).trans (mcells_at p t k hk)

theorem blk_free {w : World} {b T : Nat} {C : Array Value} (h : w.heap[b]? = some (.cells C T (0, 0))) (i : Nat) : w.frozen? ⟨b, i, none⟩ = false := Joins.unfrozen_of_block h i

def upd (t : Nat → Int) (k : Nat) (x : Int) : Nat → Int := fun j => if j = k then x else t j

theorem mcells_set (p : Int) (t : Nat → Int) (k : Nat) (hk : k < 5) (x : Int) : (mcells p t).setIfInBounds (1 + k) (.int .i64 x) = mcells p (upd t k x) := by
  rcases (by omega : k = 0 ∨ k = 1 ∨ k = 2 ∨ k = 3 ∨ k = 4) with rfl | rfl | rfl | rfl | rfl <;> rfl

theorem blk_set {w : World} {b T : Nat} {fr : Nat × Nat} {p : Int} {t : Nat → Int} (h : w.heap[b]? = some (.cells (mcells p t) T fr)) (k : Nat) (hk : k < 5) (x : Int) :
    (w.setCell ⟨b, 1 + k, none⟩ (.int .i64 x)).heap[b]? = some (.cells (mcells p (upd t k x)) T fr) := by
  rw [Joins.block_setCell h, mcells_set p t k hk x]

theorem chain6 {w : World} {b T : Nat} {x0 x1 x2 x3 x4 x5 : Value}
    (h : w.heap[b]? = some (.cells #[.int .i64 0, .int .i64 0, .int .i64 0, .int .i64 0, .int .i64 0, .int .i64 0] T (0, 0))) :
    ((((((w.setCell ⟨b, 0, none⟩ x0).setCell ⟨b, 1, none⟩ x1).setCell ⟨b, 2, none⟩ x2).setCell ⟨b, 3, none⟩ x3).setCell ⟨b, 4, none⟩ x4).setCell ⟨b, 5, none⟩ x5).heap[b]? = some (.cells #[x0, x1, x2, x3, x4, x5] T (0, 0)) :=
  Joins.block_setCell (Joins.block_setCell (Joins.block_setCell (Joins.block_setCell (Joins.block_setCell (Joins.block_setCell h _) _) _) _) _) _

theorem hset_ne (w : World) (a : Addr) (u : Value) (k : Nat) (h : k ≠ a.block) : (w.setCell a u).heap[k]? = w.heap[k]? := Below.heap_setCell w a u k h

theorem mcells_ext {p q : Int} {s t : Nat → Int} (hp : p = q) (h : ∀ i, i < 5 → s i = t i) : mcells p s = mcells q t := by
  simp [mcells, hp, h 0, h 1, h 2, h 3, h 4]

theorem ok_at {p : Int} {t : Nat → Int} (h : isB p t = true) (k : Nat) (hk : (k : Int) < p) : 0 ≤ t k ∧ t k < p ∧ k < 5 := by
  rw [isB_true] at h
  have := h.2.2 k (by omega)
  unfold okAt at this
  omega

theorem ok_past {p : Int} {t : Nat → Int} (h : isB p t = true) (k : Nat) (hk : p ≤ (k : Int)) (h5 : k < 5) : t k = 0 := by
  rw [isB_true] at h
  exact (h.2.2 k h5).2 hk

theorem isB_pts {p : Int} {t : Nat → Int} (h : isB p t = true) : 1 ≤ p ∧ p ≤ 5 := by
  rw [isB_true] at h
  exact ⟨h.1, h.2.1⟩

/-- A map beside a code: the zero value unless the code is 0. -/
def resP (c p : Int) : Int := if c = 0 then p else 0

def resT (c : Int) (t : Nat → Int) : Nat → Int := fun i => if c = 0 then t i else 0

/-- The product of two maps: first f, then g. -/
def mulK (f g : Nat → Int) (k : Nat) : Nat → Int := fun i => if i < k then g (f i).toNat else 0

def mul (p : Int) (f g : Nat → Int) : Nat → Int := mulK f g p.toNat

theorem mulK_succ (f g : Nat → Int) (k : Nat) : upd (mulK f g k) k (g (f k).toNat) = mulK f g (k + 1) := by
  funext j
  unfold upd mulK
  by_cases h : j = k
  · subst h; simp
  · by_cases h' : j < k
    · rw [if_neg h, if_pos h', if_pos (by omega)]
    · rw [if_neg h, if_neg h', if_neg (by omega)]

theorem mul_ok {p : Int} {f g : Nat → Int} (hf : isB p f = true) (hg : isB p g = true) : isB p (mul p f g) = true := by
  have hf' := isB_pts hf
  rw [isB_true]
  refine ⟨hf'.1, hf'.2, fun i hi => ⟨fun h => ?_, fun h => ?_⟩⟩
  · have a := ok_at hf i h
    have b := ok_at hg (f i).toNat (by omega)
    unfold mul mulK
    rw [if_pos (by omega)]
    omega
  · unfold mul mulK
    rw [if_neg (by omega)]
end Go.Proofs.Ytooeiafkhdiepaa
