/- Powers of maps, told without Go: products of k times a map. -/
import Derived.Test.YthblbamiammodaaBase
namespace Go.Proofs.Ythblbamiammodaa
open Go.RowKit

def idn (p : Int) : Nat → Int := fun i => if (i : Int) < p then (i : Int) else 0

def itrF (p : Int) (r g : Nat → Int) : Nat → (Nat → Int)
  | 0 => r
  | n + 1 => itrF p (mul p r g) g n

def pow (p : Int) (f : Nat → Int) (k : Nat) : Nat → Int := itrF p (idn p) f k

theorem idn_ok {p : Int} (h1 : 1 ≤ p) (h5 : p ≤ 5) : isB p (idn p) = true := by
  rw [isB_true]
  refine ⟨h1, h5, fun i _ => ⟨fun h => ?_, fun h => ?_⟩⟩
  · unfold idn; rw [if_pos h]; omega
  · unfold idn; rw [if_neg (by omega)]

theorem mul_lt {p : Int} (f g : Nat → Int) (i : Nat) (h : (i : Int) < p) : mul p f g i = g (f i).toNat := by
  unfold mul mulK; rw [if_pos (by omega)]

theorem mul_ge {p : Int} (f g : Nat → Int) (i : Nat) (h : p ≤ (i : Int)) : mul p f g i = 0 := by
  unfold mul mulK; rw [if_neg (by omega)]

theorem mul_assoc' {p : Int} {r g h : Nat → Int} (hr : isB p r = true) : mul p (mul p r g) h = mul p r (mul p g h) := by
  funext i
  by_cases c : (i : Int) < p
  · have := ok_at hr i c
    rw [mul_lt _ _ _ c, mul_lt _ _ _ c, mul_lt _ _ _ c, mul_lt _ _ _ (by omega)]
  · rw [mul_ge _ _ _ (by omega), mul_ge _ _ _ (by omega)]

theorem itrF_ok {p : Int} {g : Nat → Int} (hg : isB p g = true) : ∀ (n : Nat) {r : Nat → Int}, isB p r = true → isB p (itrF p r g n) = true
  | 0, _, hr => hr
  | n + 1, _, hr => itrF_ok hg n (mul_ok hr hg)

theorem pow_ok {p : Int} {f : Nat → Int} (hf : isB p f = true) (k : Nat) : isB p (pow p f k) = true :=
  itrF_ok hf k (idn_ok (isB_pts hf).1 (isB_pts hf).2)

theorem itrF_sq {p : Int} {g : Nat → Int} (hg : isB p g = true) : ∀ (m : Nat) {r : Nat → Int}, isB p r = true → itrF p r (mul p g g) m = itrF p r g (2 * m)
  | 0, _, _ => rfl
  | m + 1, r, hr => by
    show itrF p (mul p r (mul p g g)) (mul p g g) m = itrF p (mul p (mul p r g) g) g (2 * m)
    rw [itrF_sq hg m (mul_ok hr (mul_ok hg hg)), mul_assoc' hr]

theorem itrF_even {p : Int} {g r : Nat → Int} (hg : isB p g = true) (hr : isB p r = true) (k : Nat) (h : k % 2 = 0) : itrF p r (mul p g g) (k / 2) = itrF p r g k := by
  rw [itrF_sq hg _ hr]; congr 1; omega

theorem itrF_odd {p : Int} {g r : Nat → Int} (hg : isB p g = true) (hr : isB p r = true) (k : Nat) (h : k % 2 = 1) : itrF p (mul p r g) (mul p g g) (k / 2) = itrF p r g k := by
  rw [itrF_sq hg _ (mul_ok hr hg)]
  obtain ⟨m, rfl⟩ : ∃ m, k = 2 * m + 1 := ⟨k / 2, by omega⟩
  show itrF p (mul p r g) g (2 * ((2 * m + 1) / 2)) = itrF p (mul p r g) g (2 * m)
  congr 1; omega

theorem chainM {w : World} {b T : Nat} {q : Int} {s : Nat → Int} {x0 x1 x2 x3 x4 x5 : Value} (h : w.heap[b]? = some (.cells (mcells q s) T (0, 0))) :
    ((((((w.setCell ⟨b, 0, none⟩ x0).setCell ⟨b, 1, none⟩ x1).setCell ⟨b, 2, none⟩ x2).setCell ⟨b, 3, none⟩ x3).setCell ⟨b, 4, none⟩ x4).setCell ⟨b, 5, none⟩ x5).heap[b]? = some (.cells #[x0, x1, x2, x3, x4, x5] T (0, 0)) :=
  Joins.block_setCell (Joins.block_setCell (Joins.block_setCell (Joins.block_setCell (Joins.block_setCell (Joins.block_setCell h _) _) _) _) _) _

theorem chain_ne (w : World) (b k : Nat) (x0 x1 x2 x3 x4 x5 : Value) (h : k ≠ b) :
    ((((((w.setCell ⟨b, 0, none⟩ x0).setCell ⟨b, 1, none⟩ x1).setCell ⟨b, 2, none⟩ x2).setCell ⟨b, 3, none⟩ x3).setCell ⟨b, 4, none⟩ x4).setCell ⟨b, 5, none⟩ x5).heap[k]? = w.heap[k]? := by
  rw [hset_ne _ _ _ _ h, hset_ne _ _ _ _ h, hset_ne _ _ _ _ h, hset_ne _ _ _ _ h, hset_ne _ _ _ _ h, hset_ne _ _ _ _ h]
end Go.Proofs.Ythblbamiammodaa
