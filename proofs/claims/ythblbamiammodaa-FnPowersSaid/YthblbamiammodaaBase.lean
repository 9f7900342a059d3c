/- The contract of spec.l01In: it answers whether a number lies in a range, and draws at most. Whether six numbers are a map: the contracts of spec.l01Is, spec.IsMap and impl.IsMap. Small facts on blocks of cells that a call makes: where they lie, what they hold, what a store leaves. The contract of impl.IsMap: it answers as isB. The contracts of spec.l01Times and impl.product: both give the product of two maps. The contracts of laws.eqInt64A5 and laws.eqMap at two equal values. The contracts of laws.toInt64A5 and laws.toMap: they hand on what they are given. -/
import Derived.Test.YthblbamiammodaaChecked
import Derived.WalkKit
import Derived.WalkLawsBesides
import Derived.WalkSpells
import Derived.Lib.Hide
import Derived.Deep.QuietTactic
import Derived.BigQuiet
import Derived.Lib.SmallJoins
namespace Go.Proofs.Ythblbamiammodaa
open Go.RowKit

def inB (n lo hi : Int) : Bool := decide (lo ≤ n) && decide (n ≤ hi)

theorem inB_true {n lo hi : Int} : inB n lo hi = true ↔ lo ≤ n ∧ n ≤ hi := by simp [inB]

theorem in_any (n lo hi : Int) (w : World) :
    Calls Try.prog 41 #[.int .i64 n, .int .i64 lo, .int .i64 hi] w fun e w' => e = .returned (.bool (inB n lo hi)) ∧ w' = w := by
  by_cases h : lo ≤ n
  · have hb : inB n lo hi = decide (n ≤ hi) := by simp [inB, h]
    rw [hb]
    clear hb
    go_enter Try.func41, Try.ntmps41
    go_wp2
    go_ret
    exact ⟨rfl, rfl⟩
  · have hb : inB n lo hi = false := by simp [inB, h]
    rw [hb]
    clear hb
    go_enter Try.func41, Try.ntmps41
    go_wp2
    go_ret
    exact ⟨rfl, rfl⟩

end Go.Proofs.Ythblbamiammodaa

namespace Go.Proofs.Ythblbamiammodaa
open Go.RowKit

def okAt (p : Int) (t : Nat → Int) (i : Nat) : Prop := ((i : Int) < p → 0 ≤ t i ∧ t i ≤ p - 1) ∧ (p ≤ (i : Int) → t i = 0)

instance (p : Int) (t : Nat → Int) (i : Nat) : Decidable (okAt p t i) := by unfold okAt; infer_instance

def isB (p : Int) (t : Nat → Int) : Bool := decide (1 ≤ p) && decide (p ≤ 5) && (List.range 5).all fun i => decide (okAt p t i)

theorem isB_true {p : Int} {t : Nat → Int} : isB p t = true ↔ 1 ≤ p ∧ p ≤ 5 ∧ ∀ i, i < 5 → okAt p t i := by
  simp [isB, and_assoc]

theorem isB_false_p {p : Int} {t : Nat → Int} (h : ¬ (1 ≤ p ∧ p ≤ 5)) : isB p t = false := by
  rw [Bool.eq_false_iff]; intro h'; rw [isB_true] at h'; exact h ⟨h'.1, h'.2.1⟩

theorem isB_false_i {p : Int} {t : Nat → Int} (i : Nat) (hi : i < 5) (h : ¬ okAt p t i) : isB p t = false := by
  rw [Bool.eq_false_iff]; intro h'; rw [isB_true] at h'; exact h (h'.2.2 i hi)

abbrev mcells (p : Int) (t : Nat → Int) : Array Value := #[.int .i64 p, .int .i64 (t 0), .int .i64 (t 1), .int .i64 (t 2), .int .i64 (t 3), .int .i64 (t 4)]

abbrev mv (p : Int) (t : Nat → Int) : Value := .agg (mcells p t)

theorem mcells_at (p : Int) (t : Nat → Int) (k : Nat) (hk : k < 5) : (mcells p t)[1 + k]? = some (.int .i64 (t k)) := by
  match k, hk with
  | 0, _ => rfl
  | 1, _ => rfl
  | 2, _ => rfl
  | 3, _ => rfl
  | 4, _ => rfl

/-- What a new block of cells holds, later on. -/
theorem new_cell {w wr : World} {B T : Nat} {C : Array Value} (hb : Below B (w.alloc (.cells C T)) wr) (hB : w.heap.size < B) (i : Nat) : wr.cell? ⟨w.heap.size, i, none⟩ = C[i]? :=
  (hb.cell (p := ⟨w.heap.size, i, none⟩) hB).trans (World.cell?_alloc_new (w := w) C T i)

theorem bel_new {w wr : World} {o : Obj} {B : Nat} (hb : Below B (w.alloc o) wr) (hB : w.heap.size ≤ B) : Below w.heap.size w wr :=
  ((Below.refl _ _).alloc (Nat.le_refl _) _).trans (hb.mono hB)

theorem ret_b {a b : Bool} (h : a = b) : Ending.returned (.bool a) = .returned (.bool b) := by rw [h]

theorem ret_i {k : IntKind} {a b : Int} (h : a = b) : Ending.returned (.int k a) = .returned (.int k b) := by rw [h]

theorem lis_any (p : Int) (t : Nat → Int) (w : World) :
    Calls Try.prog 40 #[mv p t] w fun e w' => e = .returned (.bool (isB p t)) ∧ Below w.heap.size w w' := by
  by_cases h : 1 ≤ p ∧ p ≤ 5
  · obtain ⟨h1, h5⟩ := h
    have hin : inB p 1 5 = true := inB_true.2 ⟨h1, h5⟩
    have hfin : (∀ j, j < 5 → okAt p t j) → isB p t = true := fun h => isB_true.2 ⟨h1, h5, h⟩
    have Hfin := Lib.hid hfin
    clear hfin
    simp only [mv, mcells]
    go_enter Try.func40, Try.ntmps40
    go_wp2_with (go_at_call 41; refine (in_any _ _ _ _).mono ?_; rintro e w' ⟨rfl, rfl⟩)
    go_loopw [3] (fun i wr => ∃ (k : Nat), k ≤ 5 ∧ i = .int .i64 k ∧ (∀ j, j < k → okAt p t j) ∧ Below (w.heap.size + 1) (w.alloc (.cells (mcells p t) 26)) wr) (fun i _ => 5 - (intOf i).toNat)
    case atStart => exact ⟨0, by omega, rfl, by omega, Below.refl _ _⟩
    case round =>
      obtain ⟨k, hk, rfl, hok, hb⟩ := hrel
      have hp := new_cell hb (Nat.lt_succ_self _) 0
      simp only [mcells, List.getElem?_toArray, List.getElem?_cons_zero] at hp
      have Hok := Lib.hid hok
      have Hb := Lib.hid hb
      clear hok
      by_cases hk5 : k < 5
      · have hk5' : (k : Int) < 5 := by omega
        have hc := (new_cell hb (Nat.lt_succ_self _) (1 + k)).trans (mcells_at p t k hk5)
        clear hb
        by_cases hkp : (k : Int) < p
        · have hkp' : decide (p ≤ (k : Int)) = false := by simp; omega
          have hs : IntKind.i64.wrap (p - 1) = p - 1 := IntWalk.i64_in _ (by omega)
          by_cases hi : inB (t k) 0 (p - 1) = true
          · go_wp2
            go_quiet ((go_at_call 41; exact Calls.quiet_of_same (in_any _ _ _ _)))
            clear hs
            go_wp2
            go_roundw
            case rel => exact ⟨k + 1, by omega, by go_num, fun j hj => by rcases Nat.lt_succ_iff_lt_or_eq.1 hj with h | h; exact Hok.out j h; subst h; exact ⟨fun _ => inB_true.1 hi, fun h => by omega⟩, below_drewN Hb.out _⟩
            case measure => simp [intOf]; omega
          · simp only [Bool.not_eq_true] at hi
            go_wp2
            go_quiet ((go_at_call 41; exact Calls.quiet_of_same (in_any _ _ _ _)))
            clear hs
            go_wp2
            go_ret
            exact ⟨ret_b (isB_false_i k hk5 (fun h => by have := inB_true.2 (h.1 hkp); rw [hi] at this; cases this)).symm, bel_new (below_drewN Hb.out _) (by omega)⟩
        · have hkp' : decide (p ≤ (k : Int)) = true := by simp; omega
          have hkp2 : decide ((k : Int) < p) = false := by simp; omega
          by_cases hz : t k = 0
          · have hz' : (t k != 0) = false := by simp [hz]
            have HZ := Lib.hid hz
            clear hz
            go_wp2
            go_quiet (fail)
            go_wp2
            go_roundw
            case rel => exact ⟨k + 1, by omega, by go_num, fun j hj => by rcases Nat.lt_succ_iff_lt_or_eq.1 hj with h | h; exact Hok.out j h; subst h; exact ⟨fun _ => by omega, fun h => HZ.out⟩, below_drewN Hb.out _⟩
            case measure => simp [intOf]; omega
          · have hz' : (t k != 0) = true := by simp [hz]
            go_wp2
            go_quiet (fail)
            go_wp2
            go_ret
            exact ⟨ret_b (isB_false_i k hk5 (fun h => hz (h.2 (by omega)))).symm, bel_new (below_drewN Hb.out _) (by omega)⟩
      · clear hb
        go_wp2
        go_ret
        exact ⟨ret_b (Hfin.out (fun j hj => Hok.out j (by omega))).symm, bel_new Hb.out (by omega)⟩
  · have hin : inB p 1 5 = false := by rw [Bool.eq_false_iff]; intro h'; exact h (inB_true.1 h')
    rw [isB_false_p h]
    simp only [mv, mcells]
    go_enter Try.func40, Try.ntmps40
    go_wp2_with (go_at_call 41; refine (in_any _ _ _ _).mono ?_; rintro e w' ⟨rfl, rfl⟩)
    go_ret
    exact ⟨rfl, (Below.refl _ _).alloc (Nat.le_refl _) _⟩



end Go.Proofs.Ythblbamiammodaa

namespace Go.Proofs.Ythblbamiammodaa
open Go.RowKit

theorem bcell {W w1 : World} {B : Nat} (hb : Below B W w1) : (∀ b o, b < B → w1.cell? ⟨b, o, none⟩ = W.cell? ⟨b, o, none⟩) ∧ (∀ b o, b < B → w1.frozen? ⟨b, o, none⟩ = W.frozen? ⟨b, o, none⟩) :=
  ⟨fun b o h => hb.cell (p := ⟨b, o, none⟩) h, fun b o h => hb.frozen (p := ⟨b, o, none⟩) h⟩

theorem halloc (w : World) (o : Obj) : (w.alloc o).heap = w.heap.push o := rfl

theorem hdrew (w : World) : w.drew.heap = w.heap := rfl

theorem halloc_at (w : World) (o : Obj) (k : Nat) (h : k = w.heap.size) : (w.alloc o).heap[k]? = some o := by
  subst h
  show (w.heap.push o)[_]? = _
  simp

theorem halloc_lt (w : World) (o : Obj) (k : Nat) (h : k < w.heap.size) : (w.alloc o).heap[k]? = w.heap[k]? := Below.heap_alloc w o k h

theorem blk6 {w : World} {b T : Nat} {fr : Nat × Nat} {p : Int} {t : Nat → Int} (h : w.heap[b]? = some (.cells (mcells p t) T fr)) :
    w.cell? ⟨b, 0, none⟩ = some (.int .i64 p) ∧ w.cell? ⟨b, 1, none⟩ = some (.int .i64 (t 0)) ∧ w.cell? ⟨b, 2, none⟩ = some (.int .i64 (t 1)) ∧ w.cell? ⟨b, 3, none⟩ = some (.int .i64 (t 2)) ∧
      w.cell? ⟨b, 4, none⟩ = some (.int .i64 (t 3)) ∧ w.cell? ⟨b, 5, none⟩ = some (.int .i64 (t 4)) :=
  ⟨Joins.cell_of_block h 0, Joins.cell_of_block h 1, Joins.cell_of_block h 2, Joins.cell_of_block h 3, Joins.cell_of_block h 4, Joins.cell_of_block h 5⟩

theorem blk_at {w : World} {b T : Nat} {fr : Nat × Nat} {p : Int} {t : Nat → Int} (h : w.heap[b]? = some (.cells (mcells p t) T fr)) (k : Nat) (hk : k < 5) : w.cell? ⟨b, 1 + k, none⟩ = some (.int .i64 (t k)) :=
  (Joins.cell_of_block h (1 + k)).trans (mcells_at p t k hk)

theorem blk_free {w : World} {b T : Nat} {C : Array Value} (h : w.heap[b]? = some (.cells C T (0, 0))) (i : Nat) : w.frozen? ⟨b, i, none⟩ = false := Joins.unfrozen_of_block h i

def upd (t : Nat → Int) (k : Nat) (x : Int) : Nat → Int := fun j => if j = k then x else t j

theorem mcells_set (p : Int) (t : Nat → Int) (k : Nat) (hk : k < 5) (x : Int) : (mcells p t).setIfInBounds (1 + k) (.int .i64 x) = mcells p (upd t k x) := by
  rcases (by omega : k = 0 ∨ k = 1 ∨ k = 2 ∨ k = 3 ∨ k = 4) with rfl | rfl | rfl | rfl | rfl <;> rfl

theorem blk_set {w : World} {b T : Nat} {fr : Nat × Nat} {p : Int} {t : Nat → Int} (h : w.heap[b]? = some (.cells (mcells p t) T fr)) (k : Nat) (hk : k < 5) (x : Int) :
    (w.setCell ⟨b, 1 + k, none⟩ (.int .i64 x)).heap[b]? = some (.cells (mcells p (upd t k x)) T fr) := by
  rw [Joins.block_setCell h, mcells_set p t k hk x]

theorem chain6 {w : World} {b T : Nat} {x0 x1 x2 x3 x4 x5 : Value}
    (h : w.heap[b]? = some (.cells #[.int .i64 0, .int .i64 0, .int .i64 0, .int .i64 0, .int .i64 0, .int .i64 0] T (0, 0))) :
    ((((((w.setCell ⟨b, 0, none⟩ x0).setCell ⟨b, 1, none⟩ x1).setCell ⟨b, 2, none⟩ x2).setCell ⟨b, 3, none⟩ x3).setCell ⟨b, 4, none⟩ x4).setCell ⟨b, 5, none⟩ x5).heap[b]? = some (.cells #[x0, x1, x2, x3, x4, x5] T (0, 0)) :=
  Joins.block_setCell (Joins.block_setCell (Joins.block_setCell (Joins.block_setCell (Joins.block_setCell (Joins.block_setCell h _) _) _) _) _) _

theorem hset_ne (w : World) (a : Addr) (u : Value) (k : Nat) (h : k ≠ a.block) : (w.setCell a u).heap[k]? = w.heap[k]? := Below.heap_setCell w a u k h

theorem mcells_ext {p q : Int} {s t : Nat → Int} (hp : p = q) (h : ∀ i, i < 5 → s i = t i) : mcells p s = mcells q t := by
  simp [mcells, hp, h 0, h 1, h 2, h 3, h 4]

theorem ok_at {p : Int} {t : Nat → Int} (h : isB p t = true) (k : Nat) (hk : (k : Int) < p) : 0 ≤ t k ∧ t k < p ∧ k < 5 := by
  rw [isB_true] at h
  have := h.2.2 k (by omega)
  unfold okAt at this
  omega

theorem ok_past {p : Int} {t : Nat → Int} (h : isB p t = true) (k : Nat) (hk : p ≤ (k : Int)) (h5 : k < 5) : t k = 0 := by
  rw [isB_true] at h
  exact (h.2.2 k h5).2 hk

theorem isB_pts {p : Int} {t : Nat → Int} (h : isB p t = true) : 1 ≤ p ∧ p ≤ 5 := by
  rw [isB_true] at h
  exact ⟨h.1, h.2.1⟩

/-- A map beside a code: the zero value unless the code is 0. -/
def resP (c p : Int) : Int := if c = 0 then p else 0

def resT (c : Int) (t : Nat → Int) : Nat → Int := fun i => if c = 0 then t i else 0

/-- The product of two maps: first f, then g. -/
def mulK (f g : Nat → Int) (k : Nat) : Nat → Int := fun i => if i < k then g (f i).toNat else 0

def mul (p : Int) (f g : Nat → Int) : Nat → Int := mulK f g p.toNat

theorem mulK_succ (f g : Nat → Int) (k : Nat) : upd (mulK f g k) k (g (f k).toNat) = mulK f g (k + 1) := by
  funext j
  unfold upd mulK
  by_cases h : j = k
  · subst h; simp
  · by_cases h' : j < k
    · rw [if_neg h, if_pos h', if_pos (by omega)]
    · rw [if_neg h, if_neg h', if_neg (by omega)]

theorem mul_ok {p : Int} {f g : Nat → Int} (hf : isB p f = true) (hg : isB p g = true) : isB p (mul p f g) = true := by
  have hf' := isB_pts hf
  rw [isB_true]
  refine ⟨hf'.1, hf'.2, fun i hi => ⟨fun h => ?_, fun h => ?_⟩⟩
  · have a := ok_at hf i h
    have b := ok_at hg (f i).toNat (by omega)
    unfold mul mulK
    rw [if_pos (by omega)]
    omega
  · unfold mul mulK
    rw [if_neg (by omega)]

end Go.Proofs.Ythblbamiammodaa

namespace Go.Proofs.Ythblbamiammodaa
open Go.RowKit

theorem idx5 (t : Nat → Int) (k : Nat) (hk : k < 5) (w : World) :
    (Instr.index 24 (.agg #[.int .i64 (t 0), .int .i64 (t 1), .int .i64 (t 2), .int .i64 (t 3), .int .i64 (t 4)]) (.int .i64 (k : Int))).run Try.prog w = .ok (.int .i64 (t k)) w := by
  rcases (by omega : k = 0 ∨ k = 1 ∨ k = 2 ∨ k = 3 ∨ k = 4) with rfl | rfl | rfl | rfl | rfl <;> kernel_rfl

theorem iis_any (p : Int) (t : Nat → Int) (w : World) :
    Calls Try.prog 38 #[mv p t] w fun e w' => e = .returned (.bool (isB p t)) ∧ Below w.heap.size w w' := by
  by_cases h : 1 ≤ p ∧ p ≤ 5
  · obtain ⟨h1, h5⟩ := h
    have hfin : (∀ j, j < 5 → okAt p t j) → isB p t = true := fun h => isB_true.2 ⟨h1, h5, h⟩
    have Hfin := Lib.hid hfin
    clear hfin
    simp only [mv, mcells]
    go_enter Try.func38, Try.ntmps38
    go_wp2_with fail
    go_loopw [3, 4, 15] (fun u v i wr => ∃ (k : Nat), k ≤ 5 ∧ i = .int .i64 k ∧ (∀ j, j < k → okAt p t j) ∧ Below (w.heap.size + 1) (w.alloc (.cells (mcells p t) 26)) wr) (fun u v i _ => 5 - (intOf i).toNat)
    case atStart => exact ⟨0, by omega, rfl, by omega, Below.refl _ _⟩
    case round =>
      obtain ⟨k, hk, rfl, hok, hb⟩ := hrel
      have hp := new_cell hb (Nat.lt_succ_self _) 0
      simp only [mcells, List.getElem?_toArray, List.getElem?_cons_zero] at hp
      have Hok := Lib.hid hok
      have Hb := Lib.hid hb
      clear hok
      by_cases hk5 : k < 5
      · have hk5' : (k : Int) < 5 := by omega
        have hix := idx5 t k hk5
        clear hb
        by_cases hlo : t k < 0
        · go_wp2
          go_ret
          exact ⟨ret_b (isB_false_i k hk5 (fun h => by unfold okAt at h; omega)).symm, bel_new Hb.out (by omega)⟩
        · by_cases hhi : p ≤ t k
          · go_wp2
            go_ret
            exact ⟨ret_b (isB_false_i k hk5 (fun h => by unfold okAt at h; omega)).symm, bel_new Hb.out (by omega)⟩
          · by_cases hkp : p ≤ (k : Int)
            · by_cases hz : t k = 0
              · have hz' : (t k != 0) = false := by simp [hz]
                have HZ := Lib.hid hz
                clear hz
                go_wp2
                go_roundw
                case rel => exact ⟨k + 1, by omega, by go_num, fun j hj => by rcases Nat.lt_succ_iff_lt_or_eq.1 hj with h | h; exact Hok.out j h; subst h; exact ⟨fun _ => by omega, fun h => HZ.out⟩, Hb.out⟩
                case measure => simp [intOf]; omega
              · have hz' : (t k != 0) = true := by simp [hz]
                go_wp2
                go_ret
                exact ⟨ret_b (isB_false_i k hk5 (fun h => hz (h.2 (by omega)))).symm, bel_new Hb.out (by omega)⟩
            · go_wp2
              go_roundw
              case rel => exact ⟨k + 1, by omega, by go_num, fun j hj => by rcases Nat.lt_succ_iff_lt_or_eq.1 hj with h | h; exact Hok.out j h; subst h; exact ⟨fun _ => by omega, fun h => by omega⟩, Hb.out⟩
              case measure => simp [intOf]; omega
      · clear hb
        go_wp2
        go_ret
        exact ⟨ret_b (Hfin.out (fun j hj => Hok.out j (by omega))).symm, bel_new Hb.out (by omega)⟩
  · rw [isB_false_p h]
    by_cases h1 : p < 1
    · simp only [mv, mcells]
      go_enter Try.func38, Try.ntmps38
      go_wp2
      go_ret
      exact ⟨rfl, (Below.refl _ _).alloc (Nat.le_refl _) _⟩
    · have h5 : 5 < p := by omega
      clear h
      simp only [mv, mcells]
      go_enter Try.func38, Try.ntmps38
      go_wp2
      go_ret
      exact ⟨rfl, (Below.refl _ _).alloc (Nat.le_refl _) _⟩

end Go.Proofs.Ythblbamiammodaa

namespace Go.Proofs.Ythblbamiammodaa
open Go.RowKit

set_option maxHeartbeats 400000 in
theorem times_any (p : Int) (f g : Nat → Int) (hf : isB p f = true) (hg : isB p g = true) (w : World) :
    Calls Try.prog 68 #[mv p f, mv p g] w fun e w' => e = .returned (mv p (mul p f g)) ∧ Below w.heap.size w w' := by
  have hF := Lib.hid hf
  have hG := Lib.hid hg
  obtain ⟨h1, h5⟩ := isB_pts hf
  clear hf hg
  simp only [mv, mcells]
  go_enter Try.func68, Try.ntmps68
  go_wp2
  go_loopw [6] (fun i wr => ∃ (k : Nat), (k : Int) ≤ p ∧ i = .int .i64 k ∧ Below w.heap.size w wr ∧ w.heap.size + 1 + 1 + 1 < wr.heap.size ∧
      wr.heap[w.heap.size]? = some (.cells (mcells p f) 26 (0, 0)) ∧ wr.heap[w.heap.size + 1]? = some (.cells (mcells p g) 26 (0, 0)) ∧
      wr.heap[w.heap.size + 1 + 1]? = some (.cells (mcells 0 fun _ => 0) 26 (0, 0)) ∧ wr.heap[w.heap.size + 1 + 1 + 1]? = some (.cells (mcells p (mulK f g k)) 26 (0, 0))) (fun i _ => (p - intOf i).toNat)
  case atStart =>
    refine ⟨0, by omega, rfl, ?_, by simp, ?_, ?_, ?_, ?_⟩
    · (repeat' (first | (with_reducible exact Below.refl _ _) | (with_reducible refine Below.alloc ?_ ?_ _) | (with_reducible refine Below.setCell ?_ ?_ _) | (with_reducible refine Below.drew ?_) | (with_reducible refine below_drewN ?_ _) | (with_reducible refine Below.trans ?_ (Below.mono (Hid.out (by assumption)) ?_)) | omega | (simp; done) | (simp; omega)))
    · ((try rw [hdrew]); simp only [halloc, Array.getElem?_push, Array.size_push]; (repeat (first | rw [if_pos (by omega)] | rw [if_neg (by omega)])); try rfl)
    · ((try rw [hdrew]); simp only [halloc, Array.getElem?_push, Array.size_push]; (repeat (first | rw [if_pos (by omega)] | rw [if_neg (by omega)])); try rfl)
    · ((try rw [hdrew]); simp only [halloc, Array.getElem?_push, Array.size_push]; (repeat (first | rw [if_pos (by omega)] | rw [if_neg (by omega)])); try rfl)
    · ((try rw [hdrew]); simp only [halloc, Array.getElem?_push, Array.size_push]; (repeat (first | rw [if_pos (by omega)] | rw [if_neg (by omega)])); try rfl)
  case round =>
    obtain ⟨k, hk, rfl, hb, hsz, b0, b1, b2, b3⟩ := hrel
    have hp := (blk6 b0).1
    have Hb := Lib.hid hb
    have B0 := Lib.hid b0
    have B1 := Lib.hid b1
    have B2 := Lib.hid b2
    have B3 := Lib.hid b3
    clear hb b0 b1 b2 b3
    by_cases hkp : (k : Int) < p
    · obtain ⟨f0, f1, k5⟩ := ok_at hF.out k hkp
      have k5' : (k : Int) < 5 := by omega
      have f5 : f k < 5 := by omega
      have hfk := blk_at B0.out k k5
      have hgk := blk_at B1.out (f k).toNat (by omega)
      have hok := blk_at B3.out k k5
      have hfr := blk_free B3.out (1 + k)
      go_wp2
      go_roundw
      case rel =>
        refine ⟨k + 1, by omega, by go_num, Hb.out.setCell (by simp; omega) _, by simpa using hsz, ?_, ?_, ?_, ?_⟩
        · rw [hset_ne _ _ _ _ (by simp; omega)]; exact B0.out
        · rw [hset_ne _ _ _ _ (by simp)]; exact B1.out
        · rw [hset_ne _ _ _ _ (by simp)]; exact B2.out
        · rw [← mulK_succ]; exact blk_set B3.out k k5 _
      case measure => simp [intOf]; omega
    · obtain ⟨e0, e1, e2, e3, e4, e5⟩ := blk6 B3.out
      obtain ⟨r0, r1, r2, r3, r4, r5⟩ := blk6 B2.out
      have hfr := blk_free B2.out
      have hK : Hid (mulK f g k = mul p f g) := by unfold mul; rw [show p.toNat = k by omega]; rfl
      go_wp2
      refine bodyPost_ret (v := mv p (mulK f g k)) (by simp [results, Try.results68, go_sem, r0, r1, r2, r3, r4, r5]) rfl ⟨by rw [hK.out], ?_⟩
      (repeat' (first | (with_reducible exact Below.refl _ _) | (with_reducible refine Below.alloc ?_ ?_ _) | (with_reducible refine Below.setCell ?_ ?_ _) | (with_reducible refine Below.drew ?_) | (with_reducible refine below_drewN ?_ _) | (with_reducible refine Below.trans ?_ (Below.mono (Hid.out (by assumption)) ?_)) | omega | (simp; done) | (simp; omega)))

set_option maxHeartbeats 400000 in
theorem product_any (p : Int) (f g : Nat → Int) (hf : isB p f = true) (hg : isB p g = true) (w : World) :
    Calls Try.prog 59 #[mv p f, mv p g] w fun e w' => e = .returned (mv p (mul p f g)) ∧ Below w.heap.size w w' := by
  have hF := Lib.hid hf
  have hG := Lib.hid hg
  obtain ⟨h1, h5⟩ := isB_pts hf
  clear hf hg
  simp only [mv, mcells]
  go_enter Try.func59, Try.ntmps59
  go_wp2
  go_loopw [6, 12] (fun _ i wr => ∃ (k : Nat), (k : Int) ≤ p ∧ i = .int .i64 k ∧ Below w.heap.size w wr ∧ w.heap.size + 1 + 1 + 1 < wr.heap.size ∧
      wr.heap[w.heap.size]? = some (.cells (mcells p f) 26 (0, 0)) ∧ wr.heap[w.heap.size + 1]? = some (.cells (mcells p g) 26 (0, 0)) ∧
      wr.heap[w.heap.size + 1 + 1]? = some (.cells (mcells 0 fun _ => 0) 26 (0, 0)) ∧ wr.heap[w.heap.size + 1 + 1 + 1]? = some (.cells (mcells p (mulK f g k)) 26 (0, 0))) (fun _ i _ => (p - intOf i).toNat)
  case atStart =>
    refine ⟨0, by omega, rfl, ?_, by simp, ?_, ?_, ?_, ?_⟩
    · (repeat' (first | (with_reducible exact Below.refl _ _) | (with_reducible refine Below.alloc ?_ ?_ _) | (with_reducible refine Below.setCell ?_ ?_ _) | (with_reducible refine Below.drew ?_) | (with_reducible refine below_drewN ?_ _) | (with_reducible refine Below.trans ?_ (Below.mono (Hid.out (by assumption)) ?_)) | omega | (simp; done) | (simp; omega)))
    · ((try rw [hdrew]); simp only [halloc, Array.getElem?_push, Array.size_push]; (repeat (first | rw [if_pos (by omega)] | rw [if_neg (by omega)])); try rfl)
    · ((try rw [hdrew]); simp only [halloc, Array.getElem?_push, Array.size_push]; (repeat (first | rw [if_pos (by omega)] | rw [if_neg (by omega)])); try rfl)
    · ((try rw [hdrew]); simp only [halloc, Array.getElem?_push, Array.size_push]; (repeat (first | rw [if_pos (by omega)] | rw [if_neg (by omega)])); try rfl)
    · ((try rw [hdrew]); simp only [halloc, Array.getElem?_push, Array.size_push]; (repeat (first | rw [if_pos (by omega)] | rw [if_neg (by omega)])); try rfl)
  case round =>
    obtain ⟨k, hk, rfl, hb, hsz, b0, b1, b2, b3⟩ := hrel
    have hp := (blk6 b0).1
    have Hb := Lib.hid hb
    have B0 := Lib.hid b0
    have B1 := Lib.hid b1
    have B2 := Lib.hid b2
    have B3 := Lib.hid b3
    clear hb b0 b1 b2 b3
    by_cases hkp : (k : Int) < p
    · obtain ⟨f0, f1, k5⟩ := ok_at hF.out k hkp
      have k5' : (k : Int) < 5 := by omega
      have f5 : f k < 5 := by omega
      have hfk := blk_at B0.out k k5
      have hgk := blk_at B1.out (f k).toNat (by omega)
      have hok := blk_at B3.out k k5
      have hfr := blk_free B3.out (1 + k)
      go_wp2
      go_roundw
      case rel =>
        refine ⟨k + 1, by omega, by go_num, Hb.out.setCell (by simp; omega) _, by simpa using hsz, ?_, ?_, ?_, ?_⟩
        · rw [hset_ne _ _ _ _ (by simp; omega)]; exact B0.out
        · rw [hset_ne _ _ _ _ (by simp)]; exact B1.out
        · rw [hset_ne _ _ _ _ (by simp)]; exact B2.out
        · rw [← mulK_succ]; exact blk_set B3.out k k5 _
      case measure => simp [intOf]; omega
    · obtain ⟨e0, e1, e2, e3, e4, e5⟩ := blk6 B3.out
      obtain ⟨r0, r1, r2, r3, r4, r5⟩ := blk6 B2.out
      have hfr := blk_free B2.out
      have hK : Hid (mulK f g k = mul p f g) := by unfold mul; rw [show p.toNat = k by omega]; rfl
      go_wp2
      refine bodyPost_ret (v := mv p (mulK f g k)) (by simp [results, Try.results59, go_sem, r0, r1, r2, r3, r4, r5]) rfl ⟨by rw [hK.out], ?_⟩
      (repeat' (first | (with_reducible exact Below.refl _ _) | (with_reducible refine Below.alloc ?_ ?_ _) | (with_reducible refine Below.setCell ?_ ?_ _) | (with_reducible refine Below.drew ?_) | (with_reducible refine below_drewN ?_ _) | (with_reducible refine Below.trans ?_ (Below.mono (Hid.out (by assumption)) ?_)) | omega | (simp; done) | (simp; omega)))

end Go.Proofs.Ythblbamiammodaa

namespace Go.Proofs.Ythblbamiammodaa
open Go.RowKit





end Go.Proofs.Ythblbamiammodaa

namespace Go.Proofs.Ythblbamiammodaa
open Go.RowKit





end Go.Proofs.Ythblbamiammodaa
