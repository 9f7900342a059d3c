/- Whether six numbers are a map: the contracts of spec.l01Is, spec.IsMap and impl.IsMap. -/
import Derived.Test.YtooeiafkhdiepaaIn
namespace Go.Proofs.Ytooeiafkhdiepaa
open Go.RowKit

def okAt (p : Int) (t : Nat → Int) (i : Nat) : Prop := ((i : Int) < p → 0 ≤ t i ∧ t i ≤ p - 1) ∧ (p ≤ (i : Int) → t i = 0)

instance (p : Int) (t : Nat → Int) (i : Nat) : Decidable (okAt p t i) := by unfold okAt; infer_instance

def isB (p : Int) (t : Nat → Int) : Bool := decide (1 ≤ p) && decide (p ≤ 5) && (List.range 5).all fun i => decide (okAt p t i)

theorem isB_true {p : Int} {t : Nat → Int} : isB p t = true ↔ 1 ≤ p ∧ p ≤ 5 ∧ ∀ i, i < 5 → okAt p t i := by
  simp [isB, and_assoc]

theorem isB_false_p {p : Int} {t : Nat → Int} (h : ¬ (1 ≤ p ∧ p ≤ 5)) : isB p t = false := by
  rw [Bool.eq_false_iff]; intro h'; rw [isB_true] at h'; exact h ⟨h'.1, h'.2.1⟩

theorem isB_false_i {p : Int} {t : Nat → Int} (i : Nat) (hi : i < 5) (h : ¬ okAt p t i) : isB p t = false := by
  rw [Bool.eq_false_iff]; intro h'; rw [isB_true] at h'; exact h (h'.2.2 i hi)

abbrev mcells (p : Int) (t : Nat → Int) : Array Value := #[.int .i64 p, .int .i64 (t 0), .int .i64 (t 1), .int .i64 (t 2), .int .i64 (t 3), .int .i64 (t 4)]

abbrev mv (p : Int) (t : Nat → Int) : Value := .agg (mcells p t)

theorem mcells_at (p : Int) (t : Nat → Int) (k : Nat) (hk : k < 5) : (mcells p t)[1 + k]? = some (.int .i64 (t k)) := by
  match k, hk with
  | 0, _ => rfl
  | 1, _ => rfl
  | 2, _ => rfl
  | 3, _ => rfl
  | 4, _ => rfl

/-- What a new block of cells holds, later on. -/
theorem new_cell {w wr : World} {B T : Nat} {C : Array Value} (hb : Below B (w.alloc (.cells C T)) wr) (hB : w.heap.size < B) (i : Nat) : wr.cell? ⟨w.heap.size, i, none⟩ = C[i]? :=
  (hb.cell (p := ⟨w.heap.size, i, none⟩) hB).trans (World.cell?_alloc_new (w := w) C T i)

theorem bel_new {w wr : World} {o : Obj} {B : Nat} (hb : Below B (w.alloc o) wr) (hB : w.heap.size ≤ B) : Below w.heap.size w wr :=
  ((Below.refl _ _).alloc (Nat.le_refl _) _).trans (hb.mono hB)

theorem ret_b {a b : Bool} (h : a = b) : Ending.returned (.bool a) = .returned (.bool b) := by rw [h]

theorem ret_i {k : IntKind} {a b : Int} (h : a = b) : Ending.returned (.int k a) = .returned (.int k b) := by rw [h]

theorem lis_any (p : Int) (t : Nat → Int) (w : World) :
    Calls Try.prog 78 #[mv p t] w fun e w' => e = .returned (.bool (isB p t)) ∧ Below w.heap.size w w' := by
  by_cases h : 1 ≤ p ∧ p ≤ 5
  · obtain ⟨h1, h5⟩ := h
    have hin : inB p 1 5 = true := inB_true.2 ⟨h1, h5⟩
    have hfin : (∀ j, j < 5 → okAt p t j) → isB p t = true := fun h => isB_true.2 ⟨h1, h5, h⟩
    have Hfin := Lib.hid hfin
    clear hfin
    simp only [mv, mcells]
    go_enter Try.func78, Try.ntmps78
    go_wp2_with (go_at_call 95; refine (in_any _ _ _ _).mono ?_; rintro e w' ⟨rfl, rfl⟩)
    go_loopw [3] (fun i wr => ∃ (k : Nat), k ≤ 5 ∧ i = .int .i64 k ∧ (∀ j, j < k → okAt p t j) ∧ Below (w.heap.size + 1) (w.alloc (.cells (mcells p t) 26)) wr) (fun i _ => 5 - (intOf i).toNat)
    case atStart => exact ⟨0, by omega, rfl, by omega, Below.refl _ _⟩
    case round =>
      obtain ⟨k, hk, rfl, hok, hb⟩ := hrel
      have hp := new_cell hb (Nat.lt_succ_self _) 0
      simp only [mcells, List.getElem?_toArray, List.getElem?_cons_zero] at hp
      have Hok := Lib.hid hok
      have Hb := Lib.hid hb
      clear hok
      by_cases hk5 : k < 5
      · have hk5' : (k : Int) < 5 := by omega
        have hc := (new_cell hb (Nat.lt_succ_self _) (1 + k)).trans (mcells_at p t k hk5)
        clear hb
        by_cases hkp : (k : Int) < p
        · have hkp' : decide (p ≤ (k : Int)) = false := by simp; omega
          have hs : IntKind.i64.wrap (p - 1) = p - 1 := IntWalk.i64_in _ (by omega)
          by_cases hi : inB (t k) 0 (p - 1) = true
          · go_wp2
            go_quiet ((go_at_call 95; exact Calls.quiet_of_same (in_any _ _ _ _)))
            clear hs
            go_wp2
            go_roundw
            case rel => exact ⟨k + 1, by omega, by go_num, fun j hj => by rcases Nat.lt_succ_iff_lt_or_eq.1 hj with h | h; exact Hok.out j h; subst h; exact ⟨fun _ => inB_true.1 hi, fun h => by omega⟩, below_drewN Hb.out _⟩
            case measure => simp [intOf]; omega
          · simp only [Bool.not_eq_true] at hi
            go_wp2
            go_quiet ((go_at_call 95; exact Calls.quiet_of_same (in_any _ _ _ _)))
            clear hs
            go_wp2
            go_ret
            exact ⟨ret_b (isB_false_i k hk5 (fun h => by have := inB_true.2 (h.1 hkp); rw [hi] at this; cases this)).symm, bel_new (below_drewN Hb.out _) (by omega)⟩
        · have hkp' : decide (p ≤ (k : Int)) = true := by simp; omega
          have hkp2 : decide ((k : Int) < p) = false := by simp; omega
          by_cases hz : t k = 0
          · have hz' : (t k != 0) = false := by simp [hz]
            have HZ := Lib.hid hz
            clear hz
            go_wp2
            go_quiet (fail)
            go_wp2
            go_roundw
            case rel => exact ⟨k + 1, by omega, by go_num, fun j hj => by rcases Nat.lt_succ_iff_lt_or_eq.1 hj with h | h; exact Hok.out j h; subst h; exact ⟨fun _ => by omega, fun h => HZ.out⟩, below_drewN Hb.out _⟩
            case measure => simp [intOf]; omega
          · have hz' : (t k != 0) = true := by simp [hz]
            go_wp2
            go_quiet (fail)
            go_wp2
            go_ret
            exact ⟨ret_b (isB_false_i k hk5 (fun h => hz (h.2 (by omega)))).symm, bel_new (below_drewN Hb.out _) (by omega)⟩
      · clear hb
        go_wp2
        go_ret
        exact ⟨ret_b (Hfin.out (fun j hj => Hok.out j (by omega))).symm, bel_new Hb.out (by omega)⟩
  · have hin : inB p 1 5 = false := by rw [Bool.eq_false_iff]; intro h'; exact h (inB_true.1 h')
    rw [isB_false_p h]
    simp only [mv, mcells]
    go_enter Try.func78, Try.ntmps78
    go_wp2_with (go_at_call 95; refine (in_any _ _ _ _).mono ?_; rintro e w' ⟨rfl, rfl⟩)
    go_ret
    exact ⟨rfl, (Below.refl _ _).alloc (Nat.le_refl _) _⟩

/-- spec.IsMap -/
theorem sis_any (p : Int) (t : Nat → Int) (w : World) :
    Calls Try.prog 18 #[mv p t] w fun e w' => e = .returned (.bool (isB p t)) ∧ Below w.heap.size w w' := by
  simp only [mv, mcells]
  go_enter Try.func18, Try.ntmps18
  go_wp2_with (go_at_call 78; refine (lis_any p t _).mono ?_; rintro e w' ⟨rfl, hb⟩)
  go_ret
  exact ⟨rfl, bel_new hb (by simp)⟩
end Go.Proofs.Ytooeiafkhdiepaa
