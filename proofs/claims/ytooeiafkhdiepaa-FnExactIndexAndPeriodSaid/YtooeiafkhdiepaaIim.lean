/- The contract of impl.IsMap: it answers as isB. -/
import Derived.Test.YtooeiafkhdiepaaBlk
namespace Go.Proofs.Ytooeiafkhdiepaa
open Go.RowKit

theorem idx5 (t : Nat → Int) (k : Nat) (hk : k < 5) (w : World) :
    (Instr.index 24 (.agg #[.int .i64 (t 0), .int .i64 (t 1), .int .i64 (t 2), .int .i64 (t 3), .int .i64 (t 4)]) (.int .i64 (k : Int))).run Try.prog w = .ok (.int .i64 (t k)) w := by
  rcases (by omega : k = 0 ∨ k = 1 ∨ k = 2 ∨ k = 3 ∨ k = 4) with rfl | rfl | rfl | rfl | rfl <;> kernel_rfl

theorem iis_any (p : Int) (t : Nat → Int) (w : World) :
    Calls Try.prog 17 #[mv p t] w fun e w' => e = .returned (.bool (isB p t)) ∧ Below w.heap.size w w' := by
  by_cases h : 1 ≤ p ∧ p ≤ 5
  · obtain ⟨h1, h5⟩ := h
    have hfin : (∀ j, j < 5 → okAt p t j) → isB p t = true := fun h => isB_true.2 ⟨h1, h5, h⟩
    have Hfin := Lib.hid hfin
    clear hfin
    simp only [mv, mcells]
    go_enter Try.func17, Try.ntmps17
    go_wp2_with fail
    go_loopw [3, 4, 15] (fun u v i wr => ∃ (k : Nat), k ≤ 5 ∧ i = .int .i64 k ∧ (∀ j, j < k → okAt p t j) ∧ Below (w.heap.size + 1) (w.alloc (.cells (mcells p t) 26)) wr) (fun u v i _ => 5 - (intOf i).toNat)
    case atStart => exact ⟨0, by omega, rfl, by omega, Below.refl _ _⟩
    case round =>
      obtain ⟨k, hk, rfl, hok, hb⟩ := hrel
      have hp := new_cell hb (Nat.lt_succ_self _) 0
      simp only [mcells, List.getElem?_toArray, List.getElem?_cons_zero] at hp
      have Hok := Lib.hid hok
      have Hb := Lib.hid hb
      clear hok
      by_cases hk5 : k < 5
      · have hk5' : (k : Int) < 5 := by omega
        have hix := idx5 t k hk5
        clear hb
        by_cases hlo : t k < 0
        · go_wp2
          go_ret
          exact ⟨ret_b (isB_false_i k hk5 (fun h => by unfold okAt at h; omega)).symm, bel_new Hb.out (by omega)⟩
        · by_cases hhi : p ≤ t k
          · go_wp2
            go_ret
            exact ⟨ret_b (isB_false_i k hk5 (fun h => by unfold okAt at h; omega)).symm, bel_new Hb.out (by omega)⟩
          · by_cases hkp : p ≤ (k : Int)
            · by_cases hz : t k = 0
              · have hz' : (t k != 0) = false := by simp [hz]
                have HZ := Lib.hid hz
                clear hz
                go_wp2
                go_roundw
                case rel => exact ⟨k + 1, by omega, by go_num, fun j hj => by rcases Nat.lt_succ_iff_lt_or_eq.1 hj with h | h; exact Hok.out j h; subst h; exact ⟨fun _ => by omega, fun h => HZ.out⟩, Hb.out⟩
                case measure => simp [intOf]; omega
              · have hz' : (t k != 0) = true := by simp [hz]
                go_wp2
                go_ret
                exact ⟨ret_b (isB_false_i k hk5 (fun h => hz (h.2 (by omega)))).symm, bel_new Hb.out (by omega)⟩
            · go_wp2
              go_roundw
              case rel => exact ⟨k + 1, by omega, by go_num, fun j hj => by rcases Nat.lt_succ_iff_lt_or_eq.1 hj with h | h; exact Hok.out j h; subst h; exact ⟨fun _ => by omega, fun h => by omega⟩, Hb.out⟩
              case measure => simp [intOf]; omega
      · clear hb
        go_wp2
        go_ret
        exact ⟨ret_b (Hfin.out (fun j hj => Hok.out j (by omega))).symm, bel_new Hb.out (by omega)⟩
  · rw [isB_false_p h]
    by_cases h1 : p < 1
    · simp only [mv, mcells]
      go_enter Try.func17, Try.ntmps17
      go_wp2
      go_ret
      exact ⟨rfl, (Below.refl _ _).alloc (Nat.le_refl _) _⟩
    · have h5 : 5 < p := by omega
      clear h
      simp only [mv, mcells]
      go_enter Try.func17, Try.ntmps17
      go_wp2
      go_ret
      exact ⟨rfl, (Below.refl _ _).alloc (Nat.le_refl _) _⟩
end Go.Proofs.Ytooeiafkhdiepaa
