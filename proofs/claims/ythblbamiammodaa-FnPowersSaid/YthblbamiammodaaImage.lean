/- The contracts of spec.l01Image, spec.l01Ones and spec.l01Rank. -/
import Derived.Test.YthblbamiammodaaSl
namespace Go.Proofs.Ythblbamiammodaa
open Go.RowKit

theorem or_mask (b : Nat → Bool) (j : Nat) (hj : j < 5) : bits BinOp.or IntKind.i64 (mask b) (wrap64 (2 ^ j)) = mask (setB b j) := by
  unfold mask setB
  rcases (by omega : j = 0 ∨ j = 1 ∨ j = 2 ∨ j = 3 ∨ j = 4) with rfl | rfl | rfl | rfl | rfl <;> cases b 0 <;> cases b 1 <;> cases b 2 <;> cases b 3 <;> cases b 4 <;> decide +kernel

/-- The number of the digits 1. -/
def ones : Nat → Nat → Int
  | 0, _ => 0
  | f + 1, n => if n = 0 then 0 else (n % 2 : Nat) + ones f (n / 2)

theorem ones_mask (b : Nat → Bool) : ones 6 (mask b).toNat = (asc b).length := by
  unfold mask asc ascK
  simp only [List.range, List.range.loop, List.filter]
  cases b 0 <;> cases b 1 <;> cases b 2 <;> cases b 3 <;> cases b 4 <;> decide +kernel

set_option maxHeartbeats 1000000 in
theorem simg_any (p : Int) (t : Nat → Int) (hf : isB p t = true) (w : World) :
    Calls Try.prog 48 #[mv p t] w fun e w' => e = .returned (.int .i64 (mask (imgB p t))) ∧ Below w.heap.size w w' := by
  obtain ⟨h1, h5⟩ := isB_pts hf
  have HF := Lib.hid hf
  clear hf
  simp only [mv, mcells]
  go_enter Try.func48, Try.ntmps48
  go_wp2_with fail
  go_loopw [3, 4] (fun v i wr => ∃ (k : Nat), (k : Int) ≤ p ∧ i = .int .i64 k ∧ v = .int .i64 (mask (imgK t k)) ∧ Below (w.heap.size + 1) (w.alloc (.cells (mcells p t) 26)) wr) (fun _ i _ => (p - intOf i).toNat)
  case atStart => exact ⟨0, by omega, rfl, rfl, Below.refl _ _⟩
  case round =>
    obtain ⟨k, hk, rfl, rfl, hb⟩ := hrel
    have hp := (new_cell hb (Nat.lt_succ_self _) 0)
    simp only [mcells, List.getElem?_toArray, List.getElem?_cons_zero] at hp
    have hbd := mask_bd (imgK t k)
    by_cases hkp : (k : Int) < p
    · obtain ⟨f0, f1, k5⟩ := ok_at HF.out k hkp
      have f5 : t k < 5 := by omega
      have hc := (new_cell hb (Nat.lt_succ_self _) (1 + k)).trans (mcells_at p t k k5)
      have Hb := Lib.hid hb
      clear hb
      have hk5 : (k : Int) < 5 := by omega
      have hor := or_mask (imgK t k) (t k).toNat (by omega)
      rw [imgK_succ t k f0] at hor
      have HOR := Lib.hid hor
      clear hor
      generalize mask (imgK t k) = M at *
      go_wp2_with fail
      go_roundw
      case rel => exact ⟨k + 1, by omega, by go_num, by rw [HOR.out], Hb.out⟩
      case measure => simp [intOf]; omega
    · have hK : mask (imgK t k) = mask (imgB p t) := by unfold imgB; rw [show p.toNat = k by omega]
      have HK := Lib.hid hK
      clear hK
      have Hb := Lib.hid hb
      clear hb
      go_wp2_with fail
      go_ret
      exact ⟨ret_i HK.out, bel_new Hb.out (by omega)⟩

set_option maxHeartbeats 1000000 in
theorem sones_any (n0 : Nat) (hn : n0 ≤ 31) (w : World) :
    Calls Try.prog 76 #[.int .i64 n0] w fun e w' => e = .returned (.int .i64 (ones 6 n0)) ∧ w' = w := by
  rcases (by omega : n0 = 0 ∨ n0 = 1 ∨ n0 = 2 ∨ n0 = 3 ∨ n0 = 4 ∨ n0 = 5 ∨ n0 = 6 ∨ n0 = 7 ∨ n0 = 8 ∨ n0 = 9 ∨ n0 = 10 ∨ n0 = 11 ∨ n0 = 12 ∨ n0 = 13 ∨ n0 = 14 ∨ n0 = 15 ∨ n0 = 16 ∨ n0 = 17 ∨ n0 = 18 ∨ n0 = 19 ∨ n0 = 20 ∨ n0 = 21 ∨ n0 = 22 ∨ n0 = 23 ∨ n0 = 24 ∨ n0 = 25 ∨ n0 = 26 ∨ n0 = 27 ∨ n0 = 28 ∨ n0 = 29 ∨ n0 = 30 ∨ n0 = 31) with rfl | rfl | rfl | rfl | rfl | rfl | rfl | rfl | rfl | rfl | rfl | rfl | rfl | rfl | rfl | rfl | rfl | rfl | rfl | rfl | rfl | rfl | rfl | rfl | rfl | rfl | rfl | rfl | rfl | rfl | rfl | rfl
  all_goals
    go_enter Try.func76, Try.ntmps76
    go_wp2
    refine wp_loop_rounds 7 ?_
    repeat (rw [rounds_succ]; go_wp2)
    go_ret
    exact ⟨ret_i (by decide), rfl⟩

theorem srank_any (p : Int) (t : Nat → Int) (hf : isB p t = true) (w : World) :
    Calls Try.prog 57 #[mv p t] w fun e w' => e = .returned (.int .i64 (asc (imgB p t)).length) ∧ Below w.heap.size w w' := by
  have HI := Lib.hid fun w => simg_any p t hf w
  have hbd := mask_bd (imgB p t)
  have hnn : mask (imgB p t) = ((mask (imgB p t)).toNat : Int) := by omega
  have HO := fun w => sones_any (mask (imgB p t)).toNat (by omega) w
  rw [ones_mask, ← hnn] at HO
  have HO := Lib.hid HO
  clear hnn hbd
  simp only [mv, mcells]
  go_enter Try.func57, Try.ntmps57
  go_wp2_with fail
  (refine (HI.out _).mono ?_; rintro e w1 ⟨rfl, hb⟩; obtain ⟨hc, hf⟩ := bcell hb; have hz := hb.size; have Hb := Lib.hid hb; (try simp at hz hc hf); (try (have hy := Nat.lt_of_succ_le hz)); have hz0 : w.heap.size < w1.heap.size := (by omega); clear hb)
  go_wp2_with fail
  refine (HO.out _).mono ?_
  rintro e w2 ⟨rfl, rfl⟩
  go_wp2_with fail
  go_ret
  refine ⟨rfl, ?_⟩
  (repeat' (first | (with_reducible exact Below.refl _ _) | (with_reducible refine Below.alloc ?_ ?_ _) | (with_reducible refine Below.setCell ?_ ?_ _) | (with_reducible refine Below.drew ?_) | (with_reducible refine below_drewN ?_ _) | (with_reducible refine Below.trans ?_ (Below.mono (Hid.out (by assumption)) ?_)) | omega | (simp; done) | (simp; omega)))
end Go.Proofs.Ythblbamiammodaa
