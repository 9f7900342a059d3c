/- The contracts of spec.l01Bits and spec.l01Moved. -/
import Derived.Test.YthdjajelbpccpaaDoorBitm
namespace Go.Proofs.YthdjajelbpccpaaDoor
open Go.RowKit

set_option maxHeartbeats 1000000 in
theorem sbits_any (p : Int) (h5 : p ≤ 5) (L : List Int) (hp : ptsB p L = true) (hn : L.length ≤ 1048576) (a : Option Addr) (c : Nat) (w : World) (h : InRow w a L) :
    Calls Tryd.prog 40 #[.slice a L.length c] w fun e w' => e = .returned (.int .i64 (mask (memB L))) ∧ w' = w := by
  have HN := Lib.hid h
  have HP := Lib.hid fun k hk => ptsB_at hp k hk
  clear h hp
  go_enter Tryd.func40, Tryd.ntmps40
  go_wp2_with fail
  go_loopw [3, 4] (fun v i wr => ∃ k : Nat, k ≤ L.length ∧ i = .int .i64 k ∧ v = .int .i64 (mask (memK L k)) ∧ wr = w) (fun _ i _ => L.length - (intOf i).toNat)
  case atStart => exact ⟨0, by omega, rfl, rfl, rfl⟩
  case round =>
    obtain ⟨k, hk, rfl, rfl, rfl⟩ := hrel
    have hbd := mask_bd (memK L k)
    by_cases hkl : k < L.length
    · obtain ⟨b, off, rfl, hlt, hin⟩ := HN.out.resolve_left (fun e => by rw [e] at hkl; simp at hkl)
      have hkl' : (k : Int) < (L.length : Int) := by omega
      have e1 := hin k hkl
      obtain ⟨f0, f1⟩ := HP.out k hkl
      have f5 : L.getD k 0 < 5 := by omega
      have hor := or_mask (memK L k) (L.getD k 0).toNat (by omega)
      rw [memK_succ L k f0] at hor
      have HOR := Lib.hid hor
      clear hor hin
      generalize L.getD k 0 = X at *
      generalize mask (memK L k) = M at *
      go_wp2_with fail
      go_roundw
      case rel => exact ⟨k + 1, by omega, by go_num, by rw [HOR.out], trivial⟩
      case measure => simp [intOf]; omega
    · obtain rfl : k = L.length := by omega
      go_wp2_with fail
      go_ret
      exact ⟨rfl, rfl⟩

set_option maxHeartbeats 1000000 in
theorem smoved_any (p : Int) (t : Nat → Int) (hf : isB p t = true) (s : Nat → Bool) (w : World) :
    Calls Tryd.prog 39 #[mv p t, .int .i64 (mask s)] w fun e w' => e = .returned (.int .i64 (mask (movK t s p.toNat))) ∧ Below w.heap.size w w' := by
  obtain ⟨h1, h5⟩ := isB_pts hf
  have HF := Lib.hid hf
  clear hf
  have hMd := mask_bd s
  simp only [mv, mcells]
  go_enter Tryd.func39, Tryd.ntmps39
  go_wp2_with fail
  go_loopw [5, 6] (fun v i wr => ∃ (k : Nat), (k : Int) ≤ p ∧ i = .int .i64 k ∧ v = .int .i64 (mask (movK t s k)) ∧ Below (w.heap.size + 1) (w.alloc (.cells (mcells p t) 54)) wr) (fun _ i _ => (p - intOf i).toNat)
  case atStart => exact ⟨0, by omega, rfl, rfl, Below.refl _ _⟩
  case round =>
    obtain ⟨k, hk, rfl, rfl, hb⟩ := hrel
    have hp := (new_cell hb (Nat.lt_succ_self _) 0)
    simp only [mcells, List.getElem?_toArray, List.getElem?_cons_zero] at hp
    have hbd := mask_bd (movK t s k)
    by_cases hkp : (k : Int) < p
    · obtain ⟨f0, f1, k5⟩ := ok_at HF.out k hkp
      have f5 : t k < 5 := by omega
      have hc := (new_cell hb (Nat.lt_succ_self _) (1 + k)).trans (mcells_at p t k k5)
      have Hb := Lib.hid hb
      clear hb
      have hk5 : (k : Int) < 5 := by omega
      have hand := and_mask s k k5
      have hor := or_mask (movK t s k) (t k).toNat (by omega)
      cases hs : s k
      · have HNO := Lib.hid (movK_no t s k hs)
        rw [hs] at hand
        clear hs hor
        generalize hM : mask (movK t s k) = M at *
        have HM := Lib.hid hM
        clear hM
        generalize mask s = S at *
        go_wp2_with fail
        go_roundw
        case rel => exact ⟨k + 1, by omega, by go_num, by rw [← HNO.out, HM.out], Hb.out⟩
        case measure => simp [intOf]; omega
      · rw [movK_yes t s k hs f0] at hor
        rw [hs] at hand
        have HOR := Lib.hid hor
        clear hor hs
        generalize mask (movK t s k) = M at *
        generalize mask s = S at *
        go_wp2_with fail
        go_roundw
        case rel => exact ⟨k + 1, by omega, by go_num, by rw [HOR.out], Hb.out⟩
        case measure => simp [intOf]; omega
    · have hK : mask (movK t s k) = mask (movK t s p.toNat) := by rw [show p.toNat = k by omega]
      have HK := Lib.hid hK
      clear hK
      have Hb := Lib.hid hb
      clear hb
      go_wp2_with fail
      go_ret
      exact ⟨ret_i HK.out, bel_new Hb.out (by omega)⟩

end Go.Proofs.YthdjajelbpccpaaDoor
