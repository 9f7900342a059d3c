/- The contracts of spec.l01Bits and spec.l01Moved. -/
import Derived.Test.YtiakoplfknkhmaaBitm
namespace Go.Proofs.Ytiakoplfknkhmaa
open Go.RowKit

set_option maxHeartbeats 1000000 in
theorem sbits_any (p : Int) (h5 : p ≤ 5) (L : List Int) (hp : ptsB p L = true) (hn : L.length ≤ 1048576) (a : Option Addr) (c : Nat) (w : World) (h : InRow w a L) :
    Calls Try.prog 57 #[.slice a L.length c] w fun e w' => e = .returned (.int .i64 (mask (memB L))) ∧ w' = w := by
  have HN := Lib.hid h
  have HP := Lib.hid fun k hk => ptsB_at hp k hk
  clear h hp
  go_enter Try.func57, Try.ntmps57
  go_wp2_with fail
  go_loopw [3, 4] (fun v i wr => ∃ k : Nat, k ≤ L.length ∧ i = .int .i64 k ∧ v = .int .i64 (mask (memK L k)) ∧ wr = w) (fun _ i _ => L.length - (intOf i).toNat)
  case atStart => exact ⟨0, by omega, rfl, rfl, rfl⟩
  case round =>
    obtain ⟨k, hk, rfl, rfl, rfl⟩ := hrel
    have hbd := mask_bd (memK L k)
    by_cases hkl : k < L.length
    · obtain ⟨b, off, rfl, hlt, hin⟩ := HN.out.resolve_left (fun e => by rw [e] at hkl; simp at hkl)
      have hkl' : (k : Int) < (L.length : Int) := by omega
      have e1 := hin k hkl
      obtain ⟨f0, f1⟩ := HP.out k hkl
      have f5 : L.getD k 0 < 5 := by omega
      have hor := or_mask (memK L k) (L.getD k 0).toNat (by omega)
      rw [memK_succ L k f0] at hor
      have HOR := Lib.hid hor
      clear hor hin
      generalize L.getD k 0 = X at *
      generalize mask (memK L k) = M at *
      go_wp2_with fail
      go_roundw
      case rel => exact ⟨k + 1, by omega, by go_num, by rw [HOR.out], trivial⟩
      case measure => simp [intOf]; omega
    · obtain rfl : k = L.length := by omega
      go_wp2_with fail
      go_ret
      exact ⟨rfl, rfl⟩



end Go.Proofs.Ytiakoplfknkhmaa
