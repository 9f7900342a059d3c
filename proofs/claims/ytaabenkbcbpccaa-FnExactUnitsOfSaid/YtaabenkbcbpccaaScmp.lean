/- slices.Compare at two rows of five. -/
import Derived.Test.YtaabenkbcbpccaaCmp
namespace Go.Proofs.Ytaabenkbcbpccaa
open Go.RowKit

set_option maxHeartbeats 1000000 in
theorem scmp_any (t u : Nat → Int) (g1 g2 : Nat) (w : World) (h1 : ∀ i, i < 5 → w.cell? ⟨g1, 1 + i, none⟩ = some (.int .i64 (t i))) (h2 : ∀ i, i < 5 → w.cell? ⟨g2, 1 + i, none⟩ = some (.int .i64 (u i))) :
    Calls Try.prog 81 #[.slice (some ⟨g1, 1, none⟩) 5 5, .slice (some ⟨g2, 1, none⟩) 5 5] w fun e w' => e = .returned (.int .i64 (cm t u 5)) ∧ ∃ m, w' = w.drewN m := by
  have HC1 := Lib.hid h1
  have HC2 := Lib.hid h2
  clear h1 h2
  go_enter Try.func81, Try.ntmps81
  go_wp2_with fail
  go_loopw [11] (fun i wr => ∃ k : Nat, k ≤ 5 ∧ i = .int .i64 k ∧ (∀ j, j < k → t j = u j) ∧ wr = w) (fun i _ => 5 - (intOf i).toNat)
  case atStart => exact ⟨0, by omega, rfl, by omega, rfl⟩
  case round =>
    obtain ⟨k, hk, rfl, hs, rfl⟩ := hrel
    by_cases hkl : k < 5
    · have hkl' : (k : Int) < 5 := by omega
      have e1 := HC1.out k hkl
      have e2 := HC2.out k hkl
      have hc := cmp_any (t k) (u k) wr
      by_cases he : t k = u k
      · have hz : sg (t k) (u k) = 0 := by rw [he]; unfold sg; rw [if_neg (by omega), if_neg (by omega)]
        rw [hz] at hc
        have HS := Lib.hid hs
        have HE := Lib.hid he
        clear he hz hs
        go_wp2_with (go_at_call 80; refine hc.mono ?_; rintro e w' ⟨rfl, rfl⟩)
        go_roundw
        case rel => exact ⟨k + 1, by omega, by go_num, fun j hj => by rcases Nat.lt_succ_iff_lt_or_eq.1 hj with h | h; exact HS.out j h; subst h; exact HE.out, trivial⟩
        case measure => simp [intOf]; omega
      · have hz := sg_ne he
        have HF := Lib.hid (cm_first t u k hs he 5 hkl)
        clear hs he
        generalize sg (t k) (u k) = X at *
        go_wp2_with (go_at_call 80; refine hc.mono ?_; rintro e w' ⟨rfl, rfl⟩)
        go_ret
        exact ⟨ret_i HF.out.symm, 0, rfl⟩
    · have HF := Lib.hid (cm_same t u 5 (fun j hj => hs j (by omega)))
      clear hs
      go_wp2_with fail
      go_ret
      exact ⟨ret_i HF.out.symm, 0, rfl⟩
end Go.Proofs.Ytaabenkbcbpccaa
