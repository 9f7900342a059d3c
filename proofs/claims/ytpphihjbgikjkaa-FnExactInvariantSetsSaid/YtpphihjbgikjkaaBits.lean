/- The contracts of spec.l01Bits and spec.l01Moved. -/
import Derived.Test.YtpphihjbgikjkaaBitm
namespace Go.Proofs.Ytpphihjbgikjkaa
open Go.RowKit



set_option maxHeartbeats 1000000 in
theorem smoved_any (p : Int) (t : Nat → Int) (hf : isB p t = true) (s : Nat → Bool) (w : World) :
    Calls Try.prog 41 #[mv p t, .int .i64 (mask s)] w fun e w' => e = .returned (.int .i64 (mask (movK t s p.toNat))) ∧ Below w.heap.size w w' := by
  obtain ⟨h1, h5⟩ := isB_pts hf
  have HF := Lib.hid hf
  clear hf
  have hMd := mask_bd s
  simp only [mv, mcells]
  go_enter Try.func41, Try.ntmps41
  go_wp2_with fail
  go_loopw [5, 6] (fun v i wr => ∃ (k : Nat), (k : Int) ≤ p ∧ i = .int .i64 k ∧ v = .int .i64 (mask (movK t s k)) ∧ Below (w.heap.size + 1) (w.alloc (.cells (mcells p t) 28)) wr) (fun _ i _ => (p - intOf i).toNat)
  case atStart => exact ⟨0, by omega, rfl, rfl, Below.refl _ _⟩
  case round =>
    obtain ⟨k, hk, rfl, rfl, hb⟩ := hrel
    have hp := (new_cell hb (Nat.lt_succ_self _) 0)
    simp only [mcells, List.getElem?_toArray, List.getElem?_cons_zero] at hp
    have hbd := mask_bd (movK t s k)
    by_cases hkp : (k : Int) < p
    · obtain ⟨f0, f1, k5⟩ := ok_at HF.out k hkp
      have f5 : t k < 5 := by omega
      have hc := (new_cell hb (Nat.lt_succ_self _) (1 + k)).trans (mcells_at p t k k5)
      have Hb := Lib.hid hb
      clear hb
      have hk5 : (k : Int) < 5 := by omega
      have hand := and_mask s k k5
      have hor := or_mask (movK t s k) (t k).toNat (by omega)
      cases hs : s k
      · have HNO := Lib.hid (movK_no t s k hs)
        rw [hs] at hand
        clear hs hor
        generalize hM : mask (movK t s k) = M at *
        have HM := Lib.hid hM
        clear hM
        generalize mask s = S at *
        go_wp2_with fail
        go_roundw
        case rel => exact ⟨k + 1, by omega, by go_num, by rw [← HNO.out, HM.out], Hb.out⟩
        case measure => simp [intOf]; omega
      · rw [movK_yes t s k hs f0] at hor
        rw [hs] at hand
        have HOR := Lib.hid hor
        clear hor hs
        generalize mask (movK t s k) = M at *
        generalize mask s = S at *
        go_wp2_with fail
        go_roundw
        case rel => exact ⟨k + 1, by omega, by go_num, by rw [HOR.out], Hb.out⟩
        case measure => simp [intOf]; omega
    · have hK : mask (movK t s k) = mask (movK t s p.toNat) := by rw [show p.toNat = k by omega]
      have HK := Lib.hid hK
      clear hK
      have Hb := Lib.hid hb
      clear hb
      go_wp2_with fail
      go_ret
      exact ⟨ret_i HK.out, bel_new Hb.out (by omega)⟩

end Go.Proofs.Ytpphihjbgikjkaa
