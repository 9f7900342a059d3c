/- The contracts of spec.CountByFixed, spec.CountIdempotents and spec.CountByRank. -/
import Derived.Test.YtfghegjlilcafaaCni
import Derived.Deep.RegionHeld3
import Derived.StillTailTactics
namespace Go.Proofs.Ytfghegjlilcafaa
open Go Go.RowKit

set_option maxRecDepth 100000 in
set_option maxHeartbeats 2000000 in
theorem scbf_any (n : Int) (w : World) :
    Calls Try.prog 29 #[.int .i64 n] w (RetRow w.heap.size (cmL9 1 0 n) (rgC n 12) w) := by
  have HIN := Lib.hid fun w => in_any n 1 12 w
  by_cases hn : 1 ≤ n ∧ n ≤ 12
  rotate_left
  · have hin : inB n 1 12 = false := by rw [Bool.eq_false_iff]; intro h; exact hn (inB_true.1 h)
    rw [hin] at HIN
    rw [cmL9_no hn, rg_no hn]
    clear hn hin
    go_enter Try.func29, Try.ntmps29
    go_wp2_with fail
    refine (HIN.out _).mono ?_
    rintro e w2 ⟨rfl, rfl⟩
    go_wp2_with fail
    go_ret2
    exact ⟨none, 0, rfl, ⟨by simp, Or.inl rfl⟩, Below.refl _ _⟩
  have hin : inB n 1 12 = true := inB_true.2 hn
  rw [hin] at HIN
  rw [cmL9_yes hn, rg_yes hn]
  obtain ⟨m, rfl⟩ := Int.eq_ofNat_of_zero_le (show 0 ≤ n by omega)
  simp only [Int.toNat_natCast]
  have hm1 : 1 ≤ m := by omega
  have hm2 : m ≤ 12 := by omega
  have hm1' : 1 ≤ (m : Int) := hn.1
  have hm2' : (m : Int) ≤ 12 := hn.2
  have HS := Lib.hid (cnL_succ 1 m 0)
  have HLL := Lib.hid (cnL_len 1 m 0)
  clear hn hin
  go_enter Try.func29, Try.ntmps29
  go_wp2_with fail
  refine (HIN.out _).mono ?_
  rintro e w2 ⟨rfl, rfl⟩
  go_wp2_with fail
  go_loopw [4, 5] (fun v i wr => ∃ j : Nat, j ≤ m + 1 ∧ i = .int .i64 (j : Int) ∧ Own wr w2.heap.size v (cnL 1 m 0 j) ∧ Below w2.heap.size w2 wr) (fun _ i _ => m + 1 - (intOf i).toNat)
  case atStart => exact ⟨0, by omega, rfl, own_empty w2 w2.heap.size (Nat.le_refl _), (Below.refl _ _).alloc (Nat.le_refl _) _⟩
  case round =>
    obtain ⟨j, hj, rfl, hown, hb⟩ := hrel
    have HO := Lib.hid hown
    have HB := Lib.hid hb
    have hsz := hb.size
    clear hown hb
    by_cases hjm : j ≤ m
    · have hjm' : (j : Int) ≤ (m : Int) := by omega
      have HK := Lib.hid fun w => schs_any m j hm2 hjm w
      have HP := Lib.hid fun w => spw9_any (m - 1) (m - j) (by omega) (by omega) w
      have hm : ckN m j * pwN (m - 1) (m - j) ≤ 10000000000000 := (kd_bd hm2 hjm).2.1
      obtain ⟨b1, b2⟩ := mulI hm
      have hE : Hid ((ckN m j : Int) * (pwN (m - 1) (m - j) : Int) = (kdN 1 m (0 + j) : Int)) := Lib.hid (by rw [Nat.zero_add]; show _ = ((ckN m j * pwN (m - 1) (m - j) : Nat) : Int); simp)
      have e1 : ((m - 1 : Nat) : Int) = (m : Int) - 1 := by omega
      have e2 : ((m - j : Nat) : Int) = (m : Int) - (j : Int) := by omega
      rw [e1, e2] at HP
      have HSJ := Lib.hid (HS.out j)
      have HLJ := Lib.hid (HLL.out j)
      clear hm e1 e2
      rw [← hE.out] at HSJ
      generalize ckN m j = x at *
      generalize pwN (m - 1) (m - j) = y at *
      go_wp2_with fail
      refine (HK.out _).mono ?_
      rintro e w3 ⟨rfl, rfl⟩
      go_wp2_with fail
      refine (HP.out _).mono ?_
      rintro e w4 ⟨rfl, rfl⟩
      go_wp2_with (at_builtin; refine wpList_app9 rfl _ _ rfl w2.heap.size _ (cnL 1 m 0 j) rfl (HO.out.alloc _) w4.heap.size 1 ((x : Int) * (y : Int)) rfl (halloc_at _ _ _ rfl) (by rw [HLJ.out]; omega) (by simp; omega) ?_; intro v' w5 ho hg _)
      have hb3 : Below w2.heap.size w2 w5 := (HB.out.alloc (by omega) _).grown hg (by simp; omega) (fun b hbk => (HO.out.lt b hbk).1)
      rw [← HSJ.out] at ho
      have HO3 := Lib.hid ho
      have HB3 := Lib.hid hb3
      clear ho hg hb3
      go_wp2_with fail
      go_roundw
      case rel => exact ⟨j + 1, by omega, by go_num, HO3.out, HB3.out⟩
      case measure => simp [intOf]; omega
    · have hjm' : ¬ ((j : Int) ≤ (m : Int)) := by omega
      have hje : j = m + 1 := by omega
      subst hje
      obtain ⟨a, c, rfl, hrd⟩ := own_rd HO.out (by rw [HLL.out]; omega)
      have HR := Lib.hid hrd
      clear hrd
      go_wp2_with fail
      go_ret2
      exact ⟨a, c, rfl, HR.out, HB.out⟩

set_option maxRecDepth 100000 in
set_option maxHeartbeats 2000000 in
theorem scid_any (n : Int) (w : World) :
    Calls Try.prog 31 #[.int .i64 n] w fun e w' => e = .returned (idV9 n) ∧ Below w.heap.size w w' := by
  have HIN := Lib.hid fun w => in_any n 1 12 w
  by_cases hn : 1 ≤ n ∧ n ≤ 12
  rotate_left
  · have hin : inB n 1 12 = false := by rw [Bool.eq_false_iff]; intro h; exact hn (inB_true.1 h)
    rw [hin] at HIN
    rw [idV9_no hn]
    clear hn hin
    go_enter Try.func31, Try.ntmps31
    go_wp2_with fail
    refine (HIN.out _).mono ?_
    rintro e w2 ⟨rfl, rfl⟩
    go_wp2_with fail
    go_ret2
    exact ⟨rfl, Below.refl _ _⟩
  have hin : inB n 1 12 = true := inB_true.2 hn
  rw [hin] at HIN
  obtain ⟨m, rfl⟩ := Int.eq_ofNat_of_zero_le (show 0 ≤ n by omega)
  rw [idV9_yes (by omega) (by omega)]
  have hm1 : 1 ≤ m := by omega
  have hm2 : m ≤ 12 := by omega
  have hm1' : 1 ≤ (m : Int) := hn.1
  have hm2' : (m : Int) ≤ 12 := hn.2
  clear hn hin
  go_enter Try.func31, Try.ntmps31
  go_wp2_with fail
  refine (HIN.out _).mono ?_
  rintro e w2 ⟨rfl, rfl⟩
  go_wp2_with fail
  go_loop [4, 5] (fun s i => ∃ j : Nat, j ≤ m ∧ i = .int .i64 ((1 + j : Nat) : Int) ∧ s = .int .i64 (smN 2 m 1 j : Int)) (fun _ i => m + 1 - (intOf i).toNat)
  case atStart => exact ⟨0, by omega, rfl, rfl⟩
  case round =>
    obtain ⟨j, hj, rfl, rfl⟩ := hrel
    by_cases hjm : 1 + j ≤ m
    · have HK := Lib.hid fun w => schs_any m (1 + j) hm2 hjm w
      have HP := Lib.hid fun w => spw9_any (1 + j) (m - (1 + j)) (by omega) (by omega) w
      have hmm : ckN m (1 + j) * pwN (1 + j) (m - (1 + j)) ≤ 10000000000000 := (kd_bd hm2 hjm).2.2
      obtain ⟨b1, b2⟩ := mulI hmm
      have b3 := smN_bd hm2 j (by omega)
      have b4 : smN 2 m 1 j ≤ 200000000000000 := by omega
      have hE : Hid ((smN 2 m 1 j : Int) + (ckN m (1 + j) : Int) * (pwN (1 + j) (m - (1 + j)) : Int) = (smN 2 m 1 (j + 1) : Int)) := Lib.hid (by show _ = ((smN 2 m 1 j + ckN m (1 + j) * pwN (1 + j) (m - (1 + j)) : Nat) : Int); simp)
      have e2 : ((m - (1 + j) : Nat) : Int) = (m : Int) - ((1 + j : Nat) : Int) := by omega
      have hG : Hid (((1 + j : Nat) : Int) + 1 = ((1 + (j + 1) : Nat) : Int)) := Lib.hid (by omega)
      rw [e2] at HP
      have hj1 : j + 1 ≤ m := by omega
      clear hmm e2 b3
      generalize smN 2 m 1 j = z at *
      generalize pwN (1 + j) (m - (1 + j)) = y at *
      generalize ckN m (1 + j) = x at *
      generalize hN : 1 + j = N at *
      have hjm' : (N : Int) ≤ (m : Int) := by omega
      have hN1 : m + 1 - (N + 1) < m + 1 - N := by omega
      clear hN
      go_wp2_with fail
      refine (HK.out _).mono ?_
      rintro e w3 ⟨rfl, rfl⟩
      go_wp2_with fail
      refine (HP.out _).mono ?_
      rintro e w4 ⟨rfl, rfl⟩
      go_wp2_with fail
      go_round
      case rel => exact ⟨j + 1, hj1, by rw [← hG.out], by rw [← hE.out]⟩
      case measure => simp [intOf]; omega
    · have hjm' : ¬ (((1 + j : Nat) : Int) ≤ (m : Int)) := by omega
      obtain rfl : j = m := by omega
      go_wp2_with fail
      go_ret2
      exact ⟨rfl, Below.refl _ _⟩

end Go.Proofs.Ytfghegjlilcafaa
