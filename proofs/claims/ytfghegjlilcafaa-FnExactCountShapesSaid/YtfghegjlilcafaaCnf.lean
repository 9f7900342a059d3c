/- The contracts of impl.factorial, choose, toThePower, countOnto, and of the counting methods; spec.l09Choose and spec.l09Power. -/
import Derived.Test.YtfghegjlilcafaaCnn
namespace Go.Proofs.Ytfghegjlilcafaa
open Go Go.RowKit

theorem mulI {a b m : Nat} (h : a * b ≤ m) : 0 ≤ (a : Int) * (b : Int) ∧ (a : Int) * (b : Int) ≤ (m : Int) := by
  rw [← Int.natCast_mul]; omega

theorem ret_n {a : Int} {b : Nat} (h : a = (b : Int)) : Ending.returned (.int .i64 a) = .returned (.int .i64 (b : Int)) := by rw [h]

set_option maxHeartbeats 1000000 in
theorem ifac_any (n : Nat) (hn : n ≤ 12) (w : World) :
    Calls Try.prog 80 #[.int .i64 (n : Int)] w fun e w' => e = .returned (.int .i64 (fcN n : Int)) ∧ w' = w := by
  go_enter Try.func80, Try.ntmps80
  go_wp2_with fail
  go_loop [3, 6] (fun r i => ∃ k : Nat, k ≤ n ∧ i = .int .i64 k ∧ r = .int .i64 (fcN k : Int)) (fun _ i => n - (intOf i).toNat)
  case atStart => exact ⟨0, by omega, rfl, rfl⟩
  case round =>
    obtain ⟨k, hk, rfl, rfl⟩ := hrel
    by_cases hlt : k < n
    · have hlt' : (k : Int) < (n : Int) := by omega
      have hb := (fc_bd (n := k + 1) (by omega)).2
      have hm := mulI (a := fcN k) (b := k + 1) (m := 479001600) hb
      obtain ⟨h1, h2⟩ := hm
      rw [Int.natCast_add] at h1 h2
      simp only [Int.cast_ofNat_Int] at h1 h2
      have hE : Hid ((fcN k : Int) * ((k : Int) + 1) = (fcN (k + 1) : Int)) := Lib.hid (by show _ = ((fcN k * (k + 1) : Nat) : Int); simp)
      clear hb
      go_wp2_with fail
      go_round
      case rel => exact ⟨k + 1, by omega, by go_num, by rw [← hE.out]⟩
      case measure => simp [intOf]; omega
    · obtain rfl : k = n := by omega
      go_wp2_with fail
      go_ret
      exact ⟨rfl, rfl⟩

set_option maxHeartbeats 1000000 in
theorem ichs_any (n k : Nat) (hn : n ≤ 12) (hk : k ≤ n) (w : World) :
    Calls Try.prog 140 #[.int .i64 (n : Int), .int .i64 (k : Int)] w fun e w' => e = .returned (.int .i64 (ckN n k : Int)) ∧ w' = w := by
  have HA := Lib.hid fun w => ifac_any n hn w
  have HB := Lib.hid fun w => ifac_any k (by omega) w
  have HC := Lib.hid fun w => ifac_any (n - k) (by omega) w
  have hnk : ((n : Int) - (k : Int)) = ((n - k : Nat) : Int) := by omega
  have hkk : (k : Int) ≤ (n : Int) := by omega
  obtain ⟨f1, f2⟩ := fk_bd hn hk
  obtain ⟨m1, m2⟩ := mulI f2
  have m3 : 1 ≤ (fcN k : Int) * (fcN (n - k) : Int) := by rw [← Int.natCast_mul]; omega
  have hfn := (fc_bd hn).2
  have hE : Hid ((fcN n : Int) / ((fcN k : Int) * (fcN (n - k) : Int)) = (ckN n k : Int)) := Lib.hid (by
    rw [← (ch_ck hn hk).1, ← Int.natCast_mul, Int.natCast_ediv])
  have q0 := (ch_ck hn hk).2
  have q1 : 0 ≤ (fcN n : Int) / ((fcN k : Int) * (fcN (n - k) : Int)) := by rw [hE.out]; omega
  have q2 : (fcN n : Int) / ((fcN k : Int) * (fcN (n - k) : Int)) ≤ 1000 := by rw [hE.out]; omega
  rw [← hnk] at HC
  clear hnk f1 f2 m1
  generalize fcN (n - k) = c at *
  generalize fcN k = b at *
  generalize fcN n = a at *
  go_enter Try.func140, Try.ntmps140
  go_wp2_with fail
  refine (HA.out _).mono ?_
  rintro e w' ⟨rfl, rfl⟩
  go_wp2_with fail
  refine (HB.out _).mono ?_
  rintro e w' ⟨rfl, rfl⟩
  go_wp2_with fail
  refine (HC.out _).mono ?_
  rintro e w' ⟨rfl, rfl⟩
  go_wp2_with fail
  go_ret
  exact ⟨ret_n hE.out, rfl⟩

set_option maxHeartbeats 1000000 in
theorem ipw_any (b k : Nat) (hb : b ≤ 12) (hk : k ≤ 12) (w : World) :
    Calls Try.prog 142 #[.int .i64 (b : Int), .int .i64 (k : Int)] w fun e w' => e = .returned (.int .i64 (pwN b k : Int)) ∧ w' = w := by
  go_enter Try.func142, Try.ntmps142
  go_wp2_with fail
  go_loop [5, 7] (fun r i => ∃ j : Nat, j ≤ k ∧ i = .int .i64 j ∧ r = .int .i64 (pwN b j : Int)) (fun _ i => k - (intOf i).toNat)
  case atStart => exact ⟨0, by omega, rfl, rfl⟩
  case round =>
    obtain ⟨j, hj, rfl, rfl⟩ := hrel
    by_cases hlt : j < k
    · have hlt' : (j : Int) < (k : Int) := by omega
      obtain ⟨h1, h2⟩ := mulI (a := pwN b j) (b := b) (m := 8916100448256) (pwN_bd (k := j + 1) hb (by omega))
      have hE : Hid ((pwN b j : Int) * (b : Int) = (pwN b (j + 1) : Int)) := Lib.hid (by show _ = ((pwN b j * b : Nat) : Int); simp)
      go_wp2_with fail
      go_round
      case rel => exact ⟨j + 1, by omega, by go_num, by rw [← hE.out]⟩
      case measure => simp [intOf]; omega
    · obtain rfl : j = k := by omega
      go_wp2_with fail
      go_ret
      exact ⟨rfl, rfl⟩

set_option maxHeartbeats 1000000 in
theorem ionto_step (M K : Nat) (x y z : Nat) (hM : 1 ≤ M) (hK : 1 ≤ K) (hM2 : M ≤ 12) (hK2 : K ≤ 12) (hx : x ≤ 36520347436056576) (hy : y ≤ 36520347436056576) (b4 : (K : Int) * ((x : Int) + (y : Int)) ≤ 36520347436056576)
    (hE : (K : Int) * ((x : Int) + (y : Int)) = (z : Int))
    (HA : ∀ w, Calls Try.prog 141 #[.int .i64 ((M : Int) - 1), .int .i64 (K : Int)] w fun e w' => e = .returned (.int .i64 (x : Int)) ∧ w' = w)
    (HB : ∀ w, Calls Try.prog 141 #[.int .i64 ((M : Int) - 1), .int .i64 ((K : Int) - 1)] w fun e w' => e = .returned (.int .i64 (y : Int)) ∧ w' = w) (w : World) :
    Calls Try.prog 141 #[.int .i64 (M : Int), .int .i64 (K : Int)] w fun e w' => e = .returned (.int .i64 (z : Int)) ∧ w' = w := by
  have b3 : 0 ≤ (K : Int) * ((x : Int) + (y : Int)) := by rw [hE]; omega
  have HE := Lib.hid hE
  have HA := Lib.hid HA
  have HB := Lib.hid HB
  have h1 : ((M : Int) == 0) = false := by simp; omega
  have h2 : ((K : Int) == 0) = false := by simp; omega
  clear hE
  go_enter Try.func141, Try.ntmps141
  go_wp2_with (first
    | (go_at_call 141; (with_reducible refine (HA.out _).mono ?_); rintro e w' ⟨rfl, rfl⟩)
    | (go_at_call 141; (with_reducible refine (HB.out _).mono ?_); rintro e w' ⟨rfl, rfl⟩))
  go_ret
  exact ⟨ret_n HE.out, rfl⟩

set_option maxHeartbeats 1000000 in
theorem ionto_any : ∀ (m k : Nat), m ≤ 12 → k ≤ 12 → ∀ w : World,
    Calls Try.prog 141 #[.int .i64 (m : Int), .int .i64 (k : Int)] w fun e w' => e = .returned (.int .i64 (onN m k : Int)) ∧ w' = w := by
  intro m
  induction m with
  | zero =>
    intro k _ hk w
    cases k with
    | zero =>
      go_enter Try.func141, Try.ntmps141
      go_wp2_with fail
      go_ret
      exact ⟨rfl, rfl⟩
    | succ k =>
      have h1 : (((k + 1 : Nat) : Int) == 0) = false := by simp; omega
      go_enter Try.func141, Try.ntmps141
      go_wp2_with fail
      go_ret
      exact ⟨rfl, rfl⟩
  | succ m ih =>
    intro k hm hk w
    cases k with
    | zero =>
      have h1 : (((m + 1 : Nat) : Int) == 0) = false := by simp; omega
      go_enter Try.func141, Try.ntmps141
      go_wp2_with fail
      go_ret
      exact ⟨rfl, rfl⟩
    | succ k =>
      have e1 : ((m + 1 : Nat) : Int) - 1 = (m : Int) := by omega
      have e2 : ((k + 1 : Nat) : Int) - 1 = (k : Int) := by omega
      have e3 : ((k + 1 : Nat) : Int) * ((onN m (k + 1) : Int) + (onN m k : Int)) = (onN (m + 1) (k + 1) : Int) := by
        show _ = (((k + 1) * (onN m (k + 1) + onN m k) : Nat) : Int)
        rw [Int.natCast_mul, Int.natCast_add (onN m (k + 1))]
      refine ionto_step (m + 1) (k + 1) (onN m (k + 1)) (onN m k) (onN (m + 1) (k + 1)) (by omega) (by omega) hm hk (onN_bd (by omega) hk) (onN_bd (by omega) (by omega)) ?_ e3 (fun w => ?_) (fun w => ?_) w
      · rw [e3]
        have := onN_bd hm hk
        omega
      · rw [e1]; exact ih (k + 1) (by omega) hk w
      · rw [e1, e2]; exact ih k (by omega) (by omega) w

set_option maxHeartbeats 1000000 in
theorem iofr_any (n k : Nat) (hn : n ≤ 12) (hk : k ≤ n) (w : World) :
    Calls Try.prog 125 #[.int .i64 (n : Int), .int .i64 (k : Int)] w fun e w' => e = .returned (.int .i64 (kdN 0 n k : Int)) ∧ w' = w := by
  have HA := Lib.hid fun w => ichs_any n k hn hk w
  have HB := Lib.hid fun w => ionto_any n k hn (by omega) w
  have hm : ckN n k * onN n k ≤ 10000000000000 := (kd_bd hn hk).1
  obtain ⟨b1, b2⟩ := mulI hm
  have hE : Hid ((ckN n k : Int) * (onN n k : Int) = (kdN 0 n k : Int)) := Lib.hid (by show _ = ((ckN n k * onN n k : Nat) : Int); simp)
  clear hm
  generalize ckN n k = a at *
  generalize onN n k = b at *
  go_enter Try.func125, Try.ntmps125
  go_wp2_with fail
  refine (HA.out _).mono ?_
  rintro e w' ⟨rfl, rfl⟩
  go_wp2_with fail
  refine (HB.out _).mono ?_
  rintro e w' ⟨rfl, rfl⟩
  go_wp2_with fail
  go_ret
  exact ⟨ret_n hE.out, rfl⟩

set_option maxHeartbeats 1000000 in
theorem ioff_any (n k : Nat) (hn1 : 1 ≤ n) (hn : n ≤ 12) (hk : k ≤ n) (w : World) :
    Calls Try.prog 126 #[.int .i64 (n : Int), .int .i64 (k : Int)] w fun e w' => e = .returned (.int .i64 (kdN 1 n k : Int)) ∧ w' = w := by
  have HA := Lib.hid fun w => ichs_any n k hn hk w
  have HB := Lib.hid fun w => ipw_any (n - 1) (n - k) (by omega) (by omega) w
  have hm : ckN n k * pwN (n - 1) (n - k) ≤ 10000000000000 := (kd_bd hn hk).2.1
  obtain ⟨b1, b2⟩ := mulI hm
  have hE : Hid ((ckN n k : Int) * (pwN (n - 1) (n - k) : Int) = (kdN 1 n k : Int)) := Lib.hid (by show _ = ((ckN n k * pwN (n - 1) (n - k) : Nat) : Int); simp)
  have e1 : ((n - 1 : Nat) : Int) = (n : Int) - 1 := by omega
  have e2 : ((n - k : Nat) : Int) = (n : Int) - (k : Int) := by omega
  rw [e1, e2] at HB
  clear hm e1 e2
  generalize ckN n k = a at *
  generalize pwN (n - 1) (n - k) = b at *
  go_enter Try.func126, Try.ntmps126
  go_wp2_with fail
  refine (HA.out _).mono ?_
  rintro e w' ⟨rfl, rfl⟩
  go_wp2_with fail
  refine (HB.out _).mono ?_
  rintro e w' ⟨rfl, rfl⟩
  go_wp2_with fail
  go_ret
  exact ⟨ret_n hE.out, rfl⟩

set_option maxHeartbeats 1000000 in
theorem iofi_any (n k : Nat) (hn : n ≤ 12) (hk : k ≤ n) (w : World) :
    Calls Try.prog 127 #[.int .i64 (n : Int), .int .i64 (k : Int)] w fun e w' => e = .returned (.int .i64 (kdN 2 n k : Int)) ∧ w' = w := by
  have HA := Lib.hid fun w => ichs_any n k hn hk w
  have HB := Lib.hid fun w => ipw_any k (n - k) (by omega) (by omega) w
  have hm : ckN n k * pwN k (n - k) ≤ 10000000000000 := (kd_bd hn hk).2.2
  obtain ⟨b1, b2⟩ := mulI hm
  have hE : Hid ((ckN n k : Int) * (pwN k (n - k) : Int) = (kdN 2 n k : Int)) := Lib.hid (by show _ = ((ckN n k * pwN k (n - k) : Nat) : Int); simp)
  have e2 : ((n - k : Nat) : Int) = (n : Int) - (k : Int) := by omega
  rw [e2] at HB
  clear hm e2
  generalize ckN n k = a at *
  generalize pwN k (n - k) = b at *
  go_enter Try.func127, Try.ntmps127
  go_wp2_with fail
  refine (HA.out _).mono ?_
  rintro e w' ⟨rfl, rfl⟩
  go_wp2_with fail
  refine (HB.out _).mono ?_
  rintro e w' ⟨rfl, rfl⟩
  go_wp2_with fail
  go_ret
  exact ⟨ret_n hE.out, rfl⟩

set_option maxHeartbeats 1000000 in
theorem schs_any (n k : Nat) (hn : n ≤ 12) (hk : k ≤ n) (w : World) :
    Calls Try.prog 68 #[.int .i64 (n : Int), .int .i64 (k : Int)] w fun e w' => e = .returned (.int .i64 (ckN n k : Int)) ∧ w' = w := by
  go_enter Try.func68, Try.ntmps68
  go_wp2_with fail
  go_loop [5, 6] (fun r i => ∃ j : Nat, j ≤ k ∧ i = .int .i64 j ∧ r = .int .i64 (ckN n j : Int)) (fun _ i => k - (intOf i).toNat)
  case atStart => exact ⟨0, by omega, rfl, rfl⟩
  case round =>
    obtain ⟨j, hj, rfl, rfl⟩ := hrel
    by_cases hlt : j < k
    · have hlt' : (j : Int) < (k : Int) := by omega
      have hjn : (j : Int) ≤ (n : Int) := by omega
      have hb := ckN_bd (n := n) (k := j) hn (by omega)
      have hb2 := ckN_bd (n := n) (k := j + 1) hn (by omega)
      have hmm : ckN n j * (n - j) ≤ 12000 := Nat.le_trans (Nat.mul_le_mul hb (show n - j ≤ 12 by omega)) (by decide)
      obtain ⟨h1, h2⟩ := mulI hmm
      have e1 : ((n - j : Nat) : Int) = (n : Int) - (j : Int) := by omega
      have hE : Hid ((ckN n j : Int) * ((n : Int) - (j : Int)) / ((j : Int) + 1) = (ckN n (j + 1) : Int)) := Lib.hid (by
        show _ = ((ckN n j * (n - j) / (j + 1) : Nat) : Int)
        rw [← e1]; simp)
      rw [e1] at h1 h2
      have q1 : 0 ≤ (ckN n j : Int) * ((n : Int) - (j : Int)) / ((j : Int) + 1) := by rw [hE.out]; omega
      have q2 : (ckN n j : Int) * ((n : Int) - (j : Int)) / ((j : Int) + 1) ≤ 1000 := by rw [hE.out]; omega
      clear e1 hmm
      go_wp2_with fail
      go_round
      case rel => exact ⟨j + 1, by omega, by go_num, by rw [← hE.out]⟩
      case measure => simp [intOf]; omega
    · obtain rfl : j = k := by omega
      go_wp2_with fail
      go_ret
      exact ⟨rfl, rfl⟩

set_option maxHeartbeats 1000000 in
theorem spw9_any (b k : Nat) (hb : b ≤ 12) (hk : k ≤ 12) (w : World) :
    Calls Try.prog 69 #[.int .i64 (b : Int), .int .i64 (k : Int)] w fun e w' => e = .returned (.int .i64 (pwN b k : Int)) ∧ w' = w := by
  go_enter Try.func69, Try.ntmps69
  go_wp2_with fail
  go_loop [1, 5] (fun i r => ∃ j : Nat, j ≤ k ∧ i = .int .i64 ((k - j : Nat) : Int) ∧ r = .int .i64 (pwN b j : Int)) (fun i _ => (intOf i).toNat)
  case atStart => exact ⟨0, by omega, rfl, rfl⟩
  case round =>
    obtain ⟨j, hj, rfl, rfl⟩ := hrel
    by_cases hlt : j < k
    · have hlt' : (0 : Int) < ((k - j : Nat) : Int) := by omega
      obtain ⟨h1, h2⟩ := mulI (a := pwN b j) (b := b) (m := 8916100448256) (pwN_bd (k := j + 1) hb (by omega))
      have hE : Hid ((pwN b j : Int) * (b : Int) = (pwN b (j + 1) : Int)) := Lib.hid (by show _ = ((pwN b j * b : Nat) : Int); simp)
      have hS : Hid (((k - j : Nat) : Int) - 1 = ((k - (j + 1) : Nat) : Int)) := Lib.hid (by omega)
      go_wp2_with fail
      go_round
      case rel => exact ⟨j + 1, by omega, by rw [← hS.out], by rw [← hE.out]⟩
      case measure => simp [intOf]; omega
    · obtain rfl : j = k := by omega
      have hz : ¬ ((0 : Int) < ((j - j : Nat) : Int)) := by omega
      go_wp2_with fail
      go_ret
      exact ⟨rfl, rfl⟩

end Go.Proofs.Ytfghegjlilcafaa
