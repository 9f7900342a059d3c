/- Numbers of maps by rank and by fixed points, and of idempotent maps, told without Go. -/
import Derived.Test.YtpphihjbgikjkaaBase
namespace Go.Proofs.Ytpphihjbgikjkaa

def fcN : Nat → Nat
  | 0 => 1
  | n + 1 => fcN n * (n + 1)
/-- The ways to choose, step by step. -/
def ckN (n : Nat) : Nat → Nat
  | 0 => 1
  | i + 1 => ckN n i * (n - i) / (i + 1)
def pwN (b : Nat) : Nat → Nat
  | 0 => 1
  | k + 1 => pwN b k * b
/-- In how many ways m points are led onto k. -/
def onN : Nat → Nat → Nat
  | 0, 0 => 1
  | 0, _ + 1 => 0
  | _ + 1, 0 => 0
  | m + 1, k + 1 => (k + 1) * (onN m (k + 1) + onN m k)
/-- The maps of i points to n, by the number of points met. -/
def dpN (n : Nat) : Nat → Nat → Nat
  | 0, 0 => 1
  | 0, _ + 1 => 0
  | _ + 1, 0 => 0
  | i + 1, r + 1 => dpN n i (r + 1) * (r + 1) + dpN n i r * (n - r)
/-- What the three kinds of maps are counted by. -/
def kdN (kd n k : Nat) : Nat := ckN n k * (if kd = 0 then onN n k else if kd = 1 then pwN (n - 1) (n - k) else pwN k (n - k))

theorem ch_all : ((List.range 13).all fun n => (List.range (n + 1)).all fun k => fcN n / (fcN k * fcN (n - k)) == ckN n k && decide (ckN n k ≤ 1000)) = true := by decide +kernel
theorem on_all : ((List.range 13).all fun n => (List.range (n + 1)).all fun k => ckN n k * onN n k == dpN n n k) = true := by decide +kernel
theorem kd_all : ((List.range 13).all fun n => (List.range (n + 1)).all fun k => decide (kdN 0 n k ≤ 10000000000000) && decide (kdN 1 n k ≤ 10000000000000) && decide (kdN 2 n k ≤ 10000000000000)) = true := by decide +kernel
theorem fc_all : ((List.range 13).all fun n => decide (1 ≤ fcN n) && decide (fcN n ≤ 479001600)) = true := by decide +kernel
theorem fk_all : ((List.range 13).all fun n => (List.range (n + 1)).all fun k => decide (fcN k * fcN (n - k) ≤ 479001600)) = true := by decide +kernel

theorem ch_ck {n k : Nat} (hn : n ≤ 12) (hk : k ≤ n) : fcN n / (fcN k * fcN (n - k)) = ckN n k ∧ ckN n k ≤ 1000 := by
  have h := List.all_eq_true.1 (List.all_eq_true.1 ch_all n (List.mem_range.2 (by omega))) k (List.mem_range.2 (by omega))
  rw [Bool.and_eq_true, beq_iff_eq, decide_eq_true_eq] at h
  exact h
theorem on_dp {n k : Nat} (hn : n ≤ 12) (hk : k ≤ n) : ckN n k * onN n k = dpN n n k := by
  have h := List.all_eq_true.1 (List.all_eq_true.1 on_all n (List.mem_range.2 (by omega))) k (List.mem_range.2 (by omega))
  exact beq_iff_eq.1 h
theorem kd_bd {n k : Nat} (hn : n ≤ 12) (hk : k ≤ n) : kdN 0 n k ≤ 10000000000000 ∧ kdN 1 n k ≤ 10000000000000 ∧ kdN 2 n k ≤ 10000000000000 := by
  have h := List.all_eq_true.1 (List.all_eq_true.1 kd_all n (List.mem_range.2 (by omega))) k (List.mem_range.2 (by omega))
  rw [Bool.and_eq_true, Bool.and_eq_true, decide_eq_true_eq, decide_eq_true_eq, decide_eq_true_eq] at h
  exact ⟨h.1.1, h.1.2, h.2⟩
theorem fc_bd {n : Nat} (hn : n ≤ 12) : 1 ≤ fcN n ∧ fcN n ≤ 479001600 := by
  have h := List.all_eq_true.1 fc_all n (List.mem_range.2 (by omega))
  rw [Bool.and_eq_true, decide_eq_true_eq, decide_eq_true_eq] at h
  exact h
theorem fk_bd {n k : Nat} (hn : n ≤ 12) (hk : k ≤ n) : 1 ≤ fcN k * fcN (n - k) ∧ fcN k * fcN (n - k) ≤ 479001600 := by
  have h := List.all_eq_true.1 (List.all_eq_true.1 fk_all n (List.mem_range.2 (by omega))) k (List.mem_range.2 (by omega))
  rw [decide_eq_true_eq] at h
  exact ⟨Nat.mul_pos (fc_bd (by omega)).1 (fc_bd (by omega)).1, h⟩

theorem pwN_mono {b : Nat} (hb : b ≤ 12) : ∀ k, pwN b k ≤ 12 ^ k
  | 0 => Nat.le_refl _
  | k + 1 => by
    rw [Nat.pow_succ]
    exact Nat.mul_le_mul (pwN_mono hb k) hb
theorem pow12 {k : Nat} (hk : k ≤ 12) : (12 : Nat) ^ k ≤ 8916100448256 := Nat.pow_le_pow_right (by omega) hk
theorem pwN_bd {b k : Nat} (hb : b ≤ 12) (hk : k ≤ 12) : pwN b k ≤ 8916100448256 := Nat.le_trans (pwN_mono hb k) (pow12 hk)

theorem onN_mono : ∀ (m k : Nat), k ≤ 12 → onN m k ≤ 24 ^ m
  | 0, 0, _ => Nat.le_refl _
  | 0, _ + 1, _ => Nat.zero_le _
  | m + 1, 0, _ => Nat.zero_le _
  | m + 1, k + 1, h => by
    have h1 := onN_mono m (k + 1) h
    have h2 := onN_mono m k (by omega)
    show (k + 1) * (onN m (k + 1) + onN m k) ≤ 24 ^ (m + 1)
    rw [Nat.pow_succ]
    calc (k + 1) * (onN m (k + 1) + onN m k) ≤ 12 * (24 ^ m + 24 ^ m) := Nat.mul_le_mul h (by omega)
      _ = 24 ^ m * 24 := by omega
theorem onN_bd {m k : Nat} (hm : m ≤ 12) (hk : k ≤ 12) : onN m k ≤ 36520347436056576 := Nat.le_trans (onN_mono m k hk) (Nat.le_trans (Nat.pow_le_pow_right (by omega) hm) (by decide))

theorem ckN_zero (n : Nat) : ckN n 0 = 1 := rfl
theorem ckN_bd {n k : Nat} (hn : n ≤ 12) (hk : k ≤ n) : ckN n k ≤ 1000 := (ch_ck hn hk).2
end Go.Proofs.Ytpphihjbgikjkaa
