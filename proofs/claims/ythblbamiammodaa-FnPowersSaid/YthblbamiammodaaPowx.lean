/- Powers of maps, told without Go: they repeat, and the power of 60 is the only idempotent one. -/
import Derived.Test.YthblbamiammodaaPowm
import Derived.Test.YthblbamiammodaaIdem
namespace Go.Proofs.Ythblbamiammodaa
open Go.RowKit

theorem itrF_end (p : Int) (g : Nat → Int) : ∀ (n : Nat) (r : Nat → Int), itrF p r g (n + 1) = mul p (itrF p r g n) g
  | 0, _ => rfl
  | n + 1, r => by
    show itrF p (mul p r g) g (n + 1) = mul p (itrF p (mul p r g) g n) g
    exact itrF_end p g n (mul p r g)

theorem pow_succ (p : Int) (f : Nat → Int) (k : Nat) : pow p f (k + 1) = mul p (pow p f k) f := itrF_end p f k (idn p)

/-- Where a point comes to after k steps. -/
def orb (f : Nat → Int) : Nat → Nat → Nat
  | 0, x => x
  | k + 1, x => (f (orb f k x)).toNat

theorem orb_lt {p : Int} {f : Nat → Int} (hf : isB p f = true) : ∀ (k x : Nat), (x : Int) < p → ((orb f k x : Nat) : Int) < p
  | 0, _, h => h
  | k + 1, x, h => by
    have h1 := orb_lt hf k x h
    have := ok_at hf _ h1
    show (((f (orb f k x)).toNat : Nat) : Int) < p
    omega

theorem pow_at {p : Int} {f : Nat → Int} (hf : isB p f = true) : ∀ (k i : Nat), (i : Int) < p → pow p f k i = ((orb f k i : Nat) : Int)
  | 0, i, h => by show idn p i = _; unfold idn; rw [if_pos h]; rfl
  | k + 1, i, h => by
    have h1 := orb_lt hf k i h
    have h2 := ok_at hf _ h1
    rw [pow_succ, mul_lt _ _ _ h, pow_at hf k i h, Int.toNat_natCast]
    show _ = (((f (orb f k i)).toNat : Nat) : Int)
    omega

theorem pow_ge (p : Int) (f : Nat → Int) : ∀ (k i : Nat), p ≤ (i : Int) → pow p f k i = 0
  | 0, i, h => by show idn p i = _; unfold idn; rw [if_neg (by omega)]
  | k + 1, i, h => by rw [pow_succ, mul_ge _ _ _ h]

theorem pow_ext {p : Int} {f : Nat → Int} (hf : isB p f = true) {a b : Nat} (h : ∀ i : Nat, (i : Int) < p → orb f a i = orb f b i) : pow p f a = pow p f b := by
  funext i
  by_cases c : (i : Int) < p
  · rw [pow_at hf _ _ c, pow_at hf _ _ c, h i c]
  · rw [pow_ge _ _ _ _ (by omega), pow_ge _ _ _ _ (by omega)]

theorem orb_add (f : Nat → Int) (a : Nat) (x : Nat) : ∀ b, orb f (a + b) x = orb f b (orb f a x)
  | 0 => rfl
  | b + 1 => by
    show (f (orb f (a + b) x)).toNat = (f (orb f b (orb f a x))).toNat
    rw [orb_add f a x b]

theorem mul_pow {p : Int} {f : Nat → Int} (hf : isB p f = true) (a b : Nat) : mul p (pow p f a) (pow p f b) = pow p f (a + b) := by
  funext i
  by_cases c : (i : Int) < p
  · have h1 := orb_lt hf a i c
    rw [mul_lt _ _ _ c, pow_at hf _ _ c, Int.toNat_natCast, pow_at hf _ _ h1, pow_at hf _ _ c, orb_add]
  · rw [mul_ge _ _ _ (by omega), pow_ge _ _ _ _ (by omega)]

/-- Of n + 1 numbers below n two are alike. -/
theorem pig : ∀ (n : Nat) (g : Nat → Nat), (∀ i, i ≤ n → g i < n) → ∃ i j, i < j ∧ j ≤ n ∧ g i = g j
  | 0, g, h => absurd (h 0 (Nat.le_refl _)) (by omega)
  | n + 1, g, h => by
    by_cases c : ∃ i, i ≤ n ∧ g i = g (n + 1)
    · obtain ⟨i, hi, e⟩ := c
      exact ⟨i, n + 1, by omega, Nat.le_refl _, e⟩
    · have c' : ∀ i, i ≤ n → g i ≠ g (n + 1) := fun i hi e => c ⟨i, hi, e⟩
      have hv := h (n + 1) (Nat.le_refl _)
      obtain ⟨i, j, hij, hj, e⟩ := pig n (fun i => if g i = n then g (n + 1) else g i) (fun i hi => by
        have := h i (by omega)
        have := c' i hi
        show (if g i = n then g (n + 1) else g i) < n
        split
        · omega
        · omega)
      refine ⟨i, j, hij, by omega, ?_⟩
      have h1 := c' i (by omega)
      have h2 := c' j (by omega)
      split at e <;> split at e <;> omega

theorem orb_60 {p : Int} {f : Nat → Int} (hf : isB p f = true) (x : Nat) (hx : (x : Int) < p) : orb f 120 x = orb f 60 x := by
  have h5 := isB_pts hf
  obtain ⟨i, j, hij, hj, e⟩ := pig 5 (fun i => orb f i x) (fun i _ => by have := orb_lt hf i x hx; omega)
  obtain ⟨d, rfl⟩ : ∃ d, j = i + d := ⟨j - i, by omega⟩
  have step : ∀ n, i ≤ n → orb f (n + d) x = orb f n x := fun n hn => by
    obtain ⟨m, rfl⟩ : ∃ m, n = i + m := ⟨n - i, by omega⟩
    rw [show i + m + d = (i + d) + m by omega, orb_add f (i + d), ← e, ← orb_add]
  have many : ∀ c n, i ≤ n → orb f (n + c * d) x = orb f n x := fun c => by
    induction c with
    | zero => intro n _; simp
    | succ c ih =>
      intro n hn
      rw [show n + (c + 1) * d = (n + c * d) + d by rw [Nat.succ_mul]; omega, step _ (by omega), ih n hn]
  rcases (by omega : d = 1 ∨ d = 2 ∨ d = 3 ∨ d = 4 ∨ d = 5) with rfl | rfl | rfl | rfl | rfl
  · exact many 60 60 (by omega)
  · exact many 30 60 (by omega)
  · exact many 20 60 (by omega)
  · exact many 15 60 (by omega)
  · exact many 12 60 (by omega)

theorem pow_120 {p : Int} {f : Nat → Int} (hf : isB p f = true) : pow p f (60 + 60) = pow p f 60 := pow_ext hf fun i hi => orb_60 hf i hi

theorem pow_rep {p : Int} {f : Nat → Int} (hf : isB p f = true) (k : Nat) (h : pow p f (k + k) = pow p f k) : ∀ m, pow p f ((m + 1) * k) = pow p f k
  | 0 => by rw [Nat.zero_add, Nat.one_mul]
  | m + 1 => by
    rw [show (m + 1 + 1) * k = (m + 1) * k + k by rw [Nat.succ_mul], ← mul_pow hf, pow_rep hf k h m, mul_pow hf, h]

theorem eqB_refl (p : Int) (s : Nat → Int) : eqB p s p s = true := by simp [eqB, eqA]

theorem eqB_at {p q : Int} {s t : Nat → Int} (h : eqB p s q t = true) : p = q ∧ ∀ i, i < 5 → s i = t i := by
  unfold eqB eqA at h
  simp only [Bool.and_eq_true, beq_iff_eq] at h
  refine ⟨h.1, fun i hi => ?_⟩
  rcases (by omega : i = 0 ∨ i = 1 ∨ i = 2 ∨ i = 3 ∨ i = 4) with rfl | rfl | rfl | rfl | rfl
  · exact h.2.1
  · exact h.2.2.1
  · exact h.2.2.2.1
  · exact h.2.2.2.2.1
  · exact h.2.2.2.2.2

theorem eq_pow {p : Int} {f : Nat → Int} (hf : isB p f = true) {a b : Nat} (h : eqB p (pow p f a) p (pow p f b) = true) : pow p f a = pow p f b := by
  have h5 := isB_pts hf
  funext i
  by_cases c : (i : Int) < p
  · exact (eqB_at h).2 i (by omega)
  · rw [pow_ge _ _ _ _ (by omega), pow_ge _ _ _ _ (by omega)]

theorem idem_60 {p : Int} {f : Nat → Int} (hf : isB p f = true) : idemB p (pow p f 60) = true := by
  unfold idemB; rw [mul_pow hf, pow_120 hf]; exact eqB_refl _ _

/-- The only idempotent power is that of 60. -/
theorem idem_only {p : Int} {f : Nat → Int} (hf : isB p f = true) (k : Nat) (hk : 1 ≤ k) (h : idemB p (pow p f k) = true) : pow p f k = pow p f 60 := by
  unfold idemB at h
  rw [mul_pow hf] at h
  have h1 := pow_rep hf k (eq_pow hf h) 59
  have h2 := pow_rep hf 60 (pow_120 hf) (k - 1)
  rw [show (k - 1 + 1) * 60 = (59 + 1) * k by rw [show k - 1 + 1 = k by omega, Nat.mul_comm]] at h2
  rw [← h1, h2]

/-- The powers of i and j are the first two that are alike. -/
def Rep (p : Int) (f : Nat → Int) (i j : Nat) : Prop := i < j ∧ j ≤ 120 ∧ pow p f i = pow p f j ∧ ∀ a b, a < b → b < j → pow p f a ≠ pow p f b

theorem rep_ex {p : Int} {f : Nat → Int} (hf : isB p f = true) : ∃ i j, Rep p f i j := by
  have go : ∀ n, n ≤ 120 → (∀ a b, a < b → b ≤ n → pow p f a ≠ pow p f b) ∨ ∃ i j, Rep p f i j := fun n => by
    induction n with
    | zero => intro _; exact Or.inl fun a b h1 h2 => by omega
    | succ n ih =>
      intro hn
      rcases ih (by omega) with h | h
      · by_cases c : ∃ i, i ≤ n ∧ pow p f i = pow p f (n + 1)
        · obtain ⟨i, hi, e⟩ := c
          exact Or.inr ⟨i, n + 1, by omega, hn, e, fun a b h1 h2 => h a b h1 (by omega)⟩
        · refine Or.inl fun a b h1 h2 e => ?_
          by_cases hb : b = n + 1
          · subst hb; exact c ⟨a, by omega, e⟩
          · exact h a b h1 (by omega) e
      · exact Or.inr h
  rcases go 120 (Nat.le_refl _) with h | h
  · exact absurd (pow_120 hf).symm (h 60 120 (by omega) (by omega))
  · exact h

theorem rep_one {p : Int} {f : Nat → Int} {i j i' j' : Nat} (h : Rep p f i j) (h' : Rep p f i' j') : i = i' ∧ j = j' := by
  obtain ⟨a1, _, a3, a4⟩ := h
  obtain ⟨b1, _, b3, b4⟩ := h'
  have hj : j = j' := by
    rcases Nat.lt_trichotomy j j' with c | c | c
    · exact absurd a3 (b4 i j a1 c)
    · exact c
    · exact absurd b3 (a4 i' j' b1 c)
  subst hj
  refine ⟨?_, rfl⟩
  rcases Nat.lt_trichotomy i i' with c | c | c
  · exact absurd (a3.trans b3.symm) (a4 i i' c b1)
  · exact c
  · exact absurd (b3.trans a3.symm) (a4 i' i c a1)

end Go.Proofs.Ythblbamiammodaa
