/- The plain mathematics of the law FnPowers. -/
import Derived.Test.YthblbamiammodaaPowx
import Derived.Test.YthblbamiammodaaRen
import Derived.Test.YthblbamiammodaaFixed
namespace Go.Proofs.Ythblbamiammodaa
open Go.RowKit

/-- Powers go on by the period from the index on. -/
theorem pow_on {p : Int} {f : Nat → Int} (hf : isB p f = true) {i j : Nat} (hR : Rep p f i j) (k : Nat) (hk : i ≤ k) : pow p f (k + (j - i)) = pow p f k := by
  obtain ⟨hij, _, e, _⟩ := hR
  rw [show k + (j - i) = j + (k - i) by omega, ← mul_pow hf j (k - i), ← e, mul_pow hf i (k - i), show i + (k - i) = k by omega]

theorem inj_of_hit (P : Nat) (Q : Nat → Nat) (hit : ∀ j, j < P → ∃ i, i < P ∧ Q i = j) (_ : ∀ i, i < P → Q i < P) (i i' : Nat) (hi : i < P) (hi' : i' < P) (e : Q i = Q i') : i = i' := by
  by_cases hne : i = i'
  · exact hne
  · exfalso
    have hx : ∀ j, j < P → ∃ x, x < P ∧ Q x = j ∧ x ≠ i := fun j hj => by
      by_cases c : j = Q i
      · exact ⟨i', hi', by rw [c, e], fun d => hne d.symm⟩
      · obtain ⟨x, h1, h2⟩ := hit j hj
        exact ⟨x, h1, h2, fun d => c (by rw [← h2, d])⟩
    obtain ⟨inv, hinv⟩ : ∃ inv : Nat → Nat, ∀ j, j < P → inv j < P ∧ Q (inv j) = j ∧ inv j ≠ i :=
      ⟨fun j => if h : j < P then Classical.choose (hx j h) else 0, fun j hj => by simp only [dif_pos hj]; exact Classical.choose_spec (hx j hj)⟩
    obtain ⟨a, b, hab, hb, eg⟩ := pig (P - 1) (fun j => if inv j < i then inv j else inv j - 1) (fun j hj => by
      obtain ⟨h1, _, h3⟩ := hinv j (by omega)
      show (if inv j < i then inv j else inv j - 1) < P - 1
      split <;> omega)
    obtain ⟨a1, a2, a3⟩ := hinv a (by omega)
    obtain ⟨b1, b2, b3⟩ := hinv b (by omega)
    have : inv a = inv b := by
      have eg' : (if inv a < i then inv a else inv a - 1) = (if inv b < i then inv b else inv b - 1) := eg
      split at eg' <;> split at eg' <;> omega
    rw [this] at a2
    omega

theorem perm_inj {p : Int} {q : Nat → Int} (hq : isB p q = true) (h : permB p q = true) (i i' : Nat) (hi : (i : Int) < p) (hi' : (i' : Int) < p) (e : q i = q i') : i = i' := by
  have hp := isB_pts hq
  refine inj_of_hit p.toNat (fun i => (q i).toNat) (fun j hj => perm_hit hq h j (by omega)) (fun i hi => ?_) i i' (by omega) (by omega) (by simp only [e])
  have := ok_at hq i (by omega)
  show (q i).toNat < p.toNat
  omega

theorem ren_at' (f q : Nat → Int) (j : Nat) : ∀ k, (∃ i, i < k ∧ (q i).toNat = j) → ∃ i, i < k ∧ (q i).toNat = j ∧ invK q k j = (i : Int) ∧ renK f q k j = q (f i).toNat
  | 0, h => by obtain ⟨i, hi, _⟩ := h; omega
  | k + 1, h => by
    unfold invK renK upd
    by_cases e : j = (q k).toNat
    · rw [if_pos e, if_pos e]; exact ⟨k, by omega, e.symm, rfl, rfl⟩
    · rw [if_neg e, if_neg e]
      obtain ⟨i, hi, hij⟩ := h
      have hik : i ≠ k := fun c => e (by rw [← hij, c])
      obtain ⟨i', h1, h2, h3, h4⟩ := ren_at' f q j k ⟨i, by omega, hij⟩
      exact ⟨i', by omega, h2, h3, h4⟩

theorem inv_ren_at {p : Int} {q : Nat → Int} (hq : isB p q = true) (h : permB p q = true) (f : Nat → Int) (i : Nat) (hi : (i : Int) < p) :
    invm p q (q i).toNat = (i : Int) ∧ renm p f q (q i).toNat = q (f i).toNat := by
  have hp := isB_pts hq
  obtain ⟨i', h1, h2, h3, h4⟩ := ren_at' f q (q i).toNat p.toNat ⟨i, by omega, rfl⟩
  have o1 := ok_at hq i hi
  have o2 := ok_at hq i' (by omega)
  have e : i' = i := perm_inj hq h i' i (by omega) hi (by omega)
  subst e
  exact ⟨h3, h4⟩

theorem ascK_all (b : Nat → Bool) : ∀ n, (∀ i, i < n → b i = true) → (ascK b n).length = n
  | 0, _ => rfl
  | n + 1, h => by
    rw [ascK_succ, if_pos (h n (by omega)), List.length_append, ascK_all b n (fun i hi => h i (by omega))]
    rfl

/-- A map and its inverse: every point is fixed. -/
theorem unit_fix {p : Int} {q : Nat → Int} (hq : isB p q = true) (h : permB p q = true) : ((asc (fixB p (mul p q (invm p q)))).length : Int) = p := by
  have hp := isB_pts hq
  have hb : ∀ i, fixB p (mul p q (invm p q)) i = decide (i < p.toNat) := fun i => by
    unfold fixB fixK
    by_cases c : i < p.toNat
    · rw [if_pos c, decide_eq_true c, mul_lt _ _ _ (by omega), (inv_ren_at hq h q i (by omega)).1]
      simp
    · rw [if_neg c, decide_eq_false c]
  have e : (asc (fixB p (mul p q (invm p q)))).length = p.toNat := by
    unfold asc
    rw [ascK_cut' _ p.toNat 5 (by omega) (fun i h1 _ => by rw [hb]; simp; omega), ascK_all _ _ (fun i hi => by rw [hb]; simp; omega)]
  omega

theorem ren_ok {p : Int} {f q : Nat → Int} (hf : isB p f = true) (hq : isB p q = true) (h : permB p q = true) : isB p (renm p f q) = true := by
  rw [← funext (ren_eq hf hq h)]
  exact mul_ok (mul_ok (inv_ok hq) hf) hq

theorem pow_two {p : Int} {g : Nat → Int} (hg : isB p g = true) (j : Nat) (hj : (j : Int) < p) : pow p g 2 j = g (g j).toNat := by
  have o := ok_at hg j hj
  have e1 : pow p g 1 j = g j := by
    rw [show (1 : Nat) = 0 + 1 from rfl, pow_succ, mul_lt _ _ _ hj]
    show g (idn p j).toNat = g j
    unfold idn
    rw [if_pos hj, Int.toNat_natCast]
  rw [show (2 : Nat) = 1 + 1 from rfl, pow_succ, mul_lt _ _ _ hj, e1]

/-- Renumbered maps have renumbered squares. -/
theorem ren_pow2 {p : Int} {f q : Nat → Int} (hf : isB p f = true) (hq : isB p q = true) (h : permB p q = true) : renm p (pow p f 2) q = pow p (renm p f q) 2 := by
  funext j
  have hr := ren_ok hf hq h
  by_cases hj : (j : Int) < p
  · obtain ⟨i, hi, he⟩ := perm_hit hq h j hj
    have hip : (i : Int) < p := by omega
    have o := ok_at hf i hip
    have hfi : (((f i).toNat : Nat) : Int) < p := by omega
    rw [pow_two hr j hj, ← he, (inv_ren_at hq h f i hip).2, (inv_ren_at hq h f (f i).toNat hfi).2, (inv_ren_at hq h (pow p f 2) i hip).2, pow_two hf i hip]
  · rw [pow_ge _ _ _ _ (by omega), ← ren_eq (pow_ok hf 2) hq h, mul_ge _ _ _ (by omega)]

end Go.Proofs.Ythblbamiammodaa
