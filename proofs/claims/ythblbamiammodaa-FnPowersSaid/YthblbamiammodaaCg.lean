/- Kernels told without Go: each point has the number of the first point with its image among such first points; two lists have the same kernel if the same points have the same images. The map from images to numbers, told as a datum. Congruences told without Go: equivalences of the numbers below m that products keep; the finest one with given pairs; what renaming classes, and bringing pairs together, makes of them. -/
import Derived.Test.YthblbamiammodaaSl
import Derived.Maps.OwnSet
import Derived.Maps.OwnOps
import Derived.Maps.AppendAt
import Derived.Test.YthblbamiammodaaBase
namespace Go.Proofs.Ythblbamiammodaa
open Go.RowKit

/-- The first point with the image of point k. -/
def fst1 (t : Nat → Int) (k : Nat) : Nat := ((List.range k).find? fun i => t i == t k).getD k

theorem fst1_at (t : Nat → Int) (k : Nat) : t (fst1 t k) = t k ∧ fst1 t k ≤ k ∧ ∀ i, i < fst1 t k → t i ≠ t k := by
  unfold fst1
  cases h : (List.range k).find? fun i => t i == t k with
  | none =>
    rw [List.find?_eq_none] at h
    refine ⟨rfl, Nat.le_refl _, fun i hi e => ?_⟩
    exact h i (by simpa using hi) (by simp [e])
  | some a =>
    have h1 := List.find?_some h
    have h2 := List.mem_of_find?_eq_some h
    rw [List.find?_eq_some_iff_append] at h
    obtain ⟨_, xs, ys, hab, hxs⟩ := h
    simp only [Option.getD_some]
    refine ⟨by simpa using h1, by simp at h2; omega, fun i hi e => ?_⟩
    have hlen : xs.length = a := by
      have : (List.range k)[xs.length]? = some a := by rw [hab]; simp
      rw [List.getElem?_range (by
        have := congrArg List.length hab
        simp at this; omega)] at this
      simpa using this
    have hm : i ∈ xs := by
      have : (List.range k)[i]? = some i := List.getElem?_range (by simp at h2; omega)
      rw [hab, List.getElem?_append_left (by omega)] at this
      exact List.mem_of_getElem? this
    have := hxs i hm
    simp [e] at this

theorem fst1_eq {t : Nat → Int} {i k : Nat} (e : t i = t k) : fst1 t i = fst1 t k := by
  obtain ⟨a1, _, a3⟩ := fst1_at t i
  obtain ⟨b1, _, b3⟩ := fst1_at t k
  rcases Nat.lt_trichotomy (fst1 t i) (fst1 t k) with c | c | c
  · exact absurd (a1.trans e) (b3 _ c)
  · exact c
  · exact absurd (b1.trans e.symm) (a3 _ c)

/-- How many of the first k points are the first ones with their images. -/
def rkK (t : Nat → Int) (k : Nat) : Nat := ((List.range k).filter fun i => fst1 t i == i).length

theorem rkK_succ (t : Nat → Int) (k : Nat) : rkK t (k + 1) = if fst1 t k = k then rkK t k + 1 else rkK t k := by
  unfold rkK
  rw [List.range_succ, List.filter_append]
  by_cases h : fst1 t k = k <;> simp [h]

theorem rkK_le (t : Nat → Int) : ∀ k, rkK t k ≤ k
  | 0 => Nat.le_refl _
  | k + 1 => by rw [rkK_succ]; have := rkK_le t k; split <;> omega

theorem rkK_mono (t : Nat → Int) (a : Nat) : ∀ b, a ≤ b → rkK t a ≤ rkK t b
  | 0, h => by rw [show a = 0 by omega]; exact Nat.le_refl _
  | b + 1, h => by
    by_cases e : a = b + 1
    · rw [e]; exact Nat.le_refl _
    · have := rkK_mono t a b (by omega)
      rw [rkK_succ]; split <;> omega

theorem rkK_lt (t : Nat → Int) (a b : Nat) (h : a < b) (ha : fst1 t a = a) : rkK t a < rkK t b := by
  have := rkK_mono t (a + 1) b h
  rw [rkK_succ, if_pos ha] at this
  omega

/-- The number of point k. -/
def kvK (t : Nat → Int) (k : Nat) : Int := rkK t (fst1 t k)

def kerK (t : Nat → Int) (k : Nat) : List Int := (List.range k).map (kvK t)

theorem kerK_len (t : Nat → Int) (k : Nat) : (kerK t k).length = k := by simp [kerK]

theorem kerK_succ (t : Nat → Int) (k : Nat) : kerK t (k + 1) = kerK t k ++ [kvK t k] := by simp [kerK, List.range_succ]

theorem kerK_getD (t : Nat → Int) (k i : Nat) (h : i < k) : (kerK t k).getD i 0 = kvK t i := by simp [kerK, h]

/-- What the search backwards from point i has found when m points are left. -/
def ownK (t : Nat → Int) (i m : Nat) : Int := if (List.range i).any (fun j => decide (m ≤ j) && t j == t i) = true then kvK t i else rkK t i

theorem ownK_start (t : Nat → Int) (i : Nat) : ownK t i i = rkK t i := by
  unfold ownK
  rw [if_neg]
  simp only [List.any_eq_true, List.mem_range, Bool.and_eq_true, decide_eq_true_eq, beq_iff_eq, not_exists, not_and]
  intro j h1 h2
  omega

theorem ownK_yes (t : Nat → Int) (i m : Nat) (hm : m < i) (h : t m = t i) : ownK t i m = kvK t m := by
  unfold ownK
  rw [if_pos]
  · unfold kvK; rw [fst1_eq h]
  · simp only [List.any_eq_true, List.mem_range, Bool.and_eq_true, decide_eq_true_eq, beq_iff_eq]
    exact ⟨m, hm, Nat.le_refl _, h⟩

theorem ownK_no (t : Nat → Int) (i m : Nat) (h : t m ≠ t i) : ownK t i m = ownK t i (m + 1) := by
  unfold ownK
  have : ((List.range i).any fun j => decide (m ≤ j) && t j == t i) = ((List.range i).any fun j => decide (m + 1 ≤ j) && t j == t i) := by
    rw [Bool.eq_iff_iff]
    simp only [List.any_eq_true, List.mem_range, Bool.and_eq_true, decide_eq_true_eq, beq_iff_eq]
    constructor
    · rintro ⟨j, h1, h2, h3⟩
      refine ⟨j, h1, ?_, h3⟩
      by_cases e : j = m
      · subst e; exact absurd h3 h
      · omega
    · rintro ⟨j, h1, h2, h3⟩
      exact ⟨j, h1, by omega, h3⟩
  rw [this]

theorem ownK_end (t : Nat → Int) (i : Nat) : ownK t i 0 = kvK t i := by
  unfold ownK
  split
  · rfl
  · next h =>
    simp only [List.any_eq_true, List.mem_range, Bool.and_eq_true, decide_eq_true_eq, beq_iff_eq, not_exists, not_and] at h
    obtain ⟨a1, a2, a3⟩ := fst1_at t i
    have : fst1 t i = i := by
      by_cases c : fst1 t i = i
      · exact c
      · exact absurd a1 (h _ (by omega) (by omega))
    unfold kvK
    rw [this]

theorem kvK_new (t : Nat → Int) (i : Nat) : kvK t i = rkK t i ↔ fst1 t i = i := by
  obtain ⟨a1, a2, a3⟩ := fst1_at t i
  constructor
  · intro h
    by_cases c : fst1 t i = i
    · exact c
    · have := rkK_lt t (fst1 t i) i (by omega) (fst1_eq a1)
      unfold kvK at h
      omega
  · intro h
    unfold kvK
    rw [h]

theorem kvK_bd (t : Nat → Int) (k : Nat) : 0 ≤ kvK t k ∧ kvK t k ≤ k := by
  obtain ⟨a1, a2, a3⟩ := fst1_at t k
  have := rkK_le t (fst1 t k)
  unfold kvK
  omega

end Go.Proofs.Ythblbamiammodaa

namespace Go.Proofs.Ythblbamiammodaa
open Go.RowKit Go.Maps

theorem ik (x : Int) : WideAt.IsKeyLit (Lit.int .i64 x) := trivial

/-- The map behind k rounds. -/
def kD (t : Nat → Int) : Nat → DataW Unit
  | 0 => .map []
  | k + 1 => if fst1 t k = k then (kD t k).put (.int .i64 (t k)) (.lit (.int .i64 (rkK t k))) else kD t k

theorem kD_new {t : Nat → Int} {k : Nat} (h : fst1 t k = k) : kD t (k + 1) = (kD t k).put (.int .i64 (t k)) (.lit (.int .i64 (rkK t k))) := by
  show (if fst1 t k = k then _ else _) = _
  rw [if_pos h]

theorem kD_old {t : Nat → Int} {k : Nat} (h : fst1 t k ≠ k) : kD t (k + 1) = kD t k := by
  show (if fst1 t k = k then _ else _) = _
  rw [if_neg h]

theorem kD_tidy (t : Nat → Int) : ∀ k, Tidy (kD t k)
  | 0 => tidy_empty
  | k + 1 => by
    by_cases h : fst1 t k = k
    · rw [kD_new h]; exact (kD_tidy t k).put (ik _) _
    · rw [kD_old h]; exact kD_tidy t k

theorem has_kD (t : Nat → Int) (x : Int) : ∀ k, Maps.has (kD t k) (.int .i64 x) = (List.range k).any fun i => t i == x
  | 0 => rfl
  | k + 1 => by
    rw [List.range_succ, List.any_append]
    obtain ⟨a1, a2, a3⟩ := fst1_at t k
    by_cases h : fst1 t k = k
    · rw [kD_new h]
      by_cases e : x = t k
      · subst e; rw [has_put_same (kD_tidy t k).isMap (ik _)]; simp
      · rw [has_put_other (fun c => e (by injection c)), has_kD t x k]
        have : (t k == x) = false := by rw [beq_eq_false_iff_ne]; exact fun c => e c.symm
        simp [this]
    · rw [kD_old h, has_kD t x k]
      by_cases e : t k = x
      · have : ((List.range k).any fun i => t i == x) = true := by
          rw [List.any_eq_true]
          exact ⟨fst1 t k, by simp; omega, by rw [a1, e]; simp⟩
        rw [this]; rfl
      · have : (t k == x) = false := by rw [beq_eq_false_iff_ne]; exact e
        simp [this]

theorem has_kD_new (t : Nat → Int) (k : Nat) : Maps.has (kD t k) (.int .i64 (t k)) = !decide (fst1 t k = k) := by
  rw [has_kD]
  obtain ⟨a1, a2, a3⟩ := fst1_at t k
  by_cases h : fst1 t k = k
  · rw [decide_eq_true h, Bool.not_true, List.any_eq_false]
    intro i hi
    rw [h] at a3
    simpa using a3 i (by simpa using hi)
  · rw [decide_eq_false h, Bool.not_false, List.any_eq_true]
    exact ⟨fst1 t k, by simp; omega, by rw [a1]; simp⟩

theorem kvK_first {t : Nat → Int} {k : Nat} (h : fst1 t k = k) : kvK t k = rkK t k := by unfold kvK; rw [h]

theorem kvK_same {t : Nat → Int} {i k : Nat} (h : t i = t k) : kvK t i = kvK t k := by unfold kvK; rw [fst1_eq h]

theorem atKey_kD (t : Nat → Int) (z : DataW Unit) : ∀ k i, i < k → (kD t k).atKey (.int .i64 (t i)) z = .lit (.int .i64 (kvK t i))
  | 0, i, h => by omega
  | k + 1, i, hi => by
    obtain ⟨a1, a2, a3⟩ := fst1_at t k
    by_cases h : fst1 t k = k
    · rw [kD_new h]
      by_cases e : t i = t k
      · rw [e, atKey_put_same (kD_tidy t k).isMap (ik _), kvK_same e, kvK_first h]
      · rw [atKey_put_other (fun c => e (by injection c)), atKey_kD t z k i (by
          by_cases c : i = k
          · subst c; exact absurd rfl e
          · omega)]
    · rw [kD_old h]
      by_cases c : i = k
      · subst c
        rw [← a1, atKey_kD t z i (fst1 t i) (by omega), kvK_same a1]
      · exact atKey_kD t z k i (by omega)

theorem size_kD (t : Nat → Int) : ∀ k, Maps.size (kD t k) = rkK t k
  | 0 => rfl
  | k + 1 => by
    rw [rkK_succ]
    by_cases h : fst1 t k = k
    · rw [kD_new h, if_pos h, size_put (kD_tidy t k), has_kD_new, decide_eq_true h, size_kD t k]
      rfl
    · rw [kD_old h, if_neg h, size_kD t k]

theorem row_ne {w : World} {base : Nat} {e : TypeId} {size : Nat} {v : Value} {n : Nat} {xs : List Value} (h : w.ownsRow base e size v n xs) {b : Nat} (hb : b < base) : some b ≠ v.ownBlock := fun e1 => by
  have := (h.lt b e1.symm).1
  omega

theorem own_cellz {w : World} {B : Nat} {v : Value} {L : List Int} (h : Own w B v L) (hL : L.length ≤ 2000000) : ∃ a cap, v = .slice a L.length cap ∧ ∀ k, k < L.length → ∃ g, a = some ⟨g, 0, none⟩ ∧ w.cell? ⟨g, k, none⟩ = some (.int .i64 (L.getD k 0)) := by
  obtain ⟨a, cap, e, hr⟩ := own_rd h hL
  refine ⟨a, cap, e, fun k hk => ?_⟩
  obtain ⟨g, ha, _, _, hc⟩ := hr.2.resolve_left (fun e => by rw [e] at hk; simp at hk)
  exact ⟨g, ha, (hc k hk).1⟩

theorem zeroI (w : World) : (zeroValue 2).run Try.prog w = .ok (.int .i64 0) w := by kernel_rfl

end Go.Proofs.Ythblbamiammodaa

namespace Go.Proofs.Ythblbamiammodaa
open Go.RowKit

theorem fst1_congr {t u : Nat → Int} {m : Nat} (h : ∀ i j, i < m → j < m → (t i = t j ↔ u i = u j)) (k : Nat) (hk : k < m) : fst1 t k = fst1 u k := by
  unfold fst1
  have e : ∀ l : List Nat, (∀ i ∈ l, i < m) → (l.find? fun i => t i == t k) = l.find? fun i => u i == u k := by
    intro l
    induction l with
    | nil => intro _; rfl
    | cons x l ih =>
      intro hl
      have hx := h x k (hl x (List.mem_cons_self)) hk
      have e2 : (t x == t k) = (u x == u k) := by rw [Bool.eq_iff_iff]; simpa using hx
      rw [List.find?_cons, List.find?_cons, e2, ih (fun i hi => hl i (List.mem_cons_of_mem _ hi))]
  rw [e _ (fun i hi => by simp at hi; omega)]

theorem rkK_congr {t u : Nat → Int} {m : Nat} (h : ∀ i j, i < m → j < m → (t i = t j ↔ u i = u j)) : ∀ k, k ≤ m → rkK t k = rkK u k
  | 0, _ => rfl
  | k + 1, hk => by rw [rkK_succ, rkK_succ, rkK_congr h k (by omega), fst1_congr h k (by omega)]

theorem kerK_congr {t u : Nat → Int} {m : Nat} (h : ∀ i j, i < m → j < m → (t i = t j ↔ u i = u j)) : kerK t m = kerK u m := by
  unfold kerK
  apply List.map_congr_left
  intro k hk
  have hk := List.mem_range.1 hk
  unfold kvK
  rw [fst1_congr h k hk, rkK_congr h _ (by have := (fst1_at u k).2.1; omega)]

theorem kvK_iff (t : Nat → Int) (i j : Nat) : kvK t i = kvK t j ↔ t i = t j := by
  constructor
  · intro h
    unfold kvK at h
    have a := fst1_at t i
    have b := fst1_at t j
    have hi : fst1 t (fst1 t i) = fst1 t i := fst1_eq a.1
    have hj : fst1 t (fst1 t j) = fst1 t j := fst1_eq b.1
    rcases Nat.lt_trichotomy (fst1 t i) (fst1 t j) with c | c | c
    · have := rkK_lt t _ _ c hi; omega
    · rw [← a.1, ← b.1, c]
    · have := rkK_lt t _ _ c hj; omega
  · intro h; unfold kvK; rw [fst1_eq h]

theorem rkK_congr0 {t u : Nat → Int} (k : Nat) (h : ∀ i, i < k → t i = u i) : rkK t k = rkK u k :=
  rkK_congr (m := k) (fun i j hi hj => by rw [h i hi, h j hj]) k (Nat.le_refl _)

theorem kerK_congr0 {t u : Nat → Int} (k : Nat) (h : ∀ i, i < k → t i = u i) : kerK t k = kerK u k :=
  kerK_congr (fun i j hi hj => by rw [h i hi, h j hj])

/-- One value put in the place of another. -/
def rn (r : Nat → Int) (x y : Int) : Nat → Int := fun i => if r i = x then y else r i

theorem rn_iff (r : Nat → Int) (x y : Int) (i j : Nat) : rn r x y i = rn r x y j ↔ r i = r j ∨ ((r i = x ∨ r i = y) ∧ (r j = x ∨ r j = y)) := by
  unfold rn
  by_cases h1 : r i = x <;> by_cases h2 : r j = x <;> simp [h1, h2]
  · exact ⟨fun h => Or.inr h.symm, fun h => by rcases h with h | h; exact absurd h.symm h2; exact h.symm⟩
  · intro h3 h4; rw [h3, h4]

theorem length_lt_of_sub {l l' : List Nat} (hn : l'.Nodup) (hs : ∀ x ∈ l', x ∈ l) (z : Nat) (hz : z ∈ l) (hz' : z ∉ l') : l'.length < l.length := by
  have h1 : (z :: l').Nodup := List.nodup_cons.2 ⟨hz', hn⟩
  have h2 : (z :: l').length ≤ l.length := by
    refine List.Nodup.length_le_of_subset h1 (fun x hx => ?_)
    rcases List.mem_cons.1 hx with h | h
    · rw [h]; exact hz
    · exact hs x h
  simp at h2
  omega

theorem rkK_rn (r : Nat → Int) (m a b : Nat) (ha : a < m) (hb : b < m) (hne : r a ≠ r b) : rkK (rn r (r a) (r b)) m < rkK r m := by
  have key : ∀ i, fst1 (rn r (r a) (r b)) i = i → fst1 r i = i := by
    intro i hi
    have h1 := fst1_at r i
    have h2 := fst1_at (rn r (r a) (r b)) i
    by_cases c : fst1 r i = i
    · exact c
    · exfalso
      refine h2.2.2 (fst1 r i) (by omega) ?_
      exact (rn_iff r _ _ _ _).2 (Or.inl h1.1)
  have fa := fst1_at r a
  have fb := fst1_at r b
  have fne : fst1 r a ≠ fst1 r b := fun e => hne (by rw [← fa.1, ← fb.1, e])
  have main : ∀ x y : Nat, x < m → fst1 r x = x → y < x → (r x = r a ∨ r x = r b) → (r y = r a ∨ r y = r b) → rkK (rn r (r a) (r b)) m < rkK r m := by
    intro x y hx hfx hy h1 h2
    unfold rkK
    refine length_lt_of_sub (List.nodup_range.filter _) (fun z hz => ?_) x ?_ ?_
    · rw [List.mem_filter] at hz ⊢
      exact ⟨hz.1, by have := hz.2; simp at this ⊢; exact key z this⟩
    · rw [List.mem_filter]
      exact ⟨List.mem_range.2 hx, by simpa using hfx⟩
    · intro hz
      rw [List.mem_filter] at hz
      have hz2 : fst1 (rn r (r a) (r b)) x = x := by simpa using hz.2
      have := (fst1_at (rn r (r a) (r b)) x).2.2 y (by omega)
      exact this ((rn_iff r _ _ _ _).2 (Or.inr ⟨h2, h1⟩))
  have ea : fst1 r (fst1 r a) = fst1 r a := fst1_eq fa.1
  have eb : fst1 r (fst1 r b) = fst1 r b := fst1_eq fb.1
  rcases Nat.lt_or_gt_of_ne fne with c | c
  · exact main _ _ (by omega) eb c (Or.inr fb.1) (Or.inl fa.1)
  · exact main _ _ (by omega) ea c (Or.inl fa.1) (Or.inr fb.1)

theorem rkK_pos (r : Nat → Int) (m : Nat) (h : 0 < m) : 0 < rkK r m := by
  have := rkK_mono r 1 m h
  have e : rkK r 1 = 1 := by rw [rkK_succ]; rw [if_pos (by rfl)]; rfl
  omega

structure Eqv (m : Nat) (Q : Nat → Nat → Prop) : Prop where
  rf : ∀ i, i < m → Q i i
  sy : ∀ i j, i < m → j < m → Q i j → Q j i
  tr : ∀ i j k, i < m → j < m → k < m → Q i j → Q j k → Q i k

/-- A right congruence, or with s a congruence, of the numbers below m. -/
structure Cgr (m : Nat) (mu : Nat → Nat → Nat) (s : Bool) (Q : Nat → Nat → Prop) : Prop where
  eqv : Eqv m Q
  rt : ∀ i j c, i < m → j < m → c < m → Q i j → Q (mu i c) (mu j c)
  lf : s = true → ∀ i j c, i < m → j < m → c < m → Q i j → Q (mu c i) (mu c j)

/-- The finest one that has the pairs P. -/
def Gen (m : Nat) (mu : Nat → Nat → Nat) (s : Bool) (P : Nat → Nat → Prop) (i j : Nat) : Prop :=
  ∀ Q, Cgr m mu s Q → (∀ a b, a < m → b < m → P a b → Q a b) → Q i j

theorem gen_cgr (m : Nat) (mu : Nat → Nat → Nat) (s : Bool) (P : Nat → Nat → Prop) : Cgr m mu s (Gen m mu s P) :=
  ⟨⟨fun i hi _ hQ _ => hQ.eqv.rf i hi, fun i j hi hj h Q hQ hP => hQ.eqv.sy i j hi hj (h Q hQ hP), fun i j k hi hj hk h1 h2 Q hQ hP => hQ.eqv.tr i j k hi hj hk (h1 Q hQ hP) (h2 Q hQ hP)⟩,
   fun i j c hi hj hc h Q hQ hP => hQ.rt i j c hi hj hc (h Q hQ hP), fun hs i j c hi hj hc h Q hQ hP => hQ.lf hs i j c hi hj hc (h Q hQ hP)⟩

theorem gen_base {m : Nat} {mu : Nat → Nat → Nat} {s : Bool} {P : Nat → Nat → Prop} {i j : Nat} (hi : i < m) (hj : j < m) (h : P i j) : Gen m mu s P i j := fun _ _ hP => hP i j hi hj h

theorem gen_sub {m : Nat} {mu : Nat → Nat → Nat} {s : Bool} {P P' : Nat → Nat → Prop} (h : ∀ a b, a < m → b < m → P a b → Gen m mu s P' a b) {i j : Nat} (hg : Gen m mu s P i j) : Gen m mu s P' i j :=
  hg _ (gen_cgr m mu s P') h

open Classical in
/-- The first number that goes with i. -/
noncomputable def gnum (m : Nat) (mu : Nat → Nat → Nat) (s : Bool) (P : Nat → Nat → Prop) (i : Nat) : Nat := ((List.range i).find? fun j => decide (Gen m mu s P j i)).getD i

open Classical in
theorem gnum_at (m : Nat) (mu : Nat → Nat → Nat) (s : Bool) (P : Nat → Nat → Prop) (i : Nat) (hi : i < m) : Gen m mu s P (gnum m mu s P i) i ∧ gnum m mu s P i ≤ i ∧ ∀ j, j < gnum m mu s P i → ¬ Gen m mu s P j i := by
  unfold gnum
  cases h : (List.range i).find? fun j => decide (Gen m mu s P j i) with
  | none =>
    rw [List.find?_eq_none] at h
    refine ⟨(gen_cgr m mu s P).eqv.rf i hi, Nat.le_refl _, fun j hj e => ?_⟩
    exact h j (by simpa using hj) (by simpa using e)
  | some a =>
    have h1 := List.find?_some h
    have h2 := List.mem_of_find?_eq_some h
    rw [List.find?_eq_some_iff_append] at h
    obtain ⟨_, xs, ys, hab, hxs⟩ := h
    simp only [Option.getD_some]
    refine ⟨by simpa using h1, by simp at h2; omega, fun i' hi' e => ?_⟩
    have hlen : xs.length = a := by
      have : (List.range i)[xs.length]? = some a := by rw [hab]; simp
      rw [List.getElem?_range (by
        have := congrArg List.length hab
        simp at this; omega)] at this
      simpa using this
    have hm : i' ∈ xs := by
      have : (List.range i)[i']? = some i' := List.getElem?_range (by simp at h2; omega)
      rw [hab, List.getElem?_append_left (by omega)] at this
      exact List.mem_of_getElem? this
    have := hxs i' hm
    simp [e] at this

theorem gnum_iff (m : Nat) (mu : Nat → Nat → Nat) (s : Bool) (P : Nat → Nat → Prop) (i j : Nat) (hi : i < m) (hj : j < m) : (gnum m mu s P i : Int) = gnum m mu s P j ↔ Gen m mu s P i j := by
  have a := gnum_at m mu s P i hi
  have b := gnum_at m mu s P j hj
  have E := (gen_cgr m mu s P).eqv
  constructor
  · intro h
    have h : gnum m mu s P i = gnum m mu s P j := by omega
    rw [h] at a
    exact E.tr _ _ _ hi (by omega) hj (E.sy _ _ (by omega) hi a.1) b.1
  · intro h
    rcases Nat.lt_trichotomy (gnum m mu s P i) (gnum m mu s P j) with c | c | c
    · exact absurd (E.tr _ _ _ (by omega) hi hj a.1 h) (b.2.2 _ c)
    · rw [c]
    · exact absurd (E.tr _ _ _ (by omega) hj hi b.1 (E.sy _ _ hi hj h)) (a.2.2 _ c)

/-- The classes of the finest one that has the pairs P. -/
noncomputable def kerG (m : Nat) (mu : Nat → Nat → Nat) (s : Bool) (P : Nat → Nat → Prop) : List Int := kerK (fun i => (gnum m mu s P i : Int)) m

theorem kerG_len (m : Nat) (mu : Nat → Nat → Nat) (s : Bool) (P : Nat → Nat → Prop) : (kerG m mu s P).length = m := kerK_len _ _

theorem kerG_eq {m : Nat} {mu : Nat → Nat → Nat} {s : Bool} {P : Nat → Nat → Prop} {r : Nat → Int} (h : ∀ i j, i < m → j < m → (r i = r j ↔ Gen m mu s P i j)) : kerK r m = kerG m mu s P :=
  kerK_congr fun i j hi hj => (h i j hi hj).trans (gnum_iff m mu s P i j hi hj).symm

theorem kerG_iff {m : Nat} {mu : Nat → Nat → Nat} {s : Bool} {P : Nat → Nat → Prop} {i j : Nat} (hi : i < m) (hj : j < m) : (kerG m mu s P).getD i 0 = (kerG m mu s P).getD j 0 ↔ Gen m mu s P i j := by
  unfold kerG
  rw [kerK_getD _ _ _ hi, kerK_getD _ _ _ hj, kvK_iff]
  exact gnum_iff m mu s P i j hi hj

theorem kerG_congr {m : Nat} {mu : Nat → Nat → Nat} {s : Bool} {P P' : Nat → Nat → Prop} (h1 : ∀ a b, a < m → b < m → P a b → Gen m mu s P' a b) (h2 : ∀ a b, a < m → b < m → P' a b → Gen m mu s P a b) : kerG m mu s P = kerG m mu s P' :=
  kerK_congr fun i j hi hj => (gnum_iff m mu s P i j hi hj).trans (Iff.trans ⟨gen_sub h1, gen_sub h2⟩ (gnum_iff m mu s P' i j hi hj).symm)

/-- What has the same name is in Q. -/
def KQ (m : Nat) (r : Nat → Int) (Q : Nat → Nat → Prop) : Prop := ∀ i j, i < m → j < m → r i = r j → Q i j

theorem kq_rn {m : Nat} {r : Nat → Int} {Q : Nat → Nat → Prop} (hQ : Eqv m Q) (h : KQ m r Q) {a b : Nat} (ha : a < m) (hb : b < m) (hab : Q a b) : KQ m (rn r (r a) (r b)) Q := by
  intro i j hi hj hr
  have hx : ∀ i, i < m → (r i = r a ∨ r i = r b) → Q i a := fun i hi c => by
    rcases c with c | c
    · exact h i a hi ha c
    · exact hQ.tr _ _ _ hi hb ha (h i b hi hb c) (hQ.sy _ _ ha hb hab)
  rcases (rn_iff r _ _ i j).1 hr with c | ⟨c1, c2⟩
  · exact h i j hi hj c
  · exact hQ.tr _ _ _ hi ha hj (hx i hi c1) (hQ.sy _ _ hj ha (hx j hj c2))

theorem ker_eqv (m : Nat) (r : Nat → Int) : Eqv m (fun i j => r i = r j) := ⟨fun _ _ => rfl, fun _ _ _ _ h => h.symm, fun _ _ _ _ _ _ h1 h2 => h1.trans h2⟩

/-- The products of i and j have the same names. -/
def Cl (m : Nat) (mu : Nat → Nat → Nat) (s : Bool) (r : Nat → Int) (i j : Nat) : Prop := (∀ c, c < m → r (mu i c) = r (mu j c)) ∧ (s = true → ∀ c, c < m → r (mu c i) = r (mu c j))

theorem cl_eqv (m : Nat) (mu : Nat → Nat → Nat) (s : Bool) (r : Nat → Int) : Eqv m (Cl m mu s r) :=
  ⟨fun _ _ => ⟨fun _ _ => rfl, fun _ _ _ => rfl⟩, fun _ _ _ _ h => ⟨fun c hc => (h.1 c hc).symm, fun hs c hc => (h.2 hs c hc).symm⟩,
   fun _ _ _ _ _ _ h k => ⟨fun c hc => (h.1 c hc).trans (k.1 c hc), fun hs c hc => (h.2 hs c hc).trans (k.2 hs c hc)⟩⟩

/-- What bringing pairs P together has made of the names r. -/
structure Brg (m : Nat) (mu : Nat → Nat → Nat) (s : Bool) (r r' : Nat → Int) (P : Nat → Nat → Prop) : Prop where
  kk : ∀ i j, i < m → j < m → r i = r j → r' i = r' j
  pp : ∀ i j, i < m → j < m → P i j → r' i = r' j
  snd : ∀ Q, Cgr m mu s Q → KQ m r Q → (∀ i j, i < m → j < m → P i j → Q i j) → KQ m r' Q
  cls : ∀ Q, Eqv m Q → KQ m r Q → (∀ i j, i < m → j < m → Cl m mu s r' i j → Q i j) → KQ m r' Q
  rk : rkK r' m ≤ rkK r m
  vl : ∀ i, i < m → ∃ j, j < m ∧ r' i = r j

theorem Brg.refl (m : Nat) (mu : Nat → Nat → Nat) (s : Bool) (r : Nat → Int) (P : Nat → Nat → Prop) (h : ∀ i j, i < m → j < m → P i j → r i = r j) : Brg m mu s r r P :=
  ⟨fun _ _ _ _ h => h, h, fun _ _ h _ => h, fun _ _ h _ => h, Nat.le_refl _, fun i hi => ⟨i, hi, rfl⟩⟩

theorem Brg.trans {m : Nat} {mu : Nat → Nat → Nat} {s : Bool} {r r1 r2 : Nat → Int} {P P2 : Nat → Nat → Prop} (hmu : ∀ a b, a < m → b < m → mu a b < m) (h : Brg m mu s r r1 P) (k : Brg m mu s r1 r2 P2) : Brg m mu s r r2 (fun i j => P i j ∨ P2 i j) := by
  refine ⟨fun i j hi hj e => k.kk i j hi hj (h.kk i j hi hj e), fun i j hi hj e => ?_, fun Q hQ h1 h2 => k.snd Q hQ (h.snd Q hQ h1 (fun i j hi hj e => h2 i j hi hj (Or.inl e))) (fun i j hi hj e => h2 i j hi hj (Or.inr e)),
    fun Q hQ h1 h2 => k.cls Q hQ (h.cls Q hQ h1 (fun i j hi hj c => h2 i j hi hj ⟨fun x hx => k.kk _ _ (hmu _ _ hi hx) (hmu _ _ hj hx) (c.1 x hx), fun hs x hx => k.kk _ _ (hmu _ _ hx hi) (hmu _ _ hx hj) (c.2 hs x hx)⟩)) h2, Nat.le_trans k.rk h.rk, fun i hi => by
    obtain ⟨j, hj, e⟩ := k.vl i hi
    obtain ⟨q, hq, e2⟩ := h.vl j hj
    exact ⟨q, hq, e.trans e2⟩⟩
  rcases e with e | e
  · exact k.kk i j hi hj (h.pp i j hi hj e)
  · exact k.pp i j hi hj e

theorem Brg.weak {m : Nat} {mu : Nat → Nat → Nat} {s : Bool} {r r' : Nat → Int} {P P2 : Nat → Nat → Prop} (h : Brg m mu s r r' P) (h1 : ∀ i j, P i j ↔ P2 i j) : Brg m mu s r r' P2 :=
  ⟨h.kk, fun i j hi hj e => h.pp i j hi hj ((h1 i j).2 e), fun Q hQ a b => h.snd Q hQ a (fun i j hi hj e => b i j hi hj ((h1 i j).1 e)), h.cls, h.rk, h.vl⟩

/-- The first k products of a and b. -/
def Pro (mu : Nat → Nat → Nat) (s : Bool) (a b k : Nat) (i j : Nat) : Prop := ∃ c, c < k ∧ ((i = mu a c ∧ j = mu b c) ∨ (s = true ∧ i = mu c a ∧ j = mu c b))

theorem Brg.round {m : Nat} {mu : Nat → Nat → Nat} {s : Bool} {r rf : Nat → Int} {a b : Nat} (hmu : ∀ a b, a < m → b < m → mu a b < m) (ha : a < m) (hb : b < m) (h : Brg m mu s (rn r (r a) (r b)) rf (Pro mu s a b m)) (hne : r a ≠ r b) : Brg m mu s r rf (fun i j => i = a ∧ j = b) := by
  have hcl : Cl m mu s rf a b := ⟨fun c hc => h.pp _ _ (hmu _ _ ha hc) (hmu _ _ hb hc) ⟨c, hc, Or.inl ⟨rfl, rfl⟩⟩, fun hs c hc => h.pp _ _ (hmu _ _ hc ha) (hmu _ _ hc hb) ⟨c, hc, Or.inr ⟨hs, rfl, rfl⟩⟩⟩
  have h0 : ∀ i j, i < m → j < m → r i = r j → rf i = rf j := fun i j hi hj e => h.kk i j hi hj ((rn_iff r _ _ i j).2 (Or.inl e))
  refine ⟨h0, ?_, fun Q hQ h1 h2 => ?_, fun Q hQ h1 h2 => ?_, by have := h.rk; have := rkK_rn r m a b ha hb hne; omega, fun i hi => by
    obtain ⟨j, hj, e⟩ := h.vl i hi
    unfold rn at e
    by_cases c : r j = r a
    · rw [if_pos c] at e; exact ⟨b, hb, e⟩
    · rw [if_neg c] at e; exact ⟨j, hj, e⟩⟩
  · rintro i j hi hj ⟨rfl, rfl⟩
    exact h.kk _ _ hi hj ((rn_iff r _ _ _ _).2 (Or.inr ⟨Or.inl rfl, Or.inr rfl⟩))
  · have hab := h2 a b ha hb ⟨rfl, rfl⟩
    refine h.snd Q hQ (kq_rn hQ.eqv h1 ha hb hab) ?_
    rintro i j hi hj ⟨c, hc, ⟨rfl, rfl⟩ | ⟨hs, rfl, rfl⟩⟩
    · exact hQ.rt a b c ha hb hc hab
    · exact hQ.lf hs a b c ha hb hc hab
  · exact h.cls Q hQ (kq_rn hQ h1 ha hb (h2 a b ha hb hcl)) h2

theorem brg_gen {m : Nat} {mu : Nat → Nat → Nat} {s : Bool} {rf : Nat → Int} {P : Nat → Nat → Prop} (h : Brg m mu s (fun i => (i : Int)) rf P) (i j : Nat) (hi : i < m) (hj : j < m) : rf i = rf j ↔ Gen m mu s P i j := by
  have hid : ∀ {Q : Nat → Nat → Prop}, Eqv m Q → KQ m (fun i => (i : Int)) Q := fun hQ i j hi _ e => by
    have e2 : (i : Int) = (j : Int) := e
    have : i = j := by omega
    subst this; exact hQ.rf i hi
  constructor
  · intro e
    exact h.snd _ (gen_cgr m mu s P) (hid (gen_cgr m mu s P).eqv) (fun a b ha hb c => gen_base ha hb c) i j hi hj e
  · intro g
    have hcl := h.cls _ (cl_eqv m mu s rf) (hid (cl_eqv m mu s rf)) (fun _ _ _ _ c => c)
    exact g (fun i j => rf i = rf j) ⟨ker_eqv m rf, fun a b c ha hb hc e => (hcl a b ha hb e).1 c hc, fun hs a b c ha hb hc e => (hcl a b ha hb e).2 hs c hc⟩ (fun a b ha hb c => h.pp a b ha hb c)

/-- What the search of spec has made of the names r0: finer than all that has r0. -/
structure Spr (m : Nat) (mu : Nat → Nat → Nat) (s : Bool) (r0 r : Nat → Int) : Prop where
  kk : ∀ i j, i < m → j < m → r0 i = r0 j → r i = r j
  snd : ∀ Q, Cgr m mu s Q → KQ m r0 Q → KQ m r Q

theorem Spr.refl (m : Nat) (mu : Nat → Nat → Nat) (s : Bool) (r : Nat → Int) : Spr m mu s r r := ⟨fun _ _ _ _ h => h, fun _ _ h => h⟩

theorem Spr.rt {m : Nat} {mu : Nat → Nat → Nat} {s : Bool} {r0 r : Nat → Int} (hmu : ∀ a b, a < m → b < m → mu a b < m) (h : Spr m mu s r0 r) {a b c : Nat} (ha : a < m) (hb : b < m) (hc : c < m) (e : r a = r b) : Spr m mu s r0 (rn r (r (mu b c)) (r (mu a c))) :=
  ⟨fun i j hi hj x => (rn_iff r _ _ i j).2 (Or.inl (h.kk i j hi hj x)), fun Q hQ h1 => kq_rn hQ.eqv (h.snd Q hQ h1) (hmu _ _ hb hc) (hmu _ _ ha hc) (hQ.rt b a c hb ha hc (h.snd Q hQ h1 b a hb ha e.symm))⟩

theorem Spr.lf {m : Nat} {mu : Nat → Nat → Nat} {s : Bool} {r0 r : Nat → Int} (hmu : ∀ a b, a < m → b < m → mu a b < m) (h : Spr m mu s r0 r) (hs : s = true) {a b c : Nat} (ha : a < m) (hb : b < m) (hc : c < m) (e : r a = r b) : Spr m mu s r0 (rn r (r (mu c b)) (r (mu c a))) :=
  ⟨fun i j hi hj x => (rn_iff r _ _ i j).2 (Or.inl (h.kk i j hi hj x)), fun Q hQ h1 => kq_rn hQ.eqv (h.snd Q hQ h1) (hmu _ _ hc hb) (hmu _ _ hc ha) (hQ.lf hs b a c hb ha hc (h.snd Q hQ h1 b a hb ha e.symm))⟩

theorem spr_gen {m : Nat} {mu : Nat → Nat → Nat} {s : Bool} {r0 r : Nat → Int} (h : Spr m mu s r0 r) (hc : ∀ a b, a < m → b < a → r a = r b → Cl m mu s r a b) (i j : Nat) (hi : i < m) (hj : j < m) : r i = r j ↔ Gen m mu s (fun a b => r0 a = r0 b) i j := by
  have hcl : ∀ a b, a < m → b < m → r a = r b → Cl m mu s r a b := fun a b ha hb e => by
    rcases Nat.lt_trichotomy a b with x | x | x
    · exact (cl_eqv m mu s r).sy b a hb ha (hc b a hb x e.symm)
    · subst x; exact (cl_eqv m mu s r).rf a ha
    · exact hc a b ha x e
  constructor
  · intro e
    exact h.snd _ (gen_cgr m mu s _) (fun a b ha hb c => gen_base ha hb c) i j hi hj e
  · intro g
    exact g (fun i j => r i = r j) ⟨ker_eqv m r, fun a b c ha hb hc e => (hcl a b ha hb e).1 c hc, fun hs a b c ha hb hc e => (hcl a b ha hb e).2 hs c hc⟩ (fun a b ha hb c => h.kk a b ha hb c)

end Go.Proofs.Ythblbamiammodaa
