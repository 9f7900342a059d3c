/- Permutations of few points as a group, by their numbers; maps renumbered by them. -/
import Derived.Test.YtfghegjlilcafaaPrl
namespace Go.Proofs.Ytfghegjlilcafaa
open Go Go.RowKit

def swC (n j : Nat) : Nat := ecd (swF n j)
def d5 (c i : Nat) : Nat := if i = 0 then c / 625 % 5 else if i = 1 then c / 125 % 5 else if i = 2 then c / 25 % 5 else if i = 3 then c / 5 % 5 else c % 5
def lgB (n c : Nat) : Bool := ((List.range 5).all fun i => decide (i < n) || d5 c i == 0) && (List.range n).all fun j => (List.range n).any fun i => d5 c i == j
theorem lg_all : ((List.range 5).all fun n => (List.range 3125).all fun c => !lgB (n + 1) c || (olN (n + 1)).contains c) = true := by decide +kernel
theorem ol_pr : ((List.range 5).all fun n => (olN (n + 1)).all fun c => decide (c < 3125) && isB ((n + 1 : Nat) : Int) (dcd c) && permB ((n + 1 : Nat) : Int) (dcd c)) = true := by decide +kernel
theorem ol_nd : ((List.range 5).all fun n => decide (olN (n + 1)).Nodup) = true := by decide +kernel
theorem ol_sw : ((List.range 5).all fun n => (olN (n + 1)).all fun c => (List.range n).all fun j => (olN (n + 1)).contains (mulC ((n + 1 : Nat) : Int) c (swC (n + 1) j))) = true := by decide +kernel
theorem sw_sw : ((List.range 5).all fun n => (List.range n).all fun j => mulC ((n + 1 : Nat) : Int) (swC (n + 1) j) (swC (n + 1) j) == idC ((n + 1 : Nat) : Int) && (olN (n + 1)).contains (swC (n + 1) j)) = true := by decide +kernel
theorem ol_id : ((List.range 5).all fun n => (olN (n + 1)).contains (idC ((n + 1 : Nat) : Int))) = true := by decide +kernel
theorem ch_in : ((List.range 5).all fun n => (chN (n + 1)).all fun x => (olN (n + 1)).contains x.1) = true := by decide +kernel
theorem ol_ch : ((List.range 5).all fun n => (olN (n + 1)).all fun c => (chN (n + 1)).any fun x => x.1 == c) = true := by decide +kernel
def ckC (n : Nat) : Bool := (List.range (chN n).length).all fun i => if i = 0 then ((chN n).getD i (0, 0, 0)).1 == idC (n : Int) else
  decide (((chN n).getD i (0, 0, 0)).2.1 < i) && decide (((chN n).getD i (0, 0, 0)).2.2 < n - 1) && ((chN n).getD i (0, 0, 0)).1 == mulC (n : Int) ((chN n).getD ((chN n).getD i (0, 0, 0)).2.1 (0, 0, 0)).1 (swC n ((chN n).getD i (0, 0, 0)).2.2)
theorem ch_ok : ((List.range 5).all fun n => ckC (n + 1)) = true := by decide +kernel
theorem all5 {P : Nat → Bool} (h : ((List.range 5).all fun n => P (n + 1)) = true) {n : Nat} (h1 : 1 ≤ n) (h5 : n ≤ 5) : P n = true := by
  obtain ⟨m, rfl⟩ : ∃ m, n = m + 1 := ⟨n - 1, by omega⟩
  exact List.all_eq_true.1 h m (List.mem_range.2 (by omega))

theorem ol_vld {n q : Nat} (h1 : 1 ≤ n) (h5 : n ≤ 5) (h : q ∈ olN n) : vld (n : Int) q ∧ permB (n : Int) (dcd q) = true := by
  have := List.all_eq_true.1 (all5 (P := fun n => (olN n).all fun c => decide (c < 3125) && isB (n : Int) (dcd c) && permB (n : Int) (dcd c)) ol_pr h1 h5) q h
  rw [Bool.and_eq_true, Bool.and_eq_true, decide_eq_true_eq] at this
  exact ⟨this.1, this.2⟩

theorem dcd_d5 (c i : Nat) (hi : i < 5) : dcd c i = (d5 c i : Int) := by
  rcases (by omega : i = 0 ∨ i = 1 ∨ i = 2 ∨ i = 3 ∨ i = 4) with rfl | rfl | rfl | rfl | rfl <;> rfl

theorem ol_of {n q : Nat} (h1 : 1 ≤ n) (h5 : n ≤ 5) (h : vld (n : Int) q) (hp : permB (n : Int) (dcd q) = true) : q ∈ olN n := by
  have hk := List.all_eq_true.1 (all5 (P := fun n => (List.range 3125).all fun c => !lgB n c || (olN n).contains c) lg_all h1 h5) q (List.mem_range.2 h.1)
  rw [Bool.or_eq_true, List.contains_iff_mem] at hk
  rcases hk with hk | hk
  · exfalso
    have hl : lgB n q = true := by
      unfold lgB
      rw [Bool.and_eq_true, List.all_eq_true, List.all_eq_true]
      constructor
      · intro i hi
        rw [Bool.or_eq_true, decide_eq_true_eq, beq_iff_eq]
        have hi5 := List.mem_range.1 hi
        by_cases hin : i < n
        · exact Or.inl hin
        · have := ((isB_true.1 h.2).2.2 i hi5).2 (by omega)
          rw [dcd_d5 q i hi5] at this
          exact Or.inr (by omega)
      · intro j hj
        rw [List.any_eq_true]
        obtain ⟨i, hi, e⟩ := perm_hit h.2 hp j (by have := List.mem_range.1 hj; omega)
        refine ⟨i, List.mem_range.2 (by omega), ?_⟩
        rw [dcd_d5 q i (by omega)] at e
        rw [beq_iff_eq]
        omega
    rw [hl] at hk
    cases hk
  · exact hk

theorem olsw {n q j : Nat} (h1 : 1 ≤ n) (h5 : n ≤ 5) (h : q ∈ olN n) (hj : j < n - 1) : mulC (n : Int) q (swC n j) ∈ olN n := by
  obtain ⟨m, rfl⟩ : ∃ m, n = m + 1 := ⟨n - 1, by omega⟩
  exact List.contains_iff_mem.1 (List.all_eq_true.1 (List.all_eq_true.1 (List.all_eq_true.1 ol_sw m (List.mem_range.2 (by omega))) q h) j (List.mem_range.2 (by omega)))
theorem swsw {n j : Nat} (h1 : 1 ≤ n) (h5 : n ≤ 5) (hj : j < n - 1) : mulC (n : Int) (swC n j) (swC n j) = idC (n : Int) ∧ swC n j ∈ olN n := by
  obtain ⟨m, rfl⟩ : ∃ m, n = m + 1 := ⟨n - 1, by omega⟩
  have := List.all_eq_true.1 (List.all_eq_true.1 sw_sw m (List.mem_range.2 (by omega))) j (List.mem_range.2 (by omega))
  rw [Bool.and_eq_true, beq_iff_eq, List.contains_iff_mem] at this
  exact this
theorem olid {n : Nat} (h1 : 1 ≤ n) (h5 : n ≤ 5) : idC (n : Int) ∈ olN n := List.contains_iff_mem.1 (all5 (P := fun n => (olN n).contains (idC (n : Int))) ol_id h1 h5)

/-- What holds for the identity and goes on by swaps holds for all permutations. -/
theorem ol_ind {n : Nat} (h1 : 1 ≤ n) (h5 : n ≤ 5) (Q : Nat → Prop) (h0 : Q (idC (n : Int))) (hs : ∀ q, q ∈ olN n → Q q → ∀ j, j < n - 1 → Q (mulC (n : Int) q (swC n j))) : ∀ q, q ∈ olN n → Q q := by
  have hc : ckC n = true := all5 ch_ok h1 h5
  unfold ckC at hc
  rw [List.all_eq_true] at hc
  have hin : ∀ i, i < (chN n).length → ((chN n).getD i (0, 0, 0)).1 ∈ olN n := fun i hi => by
    have := List.all_eq_true.1 (all5 (P := fun n => (chN n).all fun x => (olN n).contains x.1) ch_in h1 h5) ((chN n).getD i (0, 0, 0)) (by
      rw [List.getD_eq_getElem?_getD, List.getElem?_eq_getElem hi]
      exact List.getElem_mem hi)
    exact List.contains_iff_mem.1 this
  have hall : ∀ i, i < (chN n).length → Q ((chN n).getD i (0, 0, 0)).1 := by
    intro i
    induction i using Nat.strongRecOn with
    | ind i ih =>
      intro hi
      have hk := hc i (List.mem_range.2 hi)
      by_cases e : i = 0
      · rw [if_pos e, beq_iff_eq] at hk
        rw [hk]; exact h0
      · rw [if_neg e, Bool.and_eq_true, Bool.and_eq_true, decide_eq_true_eq, decide_eq_true_eq, beq_iff_eq] at hk
        obtain ⟨⟨k1, k2⟩, k3⟩ := hk
        rw [k3]
        exact hs _ (hin _ (by omega)) (ih _ k1 (by omega)) _ k2
  intro q hq
  have := List.all_eq_true.1 (all5 (P := fun n => (olN n).all fun c => (chN n).any fun x => x.1 == c) ol_ch h1 h5) q hq
  rw [List.any_eq_true] at this
  obtain ⟨x, hx, e⟩ := this
  rw [beq_iff_eq] at e
  obtain ⟨i, hi, rfl⟩ := List.getElem_of_mem hx
  have := hall i hi
  rw [List.getD_eq_getElem?_getD, List.getElem?_eq_getElem hi] at this
  rw [← e]
  exact this

theorem ecd_congr {s t : Nat → Int} (h : ∀ i, i < 5 → s i = t i) : ecd s = ecd t := by
  unfold ecd; rw [h 0 (by omega), h 1 (by omega), h 2 (by omega), h 3 (by omega), h 4 (by omega)]
theorem mulC_at {p : Int} {a b : Nat} (ha : vld p a) (hb : vld p b) (i : Nat) (hi : i < 5) : dcd (mulC p a b) i = mul p (dcd a) (dcd b) i := dcd_ecd (mul_ok ha.2 hb.2) i hi
theorem mulC_ass {p : Int} {a b c : Nat} (ha : vld p a) (hb : vld p b) (hc : vld p c) : mulC p (mulC p a b) c = mulC p a (mulC p b c) := by
  unfold mulC
  refine ecd_congr fun i _ => ?_
  have e1 : mul p (dcd (mulC p a b)) (dcd c) = mul p (mul p (dcd a) (dcd b)) (dcd c) := mul_congr (mulC_vld ha hb).2 (fun i hi => mulC_at ha hb i hi) (fun _ _ => rfl)
  have e2 : mul p (dcd a) (dcd (mulC p b c)) = mul p (dcd a) (mul p (dcd b) (dcd c)) := mul_congr ha.2 (fun _ _ => rfl) (fun i hi => mulC_at hb hc i hi)
  show mul p (dcd (mulC p a b)) (dcd c) i = mul p (dcd a) (dcd (mulC p b c)) i
  rw [e1, e2, mul_assoc' ha.2]
theorem idC_at {p : Int} (h1 : 1 ≤ p) (h5 : p ≤ 5) (i : Nat) (hi : i < 5) : dcd (idC p) i = idn p i := dcd_ecd (idn_ok h1 h5) i hi
theorem idn_lt {p : Int} {i : Nat} (h : (i : Int) < p) : idn p i = (i : Int) := by unfold idn; rw [if_pos h]
theorem mulC_id {p : Int} {a : Nat} (ha : vld p a) : mulC p a (idC p) = a ∧ mulC p (idC p) a = a := by
  obtain ⟨h1, h5⟩ := isB_pts ha.2
  have hz : ∀ i : Nat, i < 5 → ¬ ((i : Int) < p) → dcd a i = 0 := fun i hi h => ((isB_true.1 ha.2).2.2 i hi).2 (by omega)
  constructor
  · refine Eq.trans (ecd_congr (t := dcd a) fun i hi => ?_) (ecd_dcd ha.1)
    by_cases h : (i : Int) < p
    · have := ok_at ha.2 i h
      rw [mul_lt _ _ _ h, idC_at h1 h5 _ (by omega), idn_lt (by omega)]
      omega
    · rw [mul_ge _ _ _ (by omega), hz i hi h]
  · refine Eq.trans (ecd_congr (t := dcd a) fun i hi => ?_) (ecd_dcd ha.1)
    by_cases h : (i : Int) < p
    · rw [mul_lt _ _ _ h, idC_at h1 h5 _ hi, idn_lt h]
      rfl
    · rw [mul_ge _ _ _ (by omega), hz i hi h]

section grp
variable {n : Nat} (h1 : 1 ≤ n) (h5 : n ≤ 5)
include h1 h5
theorem ol_mul {q r : Nat} (hq : q ∈ olN n) (hr : r ∈ olN n) : mulC (n : Int) r q ∈ olN n := by
  refine ol_ind h1 h5 (fun q => mulC (n : Int) r q ∈ olN n) ?_ (fun q hq ih j hj => ?_) q hq
  · rw [(mulC_id (ol_vld h1 h5 hr).1).1]; exact hr
  · rw [← mulC_ass (ol_vld h1 h5 hr).1 (ol_vld h1 h5 hq).1 (ol_vld h1 h5 (swsw h1 h5 hj).2).1]
    exact olsw h1 h5 ih hj
theorem ol_inv1 {q : Nat} (hq : q ∈ olN n) : ∃ r, r ∈ olN n ∧ mulC (n : Int) q r = idC (n : Int) := by
  refine ol_ind h1 h5 (fun q => ∃ r, r ∈ olN n ∧ mulC (n : Int) q r = idC (n : Int)) ?_ (fun q hq ih j hj => ?_) q hq
  · exact ⟨_, olid h1 h5, (mulC_id (ol_vld h1 h5 (olid h1 h5)).1).1⟩
  · obtain ⟨r, hr, e⟩ := ih
    obtain ⟨s1, s2⟩ := swsw h1 h5 hj
    have vq := (ol_vld h1 h5 hq).1
    have vs := (ol_vld h1 h5 s2).1
    have vr := (ol_vld h1 h5 hr).1
    refine ⟨mulC (n : Int) (swC n j) r, ol_mul h1 h5 hr s2, ?_⟩
    rw [mulC_ass vq vs (mulC_vld vs vr), ← mulC_ass vs vs vr, s1, (mulC_id vr).2, e]
theorem ol_inv {q : Nat} (hq : q ∈ olN n) : ∃ r, r ∈ olN n ∧ mulC (n : Int) q r = idC (n : Int) ∧ mulC (n : Int) r q = idC (n : Int) := by
  obtain ⟨r, hr, e⟩ := ol_inv1 h1 h5 hq
  obtain ⟨r', hr', e'⟩ := ol_inv1 h1 h5 hr
  have vq := (ol_vld h1 h5 hq).1
  have vr := (ol_vld h1 h5 hr).1
  have vr' := (ol_vld h1 h5 hr').1
  have : q = r' := by
    rw [← (mulC_id vq).1, ← e', ← mulC_ass vq vr vr', e, (mulC_id vr').2]
  exact ⟨r, hr, e, by rw [this]; exact e'⟩
end grp

theorem inv_hit (q : Nat → Int) (j : Nat) : ∀ k, (∃ i, i < k ∧ (q i).toNat = j) → ∃ i, i < k ∧ invK q k j = (i : Int) ∧ (q i).toNat = j
  | 0, h => by obtain ⟨i, hi, _⟩ := h; omega
  | k + 1, h => by
    unfold invK upd
    by_cases e : j = (q k).toNat
    · rw [if_pos e]; exact ⟨k, by omega, rfl, e.symm⟩
    · rw [if_neg e]
      obtain ⟨i, hi, hij⟩ := h
      have hik : i ≠ k := fun c => e (by rw [← hij, c])
      obtain ⟨i', h1, h2, h3⟩ := inv_hit q j k ⟨i, by omega, hij⟩
      exact ⟨i', by omega, h2, h3⟩

/-- A map renumbered, by numbers. -/
def rnC (n f q : Nat) : Nat := ecd (renm (n : Int) (dcd f) (dcd q))

section ren
variable {n : Nat} (h1 : 1 ≤ n) (h5 : n ≤ 5)
include h1 h5
theorem rn_vld {f q : Nat} (hf : vld (n : Int) f) (hq : q ∈ olN n) : vld (n : Int) (rnC n f q) := by
  obtain ⟨vq, pq⟩ := ol_vld h1 h5 hq
  exact vld_ecd (renm_ok hf.2 vq.2 pq)
theorem rn_eq {f q r : Nat} (hf : vld (n : Int) f) (hq : q ∈ olN n) (hr : r ∈ olN n) (e : mulC (n : Int) q r = idC (n : Int)) : rnC n f q = mulC (n : Int) (mulC (n : Int) r f) q := by
  obtain ⟨vq, pq⟩ := ol_vld h1 h5 hq
  have vr := (ol_vld h1 h5 hr).1
  have vi : vld (n : Int) (ecd (invm (n : Int) (dcd q))) := vld_ecd (inv_ok vq.2)
  have e0 : mulC (n : Int) (ecd (invm (n : Int) (dcd q))) q = idC (n : Int) := by
    unfold mulC idC
    refine ecd_congr fun i hi => ?_
    by_cases h : (i : Int) < (n : Int)
    · rw [mul_lt _ _ _ h, dcd_ecd (inv_ok vq.2) i hi, idn_lt h]
      obtain ⟨k, hk, e1, e2⟩ := inv_hit (dcd q) i n (by
        obtain ⟨k, hk, e⟩ := perm_hit vq.2 pq i h
        exact ⟨k, by simpa using hk, e⟩)
      show dcd q (invK (dcd q) (n : Int).toNat i).toNat = _
      rw [Int.toNat_natCast, e1, Int.toNat_natCast]
      have := ok_at vq.2 k (by omega)
      omega
    · rw [mul_ge _ _ _ (by omega)]
      unfold idn
      rw [if_neg h]
  have er : ecd (invm (n : Int) (dcd q)) = r := by
    rw [← (mulC_id vi).1, ← e, ← mulC_ass vi vq vr, e0, (mulC_id vr).2]
  rw [← er]
  unfold rnC
  conv => rhs; unfold mulC
  refine ecd_congr fun i hi => ?_
  rw [← ren_eq hf.2 vq.2 pq i]
  have ea : mul (n : Int) (invm (n : Int) (dcd q)) (dcd f) = mul (n : Int) (dcd (ecd (invm (n : Int) (dcd q)))) (dcd f) := mul_congr (inv_ok vq.2) (fun i hi => (dcd_ecd (inv_ok vq.2) i hi).symm) (fun _ _ => rfl)
  have eb : mul (n : Int) (mul (n : Int) (dcd (ecd (invm (n : Int) (dcd q)))) (dcd f)) (dcd q) = mul (n : Int) (dcd (mulC (n : Int) (ecd (invm (n : Int) (dcd q))) f)) (dcd q) := mul_congr (mul_ok vi.2 hf.2) (fun i hi => (mulC_at vi hf i hi).symm) (fun _ _ => rfl)
  rw [ea, eb]
  rfl
theorem rn_id {f : Nat} (hf : vld (n : Int) f) : rnC n f (idC (n : Int)) = f := by
  have hi := olid h1 h5
  have vi := (ol_vld h1 h5 hi).1
  rw [rn_eq h1 h5 hf hi hi (mulC_id vi).1, (mulC_id hf).2, (mulC_id hf).1]
theorem rn_mul {f q s : Nat} (hf : vld (n : Int) f) (hq : q ∈ olN n) (hs : s ∈ olN n) : rnC n (rnC n f q) s = rnC n f (mulC (n : Int) q s) := by
  obtain ⟨r, hr, e1, _⟩ := ol_inv h1 h5 hq
  obtain ⟨u, hu, e3, _⟩ := ol_inv h1 h5 hs
  have vq := (ol_vld h1 h5 hq).1
  have vs := (ol_vld h1 h5 hs).1
  have vr := (ol_vld h1 h5 hr).1
  have vu := (ol_vld h1 h5 hu).1
  have hqs : mulC (n : Int) q s ∈ olN n := ol_mul h1 h5 hs hq
  have hur : mulC (n : Int) u r ∈ olN n := ol_mul h1 h5 hr hu
  have e5 : mulC (n : Int) (mulC (n : Int) q s) (mulC (n : Int) u r) = idC (n : Int) := by
    rw [mulC_ass vq vs (mulC_vld vu vr), ← mulC_ass vs vu vr, e3, (mulC_id vr).2, e1]
  rw [rn_eq h1 h5 (rn_vld h1 h5 hf hq) hs hu e3, rn_eq h1 h5 hf hq hr e1, rn_eq h1 h5 hf hqs hur e5]
  rw [mulC_ass vu vr hf, ← mulC_ass vu (mulC_vld vr hf) vq, mulC_ass (mulC_vld vu (mulC_vld vr hf)) vq vs]
theorem rn_fix {f q : Nat} (hf : vld (n : Int) f) (hq : q ∈ olN n) : rnC n f q = f ↔ mulC (n : Int) f q = mulC (n : Int) q f := by
  obtain ⟨r, hr, e1, e2⟩ := ol_inv h1 h5 hq
  have vq := (ol_vld h1 h5 hq).1
  have vr := (ol_vld h1 h5 hr).1
  rw [rn_eq h1 h5 hf hq hr e1]
  constructor
  · intro h
    have : mulC (n : Int) q (mulC (n : Int) (mulC (n : Int) r f) q) = mulC (n : Int) q f := by rw [h]
    rw [mulC_ass vr hf vq, ← mulC_ass vq vr (mulC_vld hf vq), e1, (mulC_id (mulC_vld hf vq)).2] at this
    exact this
  · intro h
    rw [mulC_ass vr hf vq, h, ← mulC_ass vr vq hf, e2, (mulC_id hf).2]
end ren

theorem renK_congr {f q q' : Nat → Int} : ∀ k, (∀ i, i < k → q i = q' i) → (∀ i, i < k → q (f i).toNat = q' (f i).toNat) → renK f q k = renK f q' k
  | 0, _, _ => rfl
  | k + 1, h, h' => by
    unfold renK
    rw [renK_congr k (fun i hi => h i (by omega)) (fun i hi => h' i (by omega)), h k (by omega), h' k (by omega)]
theorem rnA_rn {n j x : Nat} (h5 : n ≤ 5) (hj : j + 1 < n) (hx : vld (n : Int) x) : rnA n j x = rnC n x (swC n j) := by
  have hs := (swF_ok h5 hj).1
  unfold rnA rnC swC renm
  rw [Int.toNat_natCast, renK_congr n (fun i hi => (dcd_ecd hs i (by omega)).symm) (fun i hi => by
    have := ok_at hx.2 i (by omega)
    exact (dcd_ecd hs _ (by omega)).symm)]

/-- What the swaps lead to is what all permutations renumber to. -/
theorem orb_rn {n c : Nat} {E : List Nat} (h1 : 1 ≤ n) (h5 : n ≤ 5) (hc : vld (n : Int) c) (h : Orbt (rnA n) (n - 1) (vld (n : Int)) c E) (y : Nat) : y ∈ E ↔ ∃ q, q ∈ olN n ∧ y = rnC n c q := by
  constructor
  · refine h.least (fun y => ∃ q, q ∈ olN n ∧ y = rnC n c q) ⟨_, olid h1 h5, (rn_id h1 h5 hc).symm⟩ ?_ y
    rintro x ⟨q, hq, rfl⟩ hx j hj
    have hs := (swsw h1 h5 hj).2
    exact ⟨_, ol_mul h1 h5 hs hq, by rw [rnA_rn h5 (by omega) hx, rn_mul h1 h5 hc hq hs]⟩
  · rintro ⟨q, hq, rfl⟩
    refine ol_ind h1 h5 (fun q => rnC n c q ∈ E) ?_ (fun q hq ih j hj => ?_) q hq
    · rw [rn_id h1 h5 hc]; exact h.first
    · have hs := (swsw h1 h5 hj).2
      have := h.closed _ ih j hj
      rw [rnA_rn h5 (by omega) (h.vl _ ih), rn_mul h1 h5 hc hq hs] at this
      exact this
end Go.Proofs.Ytfghegjlilcafaa
