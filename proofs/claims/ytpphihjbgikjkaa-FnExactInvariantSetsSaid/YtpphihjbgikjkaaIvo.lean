/- What unions of orbits make of the empty set: the invariant sets; told without Go. The contracts of impl.union and of the closure of impl.InvariantSets. -/
import Derived.Test.YtpphihjbgikjkaaIvk
import Derived.Test.YtpphihjbgikjkaaOrt
import Derived.Test.YtpphihjbgikjkaaSl
namespace Go.Proofs.Ytpphihjbgikjkaa
open Go Go.RowKit

/-- The number of a set. -/
def cdS (s : Nat → Bool) : Nat := (mask s).toNat
theorem cdS_lt (s : Nat → Bool) : cdS s < 32 := by have := mask_bd s; unfold cdS; omega
theorem bt_bits : ∀ b0 b1 b2 b3 b4 : Bool, (fun m : Nat => (m.testBit 0, m.testBit 1, m.testBit 2, m.testBit 3, m.testBit 4)) (bi b0 1 + bi b1 2 + bi b2 4 + bi b3 8 + bi b4 16).toNat = (b0, b1, b2, b3, b4) := by decide +kernel
theorem bt_cd (s : Nat → Bool) (j : Nat) (hj : j < 5) : btF (cdS s) j = s j := by
  have h := bt_bits (s 0) (s 1) (s 2) (s 3) (s 4)
  have e : cdS s = (bi (s 0) 1 + bi (s 1) 2 + bi (s 2) 4 + bi (s 3) 8 + bi (s 4) 16).toNat := rfl
  rw [← e] at h
  simp only [Prod.mk.injEq] at h
  unfold btF
  rw [decide_eq_true hj, Bool.true_and]
  rcases (by omega : j = 0 ∨ j = 1 ∨ j = 2 ∨ j = 3 ∨ j = 4) with rfl | rfl | rfl | rfl | rfl
  · exact h.1
  · exact h.2.1
  · exact h.2.2.1
  · exact h.2.2.2.1
  · exact h.2.2.2.2
theorem cells_cd (s : Nat → Bool) : cells5 (btF (cdS s)) = cells5 s := by
  unfold cells5
  rw [bt_cd s 0 (by omega), bt_cd s 1 (by omega), bt_cd s 2 (by omega), bt_cd s 3 (by omega), bt_cd s 4 (by omega)]
theorem cd_ext {s t : Nat → Bool} (h : ∀ j, j < 5 → s j = t j) : cdS s = cdS t := by
  unfold cdS mask
  rw [h 0 (by omega), h 1 (by omega), h 2 (by omega), h 3 (by omega), h 4 (by omega)]
theorem cd_bt {m : Nat} (h : m < 32) : cdS (btF m) = m := by unfold cdS; rw [bt_mask m h]; rfl
theorem bt_ext {a b : Nat} (ha : a < 32) (hb : b < 32) (h : ∀ j, j < 5 → btF a j = btF b j) : a = b := by rw [← cd_bt ha, ← cd_bt hb, cd_ext h]

/-- A step of the search: what a point reaches is put to a set. -/
noncomputable def unA (L : List MapN) (j x : Nat) : Nat := cdS (unB (btF x) (rchS L j))
theorem unA_at (L : List MapN) (j x i : Nat) (hi : i < 5) : btF (unA L j x) i = (btF x i || rchS L j i) := bt_cd _ i hi

/-- A closed set of points. -/
def clS (L : List MapN) (n : Nat) (s : Nat → Bool) : Prop := (∀ j, j < 5 → s j = true → j < n) ∧ ∀ i, i < L.length → ∀ p, p < n → s p = true → s (stL L i p) = true
theorem bt_pow : ∀ n, n ≤ 5 → ∀ m, m < 32 → (decide (m < 2 ^ n) = (List.range 5).all fun j => !(btF m j) || decide (j < n)) := by
  intro n hn
  rcases (by omega : n = 0 ∨ n = 1 ∨ n = 2 ∨ n = 3 ∨ n = 4 ∨ n = 5) with rfl | rfl | rfl | rfl | rfl | rfl <;> decide +kernel
theorem iv_cl {L : List MapN} {n m : Nat} (hok : LOk L n) (hm : m < 32) : (m < 2 ^ n ∧ ivM L n m = true) ↔ clS L n (btF m) := by
  have hn5 := hok.n5
  have hp := bt_pow n hn5 m hm
  have h1 : m < 2 ^ n ↔ ∀ j, j < 5 → btF m j = true → j < n := by
    rw [← decide_eq_true_iff (p := m < 2 ^ n), hp, List.all_eq_true]
    constructor
    · intro h j hj hb
      have := h j (List.mem_range.2 hj)
      rw [hb] at this
      simpa using this
    · intro h j hj
      have hj := List.mem_range.1 hj
      cases hb : btF m j
      · rfl
      · simpa using h j hj hb
  unfold clS
  rw [h1, ivM_iff]
  refine and_congr_right fun hlt => ⟨fun h i hi p hpn hs => ?_, fun h i hi => ?_⟩
  · have he := h i hi
    rw [← bt_mask m hm] at he
    obtain ⟨e2, l2⟩ := hok.step hi hpn
    rw [← mask_ext he (stL L i p) (by omega)]
    unfold unB movK
    rw [Bool.or_eq_true, List.any_eq_true]
    exact Or.inl ⟨p, List.mem_range.2 hpn, by rw [hs, e2]; simp⟩
  · rw [← bt_mask m hm]
    have e : ∀ j, j < 5 → unB (movK (L.getD i z0).2 (btF m) n) (btF m) j = btF m j := fun j hj => by
      unfold unB
      cases hb : btF m j
      · rw [Bool.or_false, Bool.eq_false_iff]
        intro hmv
        obtain ⟨p, hpn, hs, e2⟩ := movK_in hmv
        obtain ⟨e3, _⟩ := hok.step hi hpn
        have : stL L i p = j := by omega
        rw [← this, h i hi p hpn hs] at hb
        cases hb
      · rw [Bool.or_true]
    unfold mask
    rw [e 0 (by omega), e 1 (by omega), e 2 (by omega), e 3 (by omega), e 4 (by omega)]

theorem cl_rch {L : List MapN} {n : Nat} (hok : LOk L n) {s : Nat → Bool} (h : clS L n s) {p q : Nat} (hp : p < n) (hs : s p = true) (hr : Rch L p q) : s q = true := by
  have := hr (fun x => x < n ∧ s x = true) ⟨hp, hs⟩ (fun x hx i hi => ⟨(hok.step hi hx.1).2, h.2 i hi x hx.1 hx.2⟩)
  exact this.2

/-- The unions of orbits are the closed sets. -/
theorem orb_iv {L : List MapN} {n : Nat} (hok : LOk L n) {E : List Nat} (h : Orbt (unA L) n (fun x => x < 32) 0 E) (m : Nat) : m ∈ E ↔ m < 2 ^ n ∧ ivM L n m = true := by
  have hn5 := hok.n5
  have hpw : 2 ^ n ≤ 2 ^ 5 := Nat.pow_le_pow_right (by omega) hn5
  constructor
  · intro hm
    have h32 := h.vl m hm
    refine (iv_cl hok h32).2 (h.least (fun x => x < 32 → clS L n (btF x)) ?_ ?_ m hm h32)
    · intro _
      refine ⟨fun j _ hb => ?_, fun i _ p _ hb => ?_⟩ <;> (unfold btF at hb; simp at hb)
    · intro x hx _ j hj _
      by_cases hx32 : x < 32
      · have hc := hx hx32
        refine ⟨fun i hi hb => ?_, fun i hi p hp hb => ?_⟩
        · rw [unA_at L j x i hi, Bool.or_eq_true] at hb
          rcases hb with hb | hb
          · exact hc.1 i hi hb
          · exact (rchS_true.1 hb).lt hok hj
        · obtain ⟨_, l2⟩ := hok.step hi hp
          rw [unA_at L j x p (by omega), Bool.or_eq_true] at hb
          rw [unA_at L j x _ (by omega), Bool.or_eq_true]
          rcases hb with hb | hb
          · exact Or.inl (hc.2 i hi p hp hb)
          · exact Or.inr (rchS_true.2 ((rchS_true.1 hb).step hi))
      · omega
  · rintro ⟨h1, h2⟩
    have h32 : m < 32 := by omega
    have hc := (iv_cl hok h32).1 ⟨h1, h2⟩
    have key : ∀ k, k ≤ n → cdS (fun j => (List.range k).any fun p => btF m p && rchS L p j) ∈ E := by
      intro k
      induction k with
      | zero =>
        intro _
        have e : cdS (fun j => (List.range 0).any fun p => btF m p && rchS L p j) = 0 := by simp [cdS, mask, bi]
        rw [e]
        exact h.first
      | succ k ih =>
        intro hk
        have hih := ih (by omega)
        cases hb : btF m k
        · have e : cdS (fun j => (List.range (k + 1)).any fun p => btF m p && rchS L p j) = cdS (fun j => (List.range k).any fun p => btF m p && rchS L p j) := cd_ext fun j _ => by
            rw [List.range_succ, List.any_append]; simp [hb]
          rw [e]; exact hih
        · have hcl := h.closed _ hih k (by omega)
          have e : unA L k (cdS (fun j => (List.range k).any fun p => btF m p && rchS L p j)) = cdS (fun j => (List.range (k + 1)).any fun p => btF m p && rchS L p j) := cd_ext fun j hj => by
            unfold unB
            rw [bt_cd _ j hj, List.range_succ, List.any_append]; simp [hb]
          rw [← e]; exact hcl
    have e : cdS (fun j => (List.range n).any fun p => btF m p && rchS L p j) = m := by
      refine (cd_ext fun j hj => ?_).trans (cd_bt h32)
      rw [Bool.eq_iff_iff, List.any_eq_true]
      constructor
      · rintro ⟨p, hp, hb⟩
        rw [Bool.and_eq_true] at hb
        exact cl_rch hok hc (List.mem_range.1 hp) hb.1 (rchS_true.1 hb.2)
      · intro hb
        exact ⟨j, List.mem_range.2 (hc.1 j hj hb), by rw [hb, rchS_true.2 (Rch.refl L j)]; rfl⟩
    rw [← e]
    exact key n (Nat.le_refl _)

theorem orb_tail {L : List MapN} {n : Nat} (hok : LOk L n) {E : List Nat} (h : Orbt (unA L) n (fun x => x < 32) 0 E) (h0 : E.getD 0 0 = 0) : ∃ F, E = 0 :: F ∧ F.Perm (lvL L n (2 ^ n)) := by
  have hne := h.first
  cases E with
  | nil => cases hne
  | cons x F =>
    have hx : x = 0 := h0
    subst hx
    refine ⟨F, rfl, ?_⟩
    have hnd := h.nd
    rw [List.nodup_cons] at hnd
    rw [List.perm_ext_iff_of_nodup hnd.2 (by unfold lvL; exact List.nodup_range.filter _)]
    intro m
    rw [lvL_mem]
    have hi := orb_iv hok h m
    rw [List.mem_cons] at hi
    constructor
    · intro hm
      have h2 := hi.1 (Or.inr hm)
      refine ⟨h2.1, ?_, h2.2⟩
      rcases Nat.eq_zero_or_pos m with e | e
      · rw [e] at hm; exact absurd hm hnd.1
      · exact e
    · rintro ⟨h1, h2, h3⟩
      rcases hi.2 ⟨h1, h3⟩ with e | e
      · omega
      · exact e

/-- A set put to another one, up to place k. -/
def unK (a b : Nat → Bool) (k : Nat) : Nat → Bool := fun i => if i < k then a i || b i else a i
theorem unK_succ (a b : Nat → Bool) (k : Nat) : (fun i => if i = k then (a k || b k) else unK a b k i) = unK a b (k + 1) := by
  funext i
  unfold unK
  by_cases e : i = k
  · subst e; simp
  · rw [if_neg e]
    by_cases h : i < k
    · rw [if_pos h, if_pos (by omega)]
    · rw [if_neg h, if_neg (by omega)]

set_option maxRecDepth 100000 in
set_option maxHeartbeats 4000000 in
theorem iun_any (a b : Nat → Bool) (w : World) :
    Calls Try.prog 46 #[.agg (cells5 a), .agg (cells5 b)] w fun e w' => e = .returned (.agg (cells5 (unB a b))) ∧ Below w.heap.size w w' := by
  obtain ⟨u, hu⟩ : ∃ u, u = unB a b := ⟨_, rfl⟩
  have HU : Hid (cells5 (unK a b 5) = cells5 u) := Lib.hid (by rw [hu]; rfl)
  rw [← hu]
  clear hu
  obtain ⟨wz, hwz⟩ : ∃ wz, wz = ((w.alloc (.cells (cells5 a) 60)).alloc (.cells (cells5 b) 60)).alloc (.cells (cells5 fun _ => false) 60) := ⟨_, rfl⟩
  have HBZ : Hid (Below w.heap.size w wz) := Lib.hid (by rw [hwz]; (repeat' (first | (with_reducible exact Below.refl _ _) | (with_reducible refine Below.alloc ?_ ?_ _) | (with_reducible refine Below.setCell ?_ ?_ _) | (with_reducible refine Below.drew ?_) | (with_reducible refine below_drewN ?_ _) | (with_reducible refine Below.trans ?_ (Below.mono (Hid.out (by assumption)) ?_)) | omega | (simp; done) | (simp; omega))))
  have HZ0 : Hid (wz.heap[w.heap.size]? = some (.cells (cells5 (unK a b 0)) 60 (0, 0))) := Lib.hid (by rw [hwz]; exact (halloc_lt _ _ _ (by simp; omega)).trans ((halloc_lt _ _ _ (by simp)).trans (halloc_at _ _ _ rfl)))
  have HZ1 : Hid (wz.heap[w.heap.size + 1]? = some (.cells (cells5 b) 60 (0, 0))) := Lib.hid (by rw [hwz]; exact (halloc_lt _ _ _ (by simp)).trans (halloc_at _ _ _ (by simp)))
  have HZ2 : Hid (wz.heap[w.heap.size + 1 + 1]? = some (.cells (cells5 fun _ => false) 60 (0, 0))) := Lib.hid (by rw [hwz]; exact halloc_at _ _ _ (by simp))
  have hzs : w.heap.size + 1 + 1 < wz.heap.size := by rw [hwz]; simp
  have HZS := Lib.hid hzs
  simp only [cells5] at hwz
  simp only [cells5]
  go_enter Try.func46, Try.ntmps46
  go_wp2_with fail
  rw [← hwz]
  clear hwz hzs
  go_loopw [5, 6] (fun _ i wr => ∃ k : Nat, k ≤ 5 ∧ i = .int .i64 (k : Int) ∧ wr.heap[w.heap.size]? = some (.cells (cells5 (unK a b k)) 60 (0, 0)) ∧ wr.heap[w.heap.size + 1]? = some (.cells (cells5 b) 60 (0, 0)) ∧ wr.heap[w.heap.size + 1 + 1]? = some (.cells (cells5 fun _ => false) 60 (0, 0)) ∧ Below w.heap.size w wr ∧ w.heap.size + 1 + 1 < wr.heap.size) (fun _ i _ => 5 - (intOf i).toNat)
  case atStart => exact ⟨0, by omega, rfl, HZ0.out, HZ1.out, HZ2.out, HBZ.out, HZS.out⟩
  case round =>
    obtain ⟨k, hk, rfl, b0, b1, b2, hb, hsz⟩ := hrel
    have B0 := Lib.hid b0
    have B1 := Lib.hid b1
    have B2 := Lib.hid b2
    have HB := Lib.hid hb
    clear b0 b1 b2 hb
    obtain ⟨wo, hwo⟩ : ∃ wo, wo = wr := ⟨_, rfl⟩
    subst hwo
    by_cases hk5 : k < 5
    · have hk5' : (k : Int) < 5 := by omega
      have hk5n : ((k : Int) < ((5 : Nat) : Int)) := by omega
      have y0 := blk5_at B0.out k hk5
      have y1 := blk5_at B1.out k hk5
      have hf := blk_free B0.out k
      have e0 : unK a b k k = a k := by unfold unK; rw [if_neg (by omega)]
      rw [e0] at y0
      have hset := Joins.block_setCell (i := k) B0.out (.bool (a k || b k))
      rw [cells5_put _ k hk5, unK_succ] at hset
      have HSET := Lib.hid hset
      clear hset e0
      cases ha : a k
      · rw [ha] at y0 HSET
        rw [Bool.false_or] at HSET
        clear ha
        generalize b k = X at *
        go_wp2_with fail
        go_roundw
        case rel =>
          refine ⟨k + 1, by omega, by go_num, HSET.out, ?_, ?_, HB.out.setCell (Nat.le_refl _) _, by simpa using hsz⟩
          · exact (hset_ne _ _ _ _ (by simp)).trans B1.out
          · exact (hset_ne _ _ _ _ (by simp; omega)).trans B2.out
        case measure => simp [intOf]; omega
      · rw [ha] at y0 HSET
        rw [Bool.true_or] at HSET
        clear ha y1
        go_wp2_with fail
        go_roundw
        case rel =>
          refine ⟨k + 1, by omega, by go_num, HSET.out, ?_, ?_, HB.out.setCell (Nat.le_refl _) _, by simpa using hsz⟩
          · exact (hset_ne _ _ _ _ (by simp)).trans B1.out
          · exact (hset_ne _ _ _ _ (by simp; omega)).trans B2.out
        case measure => simp [intOf]; omega
    · obtain rfl : k = 5 := by omega
      have hb0 := B0.out
      rw [HU.out] at hb0
      obtain ⟨y0, y1, y2, y3, y4⟩ := blk5 hb0
      obtain ⟨r0, r1, r2, r3, r4⟩ := blk5 B2.out
      have hfr := blk_free B2.out
      have hl0 : w.heap.size < wo.heap.size := by omega
      clear hb0
      go_wp2_with fail
      refine bodyPost_ret (v := .agg (cells5 u)) (by simp [results, Try.results46, go_sem, r0, r1, r2, r3, r4, cells5]) rfl ⟨rfl, ?_⟩
      (repeat' (first | (with_reducible exact Below.refl _ _) | (with_reducible refine Below.alloc ?_ ?_ _) | (with_reducible refine Below.setCell ?_ ?_ _) | (with_reducible refine Below.drew ?_) | (with_reducible refine below_drewN ?_ _) | (with_reducible refine Below.trans ?_ (Below.mono (Hid.out (by assumption)) ?_)) | omega | (simp; done) | (simp; omega)))

theorem iivc_any (L : List MapN) (j x : Nat) (b : Nat) (w : World) (hb : w.heap[b]? = some (.cells (cells5 (rchS L j)) 60 (0, 0))) :
    Calls Try.prog 45 #[.agg (cells5 (btF x)), .pointer (some ⟨b, 0, none⟩)] w fun e w' => e = .returned (.agg (cells5 (btF (unA L j x)))) ∧ Below w.heap.size w w' := by
  have HU := Lib.hid fun w => iun_any (btF x) (rchS L j) w
  unfold unA
  rw [cells_cd]
  generalize unB (btF x) (rchS L j) = u at *
  generalize rchS L j = o at *
  have hbl : b < w.heap.size := (Array.getElem?_eq_some_iff.1 hb).1
  obtain ⟨x0, x1, x2, x3, x4⟩ := blk5 hb
  clear hb
  simp only [cells5] at *
  go_enter Try.func45, Try.ntmps45
  go_wp2_with fail
  (refine (HU.out _).mono ?_; rintro e w1 ⟨rfl, hb⟩; obtain ⟨hc, hf⟩ := bcell hb; have hz := hb.size; have Hb := Lib.hid hb; (try simp at hz hc hf); (try (have hy := Nat.lt_of_succ_le hz)); have hz0 : w.heap.size < w1.heap.size := (by omega); have hz1 : w.heap.size + 1 < w1.heap.size := (by omega); clear hb)
  go_wp2_with fail
  refine bodyPost_ret (v := .agg (cells5 u)) (by simp [results, Try.results45, go_sem, cells5, *]) rfl ⟨rfl, ?_⟩
  (repeat' (first | (with_reducible exact Below.refl _ _) | (with_reducible refine Below.alloc ?_ ?_ _) | (with_reducible refine Below.setCell ?_ ?_ _) | (with_reducible refine Below.drew ?_) | (with_reducible refine below_drewN ?_ _) | (with_reducible refine Below.trans ?_ (Below.mono (Hid.out (by assumption)) ?_)) | omega | (simp; done) | (simp; omega)))
end Go.Proofs.Ytpphihjbgikjkaa
