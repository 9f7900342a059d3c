/- Kernels told without Go: each point has the number of the first point with its image among such first points. The map from images to numbers that impl.KernelOf keeps to itself, told as a datum. The contracts of spec.l01Kernel and spec.KernelOf. The contract of impl.KernelOf. -/
import Derived.Test.YtadljicbegemlaaSl
import Derived.Maps.OwnSet
import Derived.Maps.OwnOps
import Derived.Maps.AppendAt
import Derived.Test.YtadljicbegemlaaAsc
import Derived.Test.YtadljicbegemlaaBase
namespace Go.Proofs.Ytadljicbegemlaa
open Go.RowKit

/-- The first point with the image of point k. -/
def fst1 (t : Nat → Int) (k : Nat) : Nat := ((List.range k).find? fun i => t i == t k).getD k

theorem fst1_at (t : Nat → Int) (k : Nat) : t (fst1 t k) = t k ∧ fst1 t k ≤ k ∧ ∀ i, i < fst1 t k → t i ≠ t k := by
  unfold fst1
  cases h : (List.range k).find? fun i => t i == t k with
  | none =>
    rw [List.find?_eq_none] at h
    refine ⟨rfl, Nat.le_refl _, fun i hi e => ?_⟩
    exact h i (by simpa using hi) (by simp [e])
  | some a =>
    have h1 := List.find?_some h
    have h2 := List.mem_of_find?_eq_some h
    rw [List.find?_eq_some_iff_append] at h
    obtain ⟨_, xs, ys, hab, hxs⟩ := h
    simp only [Option.getD_some]
    refine ⟨by simpa using h1, by simp at h2; omega, fun i hi e => ?_⟩
    have hlen : xs.length = a := by
      have : (List.range k)[xs.length]? = some a := by rw [hab]; simp
      rw [List.getElem?_range (by
        have := congrArg List.length hab
        simp at this; omega)] at this
      simpa using this
    have hm : i ∈ xs := by
      have : (List.range k)[i]? = some i := List.getElem?_range (by simp at h2; omega)
      rw [hab, List.getElem?_append_left (by omega)] at this
      exact List.mem_of_getElem? this
    have := hxs i hm
    simp [e] at this

theorem fst1_eq {t : Nat → Int} {i k : Nat} (e : t i = t k) : fst1 t i = fst1 t k := by
  obtain ⟨a1, _, a3⟩ := fst1_at t i
  obtain ⟨b1, _, b3⟩ := fst1_at t k
  rcases Nat.lt_trichotomy (fst1 t i) (fst1 t k) with c | c | c
  · exact absurd (a1.trans e) (b3 _ c)
  · exact c
  · exact absurd (b1.trans e.symm) (a3 _ c)

/-- How many of the first k points are the first ones with their images. -/
def rkK (t : Nat → Int) (k : Nat) : Nat := ((List.range k).filter fun i => fst1 t i == i).length

theorem rkK_succ (t : Nat → Int) (k : Nat) : rkK t (k + 1) = if fst1 t k = k then rkK t k + 1 else rkK t k := by
  unfold rkK
  rw [List.range_succ, List.filter_append]
  by_cases h : fst1 t k = k <;> simp [h]

theorem rkK_le (t : Nat → Int) : ∀ k, rkK t k ≤ k
  | 0 => Nat.le_refl _
  | k + 1 => by rw [rkK_succ]; have := rkK_le t k; split <;> omega

theorem rkK_mono (t : Nat → Int) (a : Nat) : ∀ b, a ≤ b → rkK t a ≤ rkK t b
  | 0, h => by rw [show a = 0 by omega]; exact Nat.le_refl _
  | b + 1, h => by
    by_cases e : a = b + 1
    · rw [e]; exact Nat.le_refl _
    · have := rkK_mono t a b (by omega)
      rw [rkK_succ]; split <;> omega

theorem rkK_lt (t : Nat → Int) (a b : Nat) (h : a < b) (ha : fst1 t a = a) : rkK t a < rkK t b := by
  have := rkK_mono t (a + 1) b h
  rw [rkK_succ, if_pos ha] at this
  omega

/-- The number of point k. -/
def kvK (t : Nat → Int) (k : Nat) : Int := rkK t (fst1 t k)

def kerK (t : Nat → Int) (k : Nat) : List Int := (List.range k).map (kvK t)

theorem kerK_len (t : Nat → Int) (k : Nat) : (kerK t k).length = k := by simp [kerK]

theorem kerK_succ (t : Nat → Int) (k : Nat) : kerK t (k + 1) = kerK t k ++ [kvK t k] := by simp [kerK, List.range_succ]

theorem kerK_getD (t : Nat → Int) (k i : Nat) (h : i < k) : (kerK t k).getD i 0 = kvK t i := by simp [kerK, h]

/-- What the search backwards from point i has found when m points are left. -/
def ownK (t : Nat → Int) (i m : Nat) : Int := if (List.range i).any (fun j => decide (m ≤ j) && t j == t i) = true then kvK t i else rkK t i

theorem ownK_start (t : Nat → Int) (i : Nat) : ownK t i i = rkK t i := by
  unfold ownK
  rw [if_neg]
  simp only [List.any_eq_true, List.mem_range, Bool.and_eq_true, decide_eq_true_eq, beq_iff_eq, not_exists, not_and]
  intro j h1 h2
  omega

theorem ownK_yes (t : Nat → Int) (i m : Nat) (hm : m < i) (h : t m = t i) : ownK t i m = kvK t m := by
  unfold ownK
  rw [if_pos]
  · unfold kvK; rw [fst1_eq h]
  · simp only [List.any_eq_true, List.mem_range, Bool.and_eq_true, decide_eq_true_eq, beq_iff_eq]
    exact ⟨m, hm, Nat.le_refl _, h⟩

theorem ownK_no (t : Nat → Int) (i m : Nat) (h : t m ≠ t i) : ownK t i m = ownK t i (m + 1) := by
  unfold ownK
  have : ((List.range i).any fun j => decide (m ≤ j) && t j == t i) = ((List.range i).any fun j => decide (m + 1 ≤ j) && t j == t i) := by
    rw [Bool.eq_iff_iff]
    simp only [List.any_eq_true, List.mem_range, Bool.and_eq_true, decide_eq_true_eq, beq_iff_eq]
    constructor
    · rintro ⟨j, h1, h2, h3⟩
      refine ⟨j, h1, ?_, h3⟩
      by_cases e : j = m
      · subst e; exact absurd h3 h
      · omega
    · rintro ⟨j, h1, h2, h3⟩
      exact ⟨j, h1, by omega, h3⟩
  rw [this]

theorem ownK_end (t : Nat → Int) (i : Nat) : ownK t i 0 = kvK t i := by
  unfold ownK
  split
  · rfl
  · next h =>
    simp only [List.any_eq_true, List.mem_range, Bool.and_eq_true, decide_eq_true_eq, beq_iff_eq, not_exists, not_and] at h
    obtain ⟨a1, a2, a3⟩ := fst1_at t i
    have : fst1 t i = i := by
      by_cases c : fst1 t i = i
      · exact c
      · exact absurd a1 (h _ (by omega) (by omega))
    unfold kvK
    rw [this]

theorem kvK_new (t : Nat → Int) (i : Nat) : kvK t i = rkK t i ↔ fst1 t i = i := by
  obtain ⟨a1, a2, a3⟩ := fst1_at t i
  constructor
  · intro h
    by_cases c : fst1 t i = i
    · exact c
    · have := rkK_lt t (fst1 t i) i (by omega) (fst1_eq a1)
      unfold kvK at h
      omega
  · intro h
    unfold kvK
    rw [h]

theorem kvK_bd (t : Nat → Int) (k : Nat) : 0 ≤ kvK t k ∧ kvK t k ≤ k := by
  obtain ⟨a1, a2, a3⟩ := fst1_at t k
  have := rkK_le t (fst1 t k)
  unfold kvK
  omega

end Go.Proofs.Ytadljicbegemlaa

namespace Go.Proofs.Ytadljicbegemlaa
open Go.RowKit Go.Maps

theorem ik (x : Int) : WideAt.IsKeyLit (Lit.int .i64 x) := trivial

/-- The map behind k rounds. -/
def kD (t : Nat → Int) : Nat → DataW Unit
  | 0 => .map []
  | k + 1 => if fst1 t k = k then (kD t k).put (.int .i64 (t k)) (.lit (.int .i64 (rkK t k))) else kD t k

theorem kD_new {t : Nat → Int} {k : Nat} (h : fst1 t k = k) : kD t (k + 1) = (kD t k).put (.int .i64 (t k)) (.lit (.int .i64 (rkK t k))) := by
  show (if fst1 t k = k then _ else _) = _
  rw [if_pos h]

theorem kD_old {t : Nat → Int} {k : Nat} (h : fst1 t k ≠ k) : kD t (k + 1) = kD t k := by
  show (if fst1 t k = k then _ else _) = _
  rw [if_neg h]

theorem kD_tidy (t : Nat → Int) : ∀ k, Tidy (kD t k)
  | 0 => tidy_empty
  | k + 1 => by
    by_cases h : fst1 t k = k
    · rw [kD_new h]; exact (kD_tidy t k).put (ik _) _
    · rw [kD_old h]; exact kD_tidy t k

theorem has_kD (t : Nat → Int) (x : Int) : ∀ k, Maps.has (kD t k) (.int .i64 x) = (List.range k).any fun i => t i == x
  | 0 => rfl
  | k + 1 => by
    rw [List.range_succ, List.any_append]
    obtain ⟨a1, a2, a3⟩ := fst1_at t k
    by_cases h : fst1 t k = k
    · rw [kD_new h]
      by_cases e : x = t k
      · subst e; rw [has_put_same (kD_tidy t k).isMap (ik _)]; simp
      · rw [has_put_other (fun c => e (by injection c)), has_kD t x k]
        have : (t k == x) = false := by rw [beq_eq_false_iff_ne]; exact fun c => e c.symm
        simp [this]
    · rw [kD_old h, has_kD t x k]
      by_cases e : t k = x
      · have : ((List.range k).any fun i => t i == x) = true := by
          rw [List.any_eq_true]
          exact ⟨fst1 t k, by simp; omega, by rw [a1, e]; simp⟩
        rw [this]; rfl
      · have : (t k == x) = false := by rw [beq_eq_false_iff_ne]; exact e
        simp [this]

theorem has_kD_new (t : Nat → Int) (k : Nat) : Maps.has (kD t k) (.int .i64 (t k)) = !decide (fst1 t k = k) := by
  rw [has_kD]
  obtain ⟨a1, a2, a3⟩ := fst1_at t k
  by_cases h : fst1 t k = k
  · rw [decide_eq_true h, Bool.not_true, List.any_eq_false]
    intro i hi
    rw [h] at a3
    simpa using a3 i (by simpa using hi)
  · rw [decide_eq_false h, Bool.not_false, List.any_eq_true]
    exact ⟨fst1 t k, by simp; omega, by rw [a1]; simp⟩

theorem kvK_first {t : Nat → Int} {k : Nat} (h : fst1 t k = k) : kvK t k = rkK t k := by unfold kvK; rw [h]

theorem kvK_same {t : Nat → Int} {i k : Nat} (h : t i = t k) : kvK t i = kvK t k := by unfold kvK; rw [fst1_eq h]

theorem atKey_kD (t : Nat → Int) (z : DataW Unit) : ∀ k i, i < k → (kD t k).atKey (.int .i64 (t i)) z = .lit (.int .i64 (kvK t i))
  | 0, i, h => by omega
  | k + 1, i, hi => by
    obtain ⟨a1, a2, a3⟩ := fst1_at t k
    by_cases h : fst1 t k = k
    · rw [kD_new h]
      by_cases e : t i = t k
      · rw [e, atKey_put_same (kD_tidy t k).isMap (ik _), kvK_same e, kvK_first h]
      · rw [atKey_put_other (fun c => e (by injection c)), atKey_kD t z k i (by
          by_cases c : i = k
          · subst c; exact absurd rfl e
          · omega)]
    · rw [kD_old h]
      by_cases c : i = k
      · subst c
        rw [← a1, atKey_kD t z i (fst1 t i) (by omega), kvK_same a1]
      · exact atKey_kD t z k i (by omega)

theorem size_kD (t : Nat → Int) : ∀ k, Maps.size (kD t k) = rkK t k
  | 0 => rfl
  | k + 1 => by
    rw [rkK_succ]
    by_cases h : fst1 t k = k
    · rw [kD_new h, if_pos h, size_put (kD_tidy t k), has_kD_new, decide_eq_true h, size_kD t k]
      rfl
    · rw [kD_old h, if_neg h, size_kD t k]

end Go.Proofs.Ytadljicbegemlaa

namespace Go.Proofs.Ytadljicbegemlaa
open Go.RowKit

/-- The kernel; empty if the code is not 0. -/
def kerL (p : Int) (t : Nat → Int) : List Int := if isB p t = true then kerK t p.toNat else []

def kerC (p : Int) (t : Nat → Int) : Int := if isB p t = true then 0 else 1

theorem own_cells {w : World} {B : Nat} {v : Value} {L : List Int} (h : Own w B v L) (hL : L.length ≤ 2000000) : ∃ a cap, v = .slice a L.length cap ∧ ∀ k, k < L.length → ∃ g, a = some ⟨g, 0, none⟩ ∧ w.cell? ⟨g, k, none⟩ = some (.int .i64 (L.getD k 0)) := by
  obtain ⟨a, cap, e, hr⟩ := own_rd h hL
  refine ⟨a, cap, e, fun k hk => ?_⟩
  obtain ⟨g, ha, _, _, hc⟩ := hr.2.resolve_left (fun e => by rw [e] at hk; simp at hk)
  exact ⟨g, ha, (hc k hk).1⟩

set_option maxRecDepth 100000 in
set_option maxHeartbeats 1000000 in
theorem sker_any (p : Int) (t : Nat → Int) (hf : isB p t = true) (w : World) :
    Calls Try.prog 61 #[mv p t] w (RetOwn w.heap.size (kerK t p.toNat) w) := by
  obtain ⟨h1, h5⟩ := isB_pts hf
  clear hf
  obtain ⟨i0, hi, hz0', hz1', hz2'⟩ := info_parts info_int
  simp only [mv, mcells]
  go_enter Try.func61, Try.ntmps61
  go_wp2_with fail
  go_loopw [3, 4, 5, 6, 7] (fun v nx i _ _ wr => ∃ k : Nat, (k : Int) ≤ p ∧ i = .int .i64 k ∧ nx = .int .i64 (rkK t k) ∧ wr.ownsRow (w.heap.size + 1) 2 1 v (kerK t k).length ((kerK t k).map (Value.int .i64)) ∧ Below (w.heap.size + 1) (w.alloc (.cells (mcells p t) 26)) wr) (fun _ _ i _ _ _ => (p - intOf i).toNat)
  case atStart =>
    have ho := own_empty (w.alloc (.cells (mcells p t) 26)) (w.heap.size + 1) (by simp)
    simp only [World.size_alloc] at ho
    exact ⟨0, by omega, rfl, rfl, ho, (Below.refl _ _).alloc (by simp) _⟩
  case round =>
    obtain ⟨k, hk, rfl, rfl, hown, hb⟩ := hrel
    have hp := new_cell hb (Nat.lt_succ_self _) 0
    simp only [mcells, List.getElem?_toArray, List.getElem?_cons_zero] at hp
    have Hb' := Lib.hid hb
    have hsz := hb.size
    simp at hsz
    by_cases hkp : (k : Int) < p
    · have k5 : k < 5 := by omega
      have k5' : (k : Int) < 5 := by omega
      have hc := (new_cell hb (Nat.lt_succ_self _) (1 + k)).trans (mcells_at p t k k5)
      have hcm := Lib.hid fun m (hm : m < 5) => (new_cell hb (Nat.lt_succ_self _) (1 + m)).trans (mcells_at p t m hm)
      have hrk := rkK_le t k
      have hrk' : (rkK t k : Int) ≤ 5 := by omega
      have hlen := kerK_len t k
      obtain ⟨a, cap, rfl, hcl⟩ := own_cells (L := kerK t k) hown (by omega)
      have HOWN := Lib.hid hown
      have HCL := Lib.hid hcl
      have HST := Lib.hid (ownK_start t k)
      clear hb hown hcl
      go_wp2_with fail
      go_loopw [6, 7] (fun o z wq => ∃ (m : Nat) (nn : Nat), m ≤ k ∧ z = .int .i64 ((m : Int) - 1) ∧ o = .int .i64 (ownK t k m) ∧ wq = wr.drewN nn) (fun _ z _ => (intOf z + 1).toNat)
      case atStart => exact ⟨k, 0, Nat.le_refl _, rfl, by rw [HST.out], rfl⟩
      case round =>
        obtain ⟨m, nn, hm, rfl, rfl, rfl⟩ := hrel
        rcases m with _ | m
        · have e0 : ((0 : Nat) : Int) - 1 = -1 := by omega
          rw [e0]
          have HE := Lib.hid (ownK_end t k)
          clear e0
          have HV : Hid (∃ V, kvK t k = V) := Lib.hid ⟨_, rfl⟩
          obtain ⟨V, hV⟩ := HV.out
          rw [hV] at HE
          have HV := Lib.hid hV
          rw [HE.out]
          by_cases hn : fst1 t k = k
          · have hq : (V == (rkK t k : Int)) = true := by rw [← hV, (kvK_new t k).2 hn]; simp
            have HR : Hid (rkK t (k + 1) = rkK t k + 1) := by rw [rkK_succ, if_pos hn]; exact Lib.hid rfl
            clear hV hn HE
            go_wp2_with (at_builtin; refine wpList_append_own _ rfl _ _ 34 rfl (w.heap.size + 1) 2 i0 (.int .i64 0) 1 8 Try.underlying34 hi hz0' hz1' hz2' rfl (by decide) _ _ _ rfl ((HOWN.out : (wr.drewN nn).ownsRow _ _ _ _ _ _).alloc _) ⟨(wr.drewN nn).heap.size, 0, none⟩ 1 1 [.int .i64 V] rfl rfl ?c1 ?c2 ?c3 ?c4 ?c5 ?_)
            case c1 =>
              intro j u hj
              match j, hj with
              | 0, hj => simp at hj; subst hj; exact World.cell?_alloc_new (w := wr.drewN nn) #[.int .i64 V] 2 0
            case c2 => intro u hu; simp at hu; subst hu; rfl
            case c3 => unfold maxLen; omega
            case c4 => omega
            case c5 => simp; omega
            intro v' w2 hown' hgrow _
            have hown2 : Hid (w2.ownsRow (w.heap.size + 1) 2 1 v' (kerK t (k + 1)).length ((kerK t (k + 1)).map (Value.int .i64))) := by
              refine Lib.hid ?_
              rw [kerK_succ, HV.out]; simpa [hlen] using hown'
            have hb2 : Hid (Below (w.heap.size + 1) (w.alloc (.cells (mcells p t) 26)) w2) :=
              ((below_drewN Hb'.out nn).alloc (by simp; omega) _).grown hgrow (by simp; omega) (fun b hbk => by
                rcases HOWN.out.2 with ⟨hv, _⟩ | ⟨g, cap, cur, hv, hg, _⟩
                · injection hv with h1 _ _; rw [h1] at hbk; cases hbk
                · injection hv with h1 _ _; rw [h1] at hbk; cases hbk; exact hg)
            clear hown' hgrow
            go_wp2_with fail
            go_roundw
            case rel => exact ⟨k + 1, by omega, by go_num, (by first | (rw [HR.out]; done) | (rw [HR.out]; go_num)), hown2.out, hb2.out⟩
            case measure => simp [intOf]; omega
          · have hq : (V == (rkK t k : Int)) = false := by rw [← hV, beq_eq_false_iff_ne]; exact fun e => hn ((kvK_new t k).1 e)
            have HR : Hid (rkK t (k + 1) = rkK t k) := by rw [rkK_succ, if_neg hn]; exact Lib.hid rfl
            clear hV hn HE
            go_wp2_with (at_builtin; refine wpList_append_own _ rfl _ _ 34 rfl (w.heap.size + 1) 2 i0 (.int .i64 0) 1 8 Try.underlying34 hi hz0' hz1' hz2' rfl (by decide) _ _ _ rfl ((HOWN.out : (wr.drewN nn).ownsRow _ _ _ _ _ _).alloc _) ⟨(wr.drewN nn).heap.size, 0, none⟩ 1 1 [.int .i64 V] rfl rfl ?c1 ?c2 ?c3 ?c4 ?c5 ?_)
            case c1 =>
              intro j u hj
              match j, hj with
              | 0, hj => simp at hj; subst hj; exact World.cell?_alloc_new (w := wr.drewN nn) #[.int .i64 V] 2 0
            case c2 => intro u hu; simp at hu; subst hu; rfl
            case c3 => unfold maxLen; omega
            case c4 => omega
            case c5 => simp; omega
            intro v' w2 hown' hgrow _
            have hown2 : Hid (w2.ownsRow (w.heap.size + 1) 2 1 v' (kerK t (k + 1)).length ((kerK t (k + 1)).map (Value.int .i64))) := by
              refine Lib.hid ?_
              rw [kerK_succ, HV.out]; simpa [hlen] using hown'
            have hb2 : Hid (Below (w.heap.size + 1) (w.alloc (.cells (mcells p t) 26)) w2) :=
              ((below_drewN Hb'.out nn).alloc (by simp; omega) _).grown hgrow (by simp; omega) (fun b hbk => by
                rcases HOWN.out.2 with ⟨hv, _⟩ | ⟨g, cap, cur, hv, hg, _⟩
                · injection hv with h1 _ _; rw [h1] at hbk; cases hbk
                · injection hv with h1 _ _; rw [h1] at hbk; cases hbk; exact hg)
            clear hown' hgrow
            go_wp2_with fail
            go_roundw
            case rel => exact ⟨k + 1, by omega, by go_num, (by first | (rw [HR.out]; done) | (rw [HR.out]; go_num)), hown2.out, hb2.out⟩
            case measure => simp [intOf]; omega
        · have e0 : ((m + 1 : Nat) : Int) - 1 = (m : Int) := by omega
          rw [e0]
          have hcc := hcm.out m (by omega)
          obtain ⟨g, rfl, hgm⟩ := HCL.out m (by omega)
          rw [kerK_getD t k m (by omega)] at hgm
          have hmk : (m : Int) < (kerK t k).length := by omega
          have hm5 : (m : Int) < 5 := by omega
          clear e0
          by_cases he : t m = t k
          · have hq : (t m == t k) = true := by simp [he]
            have HY := Lib.hid (ownK_yes t k m (by omega) he)
            clear he
            generalize ownK t k (m + 1) = O at *
            generalize kvK t m = KV at *
            go_wp2_with fail
            go_quiet (fail)
            go_wp2_with fail
            go_roundw
            case rel => exact ⟨m, _, by omega, rfl, by rw [HY.out], rfl⟩
            case measure => simp [intOf] <;> omega
          · have hq : (t m == t k) = false := by simp [he]
            have HY := Lib.hid (ownK_no t k m he)
            clear he
            generalize hO : ownK t k (m + 1) = O at *
            have HO := Lib.hid hO
            clear hO
            go_wp2_with fail
            go_quiet (fail)
            go_wp2_with fail
            go_roundw
            case rel => exact ⟨m, _, by omega, rfl, by rw [HY.out], rfl⟩
            case measure => simp [intOf] <;> omega
    · have HO := Lib.hid hown
      clear hb hown
      go_wp2_with fail
      go_ret
      refine ⟨_, rfl, ?_, bel_new Hb'.out (by omega)⟩
      rw [show p.toNat = k by omega]
      exact Joins.ownsRow_le HO.out (by omega)

set_option maxHeartbeats 1000000 in
theorem sKer_any (p : Int) (t : Nat → Int) (w : World) :
    Calls Try.prog 28 #[mv p t] w (RetRow w.heap.size (kerL p t) (kerC p t) w) := by
  have HL := fun w => lis_any p t w
  cases hv : isB p t
  · have e1 : kerL p t = [] := by unfold kerL; rw [if_neg (by rw [hv]; exact Bool.false_ne_true)]
    have e2 : kerC p t = 1 := by unfold kerC; rw [if_neg (by rw [hv]; exact Bool.false_ne_true)]
    rw [e1, e2]
    rw [hv] at HL
    have HL := Lib.hid HL
    clear e1 e2
    simp only [mv, mcells]
    go_enter Try.func28, Try.ntmps28
    go_wp2_with fail
    (refine (HL.out _).mono ?_; rintro e w1 ⟨rfl, hb⟩; obtain ⟨hc, hf⟩ := bcell hb; have hz := hb.size; have Hb := Lib.hid hb; (try simp at hz hc hf); (try (have hy := Nat.lt_of_succ_le hz)); have hz0 : w.heap.size < w1.heap.size := (by omega); clear hb)
    go_wp2_with fail
    go_ret2
    refine ⟨none, 0, rfl, ⟨by simp, Or.inl rfl⟩, ?_⟩
    (repeat' (first | (with_reducible exact Below.refl _ _) | (with_reducible refine Below.alloc ?_ ?_ _) | (with_reducible refine Below.setCell ?_ ?_ _) | (with_reducible refine Below.drew ?_) | (with_reducible refine below_drewN ?_ _) | (with_reducible refine Below.trans ?_ (Below.mono (Hid.out (by assumption)) ?_)) | omega | (simp; done) | (simp; omega)))
  · have e1 : kerL p t = kerK t p.toNat := by unfold kerL; rw [if_pos hv]
    have e2 : kerC p t = 0 := by unfold kerC; rw [if_pos hv]
    rw [e1, e2]
    have hp := isB_pts hv
    rw [hv] at HL
    have HL := Lib.hid HL
    have HQ := Lib.hid fun w => sker_any p t hv w
    have HLen : Hid ((kerK t p.toNat).length ≤ 2000000) := Lib.hid (by rw [kerK_len]; omega)
    clear hv e1 e2
    generalize kerK t p.toNat = R at *
    simp only [mv, mcells] at *
    go_enter Try.func28, Try.ntmps28
    go_wp2_with fail
    (refine (HL.out _).mono ?_; rintro e w1 ⟨rfl, hb⟩; obtain ⟨hc, hf⟩ := bcell hb; have hz := hb.size; have Hb := Lib.hid hb; (try simp at hz hc hf); (try (have hy := Nat.lt_of_succ_le hz)); have hz0 : w.heap.size < w1.heap.size := (by omega); clear hb)
    have Hb1 := Hb
    go_wp2_with fail
    refine (HQ.out _).mono ?_
    rintro e w2 ⟨v, rfl, hown, hbel⟩
    obtain ⟨ax, cx, rfl, hrd⟩ := own_rd hown HLen.out
    have HB := Lib.hid hbel
    have HO := Lib.hid hrd
    clear hbel hown hrd
    go_wp2_with fail
    go_ret2
    refine ⟨_, _, rfl, HO.out.mono (by omega), ?_⟩
    (repeat' (first | (with_reducible exact Below.refl _ _) | (with_reducible refine Below.alloc ?_ ?_ _) | (with_reducible refine Below.setCell ?_ ?_ _) | (with_reducible refine Below.drew ?_) | (with_reducible refine below_drewN ?_ _) | (with_reducible refine Below.trans ?_ (Below.mono (Hid.out (by assumption)) ?_)) | omega | (simp; done) | (simp; omega)))

end Go.Proofs.Ytadljicbegemlaa

namespace Go.Proofs.Ytadljicbegemlaa
open Go.RowKit Go.Maps

theorem row_ne {w : World} {base : Nat} {e : TypeId} {size : Nat} {v : Value} {n : Nat} {xs : List Value} (h : w.ownsRow base e size v n xs) {b : Nat} (hb : b < base) : some b ≠ v.ownBlock := fun e1 => by
  have := (h.lt b e1.symm).1
  omega

theorem zeroI (w : World) : (zeroValue 2).run Try.prog w = .ok (.int .i64 0) w := by kernel_rfl

set_option maxRecDepth 100000 in
set_option maxHeartbeats 1000000 in
theorem iKer_any (p : Int) (t : Nat → Int) (w : World) :
    Calls Try.prog 27 #[mv p t] w (RetRow w.heap.size (kerL p t) (kerC p t) w) := by
  have HL := fun w => iis_any p t w
  cases hv : isB p t
  · have e1 : kerL p t = [] := by unfold kerL; rw [if_neg (by rw [hv]; exact Bool.false_ne_true)]
    have e2 : kerC p t = 1 := by unfold kerC; rw [if_neg (by rw [hv]; exact Bool.false_ne_true)]
    rw [e1, e2]
    rw [hv] at HL
    have HL := Lib.hid HL
    clear e1 e2
    simp only [mv, mcells]
    go_enter Try.func27, Try.ntmps27
    go_wp2_with fail
    (refine (HL.out _).mono ?_; rintro e w1 ⟨rfl, hb⟩; obtain ⟨hc, hf⟩ := bcell hb; have hz := hb.size; have Hb := Lib.hid hb; (try simp at hz hc hf); (try (have hy := Nat.lt_of_succ_le hz)); have hz0 : w.heap.size < w1.heap.size := (by omega); clear hb)
    go_wp2_with fail
    go_ret2
    refine ⟨none, 0, rfl, ⟨by simp, Or.inl rfl⟩, ?_⟩
    (repeat' (first | (with_reducible exact Below.refl _ _) | (with_reducible refine Below.alloc ?_ ?_ _) | (with_reducible refine Below.setCell ?_ ?_ _) | (with_reducible refine Below.drew ?_) | (with_reducible refine below_drewN ?_ _) | (with_reducible refine Below.trans ?_ (Below.mono (Hid.out (by assumption)) ?_)) | omega | (simp; done) | (simp; omega)))
  · have e1 : kerL p t = kerK t p.toNat := by unfold kerL; rw [if_pos hv]
    have e2 : kerC p t = 0 := by unfold kerC; rw [if_pos hv]
    rw [e1, e2]
    rw [hv] at HL
    obtain ⟨h1, h5⟩ := isB_pts hv
    obtain ⟨m, rfl⟩ := Int.eq_ofNat_of_zero_le (show 0 ≤ p by omega)
    simp only [Int.toNat_natCast]
    have hm5 : m ≤ 5 := by omega
    have hm1 : 1 ≤ m := by omega
    have HV := Lib.hid hv
    have HL := Lib.hid HL
    clear hv e1 e2
    have hmm := @run_makeMap Try.prog
    obtain ⟨i0, hi, hz0', hz1', hz2'⟩ := info_parts info_int
    simp only [mv, mcells]
    go_enter Try.func27, Try.ntmps27
    go_wp2_with fail
    (refine (HL.out _).mono ?_; rintro e w1 ⟨rfl, hb⟩; obtain ⟨hc, hf⟩ := bcell hb; have hz := hb.size; have Hb := Lib.hid hb; (try simp at hz hc hf); (try (have hy := Nat.lt_of_succ_le hz)); have hz0 : w.heap.size < w1.heap.size := (by omega); clear hb)
    obtain ⟨wo, hwo⟩ : ∃ wo, wo = w1 := ⟨_, rfl⟩
    subst hwo
    go_wp2_with fail
    clear hmm
    go_loopw [4, 7, 8, 9, 19] (fun v _ _ _ i wr => ∃ k : Nat, k ≤ m ∧ i = .int .i64 k ∧ wr.ownsMap Try.prog 2 (plainElem Try.prog 2) wo.heap.size k (kD t k) ∧ wr.ownsRow (wo.heap.size + 1) 2 1 v (kerK t k).length ((kerK t k).map (Value.int .i64)) ∧
        Below w.heap.size w wr ∧ wo.heap.size < wr.heap.size ∧ wr.heap[w.heap.size]? = some (.cells (mcells (m : Int) t) 26 (0, 0))) (fun _ _ _ _ i _ => m - (intOf i).toNat)
    case atStart =>
      refine ⟨0, by omega, rfl, World.ownsMap_made _ _ _ _, World.ownsRow_nil _ _ _ _, ?_, by simp, ?_⟩
      · (repeat' (first | (with_reducible exact Below.refl _ _) | (with_reducible refine Below.alloc ?_ ?_ _) | (with_reducible refine Below.setCell ?_ ?_ _) | (with_reducible refine Below.drew ?_) | (with_reducible refine below_drewN ?_ _) | (with_reducible refine Below.trans ?_ (Below.mono (Hid.out (by assumption)) ?_)) | omega | (simp; done) | (simp; omega)))
      · (repeat' (first | omega | (rw [hdrew]) | (with_reducible assumption) | (with_reducible exact Hid.out (by assumption)) | (with_reducible rfl) | ((with_reducible refine halloc_at _ _ _ ?_) <;> (first | (with_reducible rfl) | omega | (simp; done))) | (with_reducible refine chain6 ?_) | (with_reducible refine Eq.trans (hset_ne _ _ _ _ ?_) ?_) | (with_reducible refine Eq.trans (halloc_lt _ _ _ ?_) ?_) | (with_reducible refine Eq.trans (Below.block (Hid.out (by assumption)) _ ?_) ?_) | (simp; done) | (simp; omega)))
    case round =>
      have hwo : w.heap.size < wo.heap.size := by omega
      clear hc hf hz hz0 hy Hb
      obtain ⟨k, hk, rfl, hmap, hown, hb, hsz, b0⟩ := hrel
      have Hb := Lib.hid hb
      have B0 := Lib.hid b0
      have hlen := kerK_len t k
      by_cases hkm : k < m
      · have hkm' : (k : Int) < (m : Int) := by omega
        obtain ⟨f0, f1, k5⟩ := ok_at HV.out k hkm'
        have hfk := blk_at b0 k k5
        have hrk := rkK_le t k
        have hkey : keyOf Try.prog 2 (.int .i64 (t k)) = some (.int .i64 (t k)) := keyOf_int_mk Try.underlying2 (WalkArith.wf_i64 (by omega))
        have hwf : (Lit.int .i64 (rkK t k : Int)).wf = true := WalkArith.wf_i64 (by omega)
        have hhas := has_kD_new t k
        have hsize := size_kD t k
        have hrow := hown
        clear hb b0
        by_cases hn : fst1 t k = k
        · rw [decide_eq_true hn, Bool.not_true] at hhas
          have HKV := Lib.hid (kvK_first hn)
          have HND := Lib.hid (kD_new hn)
          clear hn
          generalize t k = X at *
          generalize kD t k = D at *
          go_wp2_with (first
            | (at_lookup; refine wpList_lookup_own_ok_int _ rfl _ _ 62 rfl 2 2 .i64 (int_keyed Try.underlying2) Try.underlying62 Try.underlying2 (zeroI _) wo.heap.size k _ rfl hmap _ _ rfl hkey ?_; intro c hat hwc)
            | (at_len; refine wpList_len_own _ rfl _ 62 rfl 2 2 Try.underlying62 _ wo.heap.size k _ rfl hmap ?_)
            | (at_mapUpdate; refine wpList_mapUpdate_own _ rfl _ _ _ 62 rfl 2 2 (int_keyed Try.underlying2) Try.underlying62 _ wo.heap.size k _ rfl hmap (by unfold maxLen; omega) _ _ _ rfl rfl hkey _ [] (plainElem_int Try.underlying2 hwf) ?_; intro w1 hmap1 hgrow1)
            | (at_builtin; refine wpList_append_own _ rfl _ _ 34 rfl (wo.heap.size + 1) 2 i0 (.int .i64 0) 1 8 Try.underlying34 hi hz0' hz1' hz2' rfl (by decide) _ _ _ rfl ((hown.kept hgrow1 (Or.inr (row_ne hown (Nat.lt_succ_self _)).symm)).alloc _) ⟨w1.heap.size, 0, none⟩ 1 1 [.int .i64 (rkK t k : Int)] rfl rfl (cell_one_new _ _ _) (ints_oneCell .i64 [(rkK t k : Int)]) (by unfold maxLen; omega) (by omega) (by have := hgrow1.size; simp; omega) ?_; intro v' w2 hown' hgrow2 _))
          have hr1 := hown.kept hgrow1 (Or.inr (row_ne hown (Nat.lt_succ_self _)).symm)
          have s1 := hgrow1.size
          have s2 := hgrow2.size
          simp at s1 s2
          have HM2 := Lib.hid ((hmap1.alloc _).kept hgrow2 (row_ne hr1 (Nat.lt_succ_self _)))
          have HO2 := Lib.hid hown'
          have hws := Hb.out.size
          have HB2 : Hid (Below w.heap.size w w2) := Lib.hid (((Hb.out.grown hgrow1 hws (fun j hj => by cases hj; omega)).alloc (by omega) _).grown hgrow2 (by simp; omega) (fun j hj => Nat.le_trans (by omega) (hr1.lt j hj).1))
          have HC2 : Hid (w2.heap[w.heap.size]? = some (.cells (mcells (m : Int) t) 26 (0, 0))) := Lib.hid ((hgrow2.block _ (by simp; omega) (fun e => by have := (hr1.lt _ e.symm).1; omega)).trans ((halloc_lt _ _ _ (by omega)).trans ((hgrow1.block _ (by omega) (fun e => by injection e with e; omega)).trans B0.out)))
          clear hmap hmap1 hown hown' hgrow1 hgrow2 hr1 hrow
          go_roundw
          case rel =>
            refine ⟨k + 1, by omega, by go_num, by rw [HND.out]; exact HM2.out, ?_, HB2.out, by omega, HC2.out⟩
            rw [kerK_succ, HKV.out]; simpa using HO2.out
          case measure => simp [intOf]; omega
        · rw [decide_eq_false hn, Bool.not_false] at hhas
          obtain ⟨a1, a2, a3⟩ := fst1_at t k
          have HAT : Hid (∀ z, (kD t k).atKey (.int .i64 (t k)) z = .lit (.int .i64 (kvK t k))) := Lib.hid fun z => by
            have := atKey_kD t z k (fst1 t k) (by omega)
            rw [a1, kvK_same a1] at this
            exact this
          have HND := Lib.hid (kD_old hn)
          have hkv := kvK_bd t k
          clear hn a1 a2 a3
          generalize t k = X at *
          generalize kD t k = D at *
          go_wp2_with (first
            | (at_lookup; refine wpList_lookup_own_ok_int _ rfl _ _ 62 rfl 2 2 .i64 (int_keyed Try.underlying2) Try.underlying62 Try.underlying2 (zeroI _) wo.heap.size k _ rfl hmap _ _ rfl hkey ?_; intro c hat hwc)
            | (at_builtin; refine wpList_append_own _ rfl _ _ 34 rfl (wo.heap.size + 1) 2 i0 (.int .i64 0) 1 8 Try.underlying34 hi hz0' hz1' hz2' rfl (by decide) _ _ _ rfl (hown.alloc _) ⟨wr.heap.size, 0, none⟩ 1 1 [.int .i64 c] rfl rfl (cell_one_new _ _ _) (ints_oneCell .i64 [c]) (by unfold maxLen; omega) (by omega) (by simp; omega) ?_; intro v' w2 hown' hgrow2 _))
          have hcv : c = kvK t k := by
            rw [HAT.out] at hat
            injection hat with hat
            injection hat with _ hat
            exact hat.symm
          have s2 := hgrow2.size
          simp at s2
          have HM2 := Lib.hid ((hmap.alloc _).kept hgrow2 (row_ne hown (Nat.lt_succ_self _)))
          have HO2 := Lib.hid hown'
          have hws := Hb.out.size
          have HB2 : Hid (Below w.heap.size w w2) := Lib.hid ((Hb.out.alloc (by omega) _).grown hgrow2 (by simp; omega) (fun j hj => Nat.le_trans (by omega) (hown.lt j hj).1))
          have HC2 : Hid (w2.heap[w.heap.size]? = some (.cells (mcells (m : Int) t) 26 (0, 0))) := Lib.hid ((hgrow2.block _ (by simp; omega) (fun e => by have := (hown.lt _ e.symm).1; omega)).trans ((halloc_lt _ _ _ (by omega)).trans B0.out))
          have HCV := Lib.hid hcv
          clear hmap hown hown' hgrow2 hrow hcv hat hwc
          go_roundw
          case rel =>
            refine ⟨k + 1, by omega, by go_num, by rw [HND.out]; exact HM2.out.mono (Nat.le_succ _), ?_, HB2.out, by omega, HC2.out⟩
            rw [kerK_succ, ← HCV.out]; simpa using HO2.out
          case measure => simp [intOf]; omega
      · obtain rfl : k = m := by omega
        obtain ⟨a, cap, rfl, hrd⟩ := own_rd (L := kerK t k) hown (by omega)
        have HO := Lib.hid hrd
        clear hmap hown hrd hb b0
        go_wp2_with fail
        go_ret2
        refine ⟨_, _, rfl, HO.out.mono (by omega), Hb.out⟩

end Go.Proofs.Ytadljicbegemlaa
