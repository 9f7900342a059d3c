/- The contracts of spec.l01Kernel and spec.KernelOf, and of impl.KernelOf. -/
import Derived.Test.YthblbamiammodaaCg
import Derived.Test.YthblbamiammodaaNbf
import Derived.Maps.OwnSet
import Derived.Maps.OwnOps
import Derived.Maps.AppendAt
import Derived.Test.YthblbamiammodaaSl
import Derived.Test.YthblbamiammodaaBase
namespace Go.Proofs.Ythblbamiammodaa
open Go.RowKit

/-- The kernel; empty if the code is not 0. -/
def kerL (p : Int) (t : Nat → Int) : List Int := if isB p t = true then kerK t p.toNat else []

def kerC (p : Int) (t : Nat → Int) : Int := if isB p t = true then 0 else 1

set_option maxRecDepth 100000 in
set_option maxHeartbeats 1000000 in
theorem sker_any (p : Int) (t : Nat → Int) (hf : isB p t = true) (w : World) :
    Calls Try.prog 64 #[mv p t] w (RetOwn w.heap.size (kerK t p.toNat) w) := by
  obtain ⟨h1, h5⟩ := isB_pts hf
  clear hf
  obtain ⟨i0, hi, hz0', hz1', hz2'⟩ := info_parts info_int
  simp only [mv, mcells]
  go_enter Try.func64, Try.ntmps64
  go_wp2_with fail
  go_loopw [3, 4, 5, 6, 7] (fun v nx i _ _ wr => ∃ k : Nat, (k : Int) ≤ p ∧ i = .int .i64 k ∧ nx = .int .i64 (rkK t k) ∧ wr.ownsRow (w.heap.size + 1) 2 1 v (kerK t k).length ((kerK t k).map (Value.int .i64)) ∧ Below (w.heap.size + 1) (w.alloc (.cells (mcells p t) 26)) wr) (fun _ _ i _ _ _ => (p - intOf i).toNat)
  case atStart =>
    have ho := own_empty (w.alloc (.cells (mcells p t) 26)) (w.heap.size + 1) (by simp)
    simp only [World.size_alloc] at ho
    exact ⟨0, by omega, rfl, rfl, ho, (Below.refl _ _).alloc (by simp) _⟩
  case round =>
    obtain ⟨k, hk, rfl, rfl, hown, hb⟩ := hrel
    have hp := new_cell hb (Nat.lt_succ_self _) 0
    simp only [mcells, List.getElem?_toArray, List.getElem?_cons_zero] at hp
    have Hb' := Lib.hid hb
    have hsz := hb.size
    simp at hsz
    by_cases hkp : (k : Int) < p
    · have k5 : k < 5 := by omega
      have k5' : (k : Int) < 5 := by omega
      have hc := (new_cell hb (Nat.lt_succ_self _) (1 + k)).trans (mcells_at p t k k5)
      have hcm := Lib.hid fun m (hm : m < 5) => (new_cell hb (Nat.lt_succ_self _) (1 + m)).trans (mcells_at p t m hm)
      have hrk := rkK_le t k
      have hrk' : (rkK t k : Int) ≤ 5 := by omega
      have hlen := kerK_len t k
      obtain ⟨a, cap, rfl, hcl⟩ := own_cellz (L := kerK t k) hown (by omega)
      have HOWN := Lib.hid hown
      have HCL := Lib.hid hcl
      have HST := Lib.hid (ownK_start t k)
      clear hb hown hcl
      go_wp2_with fail
      go_loopw [6, 7] (fun o z wq => ∃ (m : Nat) (nn : Nat), m ≤ k ∧ z = .int .i64 ((m : Int) - 1) ∧ o = .int .i64 (ownK t k m) ∧ wq = wr.drewN nn) (fun _ z _ => (intOf z + 1).toNat)
      case atStart => exact ⟨k, 0, Nat.le_refl _, rfl, by rw [HST.out], rfl⟩
      case round =>
        obtain ⟨m, nn, hm, rfl, rfl, rfl⟩ := hrel
        rcases m with _ | m
        · have e0 : ((0 : Nat) : Int) - 1 = -1 := by omega
          rw [e0]
          have HE := Lib.hid (ownK_end t k)
          clear e0
          have HV : Hid (∃ V, kvK t k = V) := Lib.hid ⟨_, rfl⟩
          obtain ⟨V, hV⟩ := HV.out
          rw [hV] at HE
          have HV := Lib.hid hV
          rw [HE.out]
          by_cases hn : fst1 t k = k
          · have hq : (V == (rkK t k : Int)) = true := by rw [← hV, (kvK_new t k).2 hn]; simp
            have HR : Hid (rkK t (k + 1) = rkK t k + 1) := by rw [rkK_succ, if_pos hn]; exact Lib.hid rfl
            clear hV hn HE
            go_wp2_with (at_builtin; refine wpList_append_own _ rfl _ _ 34 rfl (w.heap.size + 1) 2 i0 (.int .i64 0) 1 8 Try.underlying34 hi hz0' hz1' hz2' rfl (by decide) _ _ _ rfl ((HOWN.out : (wr.drewN nn).ownsRow _ _ _ _ _ _).alloc _) ⟨(wr.drewN nn).heap.size, 0, none⟩ 1 1 [.int .i64 V] rfl rfl ?c1 ?c2 ?c3 ?c4 ?c5 ?_)
            case c1 =>
              intro j u hj
              match j, hj with
              | 0, hj => simp at hj; subst hj; exact World.cell?_alloc_new (w := wr.drewN nn) #[.int .i64 V] 2 0
            case c2 => intro u hu; simp at hu; subst hu; rfl
            case c3 => unfold maxLen; omega
            case c4 => omega
            case c5 => simp; omega
            intro v' w2 hown' hgrow _
            have hown2 : Hid (w2.ownsRow (w.heap.size + 1) 2 1 v' (kerK t (k + 1)).length ((kerK t (k + 1)).map (Value.int .i64))) := by
              refine Lib.hid ?_
              rw [kerK_succ, HV.out]; simpa [hlen] using hown'
            have hb2 : Hid (Below (w.heap.size + 1) (w.alloc (.cells (mcells p t) 26)) w2) :=
              ((below_drewN Hb'.out nn).alloc (by simp; omega) _).grown hgrow (by simp; omega) (fun b hbk => by
                rcases HOWN.out.2 with ⟨hv, _⟩ | ⟨g, cap, cur, hv, hg, _⟩
                · injection hv with h1 _ _; rw [h1] at hbk; cases hbk
                · injection hv with h1 _ _; rw [h1] at hbk; cases hbk; exact hg)
            clear hown' hgrow
            go_wp2_with fail
            go_roundw
            case rel => exact ⟨k + 1, by omega, by go_num, (by first | (rw [HR.out]; done) | (rw [HR.out]; go_num)), hown2.out, hb2.out⟩
            case measure => simp [intOf]; omega
          · have hq : (V == (rkK t k : Int)) = false := by rw [← hV, beq_eq_false_iff_ne]; exact fun e => hn ((kvK_new t k).1 e)
            have HR : Hid (rkK t (k + 1) = rkK t k) := by rw [rkK_succ, if_neg hn]; exact Lib.hid rfl
            clear hV hn HE
            go_wp2_with (at_builtin; refine wpList_append_own _ rfl _ _ 34 rfl (w.heap.size + 1) 2 i0 (.int .i64 0) 1 8 Try.underlying34 hi hz0' hz1' hz2' rfl (by decide) _ _ _ rfl ((HOWN.out : (wr.drewN nn).ownsRow _ _ _ _ _ _).alloc _) ⟨(wr.drewN nn).heap.size, 0, none⟩ 1 1 [.int .i64 V] rfl rfl ?c1 ?c2 ?c3 ?c4 ?c5 ?_)
            case c1 =>
              intro j u hj
              match j, hj with
              | 0, hj => simp at hj; subst hj; exact World.cell?_alloc_new (w := wr.drewN nn) #[.int .i64 V] 2 0
            case c2 => intro u hu; simp at hu; subst hu; rfl
            case c3 => unfold maxLen; omega
            case c4 => omega
            case c5 => simp; omega
            intro v' w2 hown' hgrow _
            have hown2 : Hid (w2.ownsRow (w.heap.size + 1) 2 1 v' (kerK t (k + 1)).length ((kerK t (k + 1)).map (Value.int .i64))) := by
              refine Lib.hid ?_
              rw [kerK_succ, HV.out]; simpa [hlen] using hown'
            have hb2 : Hid (Below (w.heap.size + 1) (w.alloc (.cells (mcells p t) 26)) w2) :=
              ((below_drewN Hb'.out nn).alloc (by simp; omega) _).grown hgrow (by simp; omega) (fun b hbk => by
                rcases HOWN.out.2 with ⟨hv, _⟩ | ⟨g, cap, cur, hv, hg, _⟩
                · injection hv with h1 _ _; rw [h1] at hbk; cases hbk
                · injection hv with h1 _ _; rw [h1] at hbk; cases hbk; exact hg)
            clear hown' hgrow
            go_wp2_with fail
            go_roundw
            case rel => exact ⟨k + 1, by omega, by go_num, (by first | (rw [HR.out]; done) | (rw [HR.out]; go_num)), hown2.out, hb2.out⟩
            case measure => simp [intOf]; omega
        · have e0 : ((m + 1 : Nat) : Int) - 1 = (m : Int) := by omega
          rw [e0]
          have hcc := hcm.out m (by omega)
          obtain ⟨g, rfl, hgm⟩ := HCL.out m (by omega)
          rw [kerK_getD t k m (by omega)] at hgm
          have hmk : (m : Int) < (kerK t k).length := by omega
          have hm5 : (m : Int) < 5 := by omega
          clear e0
          by_cases he : t m = t k
          · have hq : (t m == t k) = true := by simp [he]
            have HY := Lib.hid (ownK_yes t k m (by omega) he)
            clear he
            generalize ownK t k (m + 1) = O at *
            generalize kvK t m = KV at *
            go_wp2_with fail
            go_quiet (fail)
            go_wp2_with fail
            go_roundw
            case rel => exact ⟨m, _, by omega, rfl, by rw [HY.out], rfl⟩
            case measure => simp [intOf] <;> omega
          · have hq : (t m == t k) = false := by simp [he]
            have HY := Lib.hid (ownK_no t k m he)
            clear he
            generalize hO : ownK t k (m + 1) = O at *
            have HO := Lib.hid hO
            clear hO
            go_wp2_with fail
            go_quiet (fail)
            go_wp2_with fail
            go_roundw
            case rel => exact ⟨m, _, by omega, rfl, by rw [HY.out], rfl⟩
            case measure => simp [intOf] <;> omega
    · have HO := Lib.hid hown
      clear hb hown
      go_wp2_with fail
      go_ret
      refine ⟨_, rfl, ?_, bel_new Hb'.out (by omega)⟩
      rw [show p.toNat = k by omega]
      exact Joins.ownsRow_le HO.out (by omega)

set_option maxHeartbeats 1000000 in
theorem sKer_any (p : Int) (t : Nat → Int) (w : World) :
    Calls Try.prog 28 #[mv p t] w (RetRow w.heap.size (kerL p t) (kerC p t) w) := by
  have HL := fun w => lis_any p t w
  cases hv : isB p t
  · have e1 : kerL p t = [] := by unfold kerL; rw [if_neg (by rw [hv]; exact Bool.false_ne_true)]
    have e2 : kerC p t = 1 := by unfold kerC; rw [if_neg (by rw [hv]; exact Bool.false_ne_true)]
    rw [e1, e2]
    rw [hv] at HL
    have HL := Lib.hid HL
    clear e1 e2
    simp only [mv, mcells]
    go_enter Try.func28, Try.ntmps28
    go_wp2_with fail
    (refine (HL.out _).mono ?_; rintro e w1 ⟨rfl, hb⟩; obtain ⟨hc, hf⟩ := bcell hb; have hz := hb.size; have Hb := Lib.hid hb; (try simp at hz hc hf); (try (have hy := Nat.lt_of_succ_le hz)); have hz0 : w.heap.size < w1.heap.size := (by omega); clear hb)
    go_wp2_with fail
    go_ret2
    refine ⟨none, 0, rfl, ⟨by simp, Or.inl rfl⟩, ?_⟩
    (repeat' (first | (with_reducible exact Below.refl _ _) | (with_reducible refine Below.alloc ?_ ?_ _) | (with_reducible refine Below.setCell ?_ ?_ _) | (with_reducible refine Below.drew ?_) | (with_reducible refine below_drewN ?_ _) | (with_reducible refine Below.trans ?_ (Below.mono (Hid.out (by assumption)) ?_)) | omega | (simp; done) | (simp; omega)))
  · have e1 : kerL p t = kerK t p.toNat := by unfold kerL; rw [if_pos hv]
    have e2 : kerC p t = 0 := by unfold kerC; rw [if_pos hv]
    rw [e1, e2]
    have hp := isB_pts hv
    rw [hv] at HL
    have HL := Lib.hid HL
    have HQ := Lib.hid fun w => sker_any p t hv w
    have HLen : Hid ((kerK t p.toNat).length ≤ 2000000) := Lib.hid (by rw [kerK_len]; omega)
    clear hv e1 e2
    generalize kerK t p.toNat = R at *
    simp only [mv, mcells] at *
    go_enter Try.func28, Try.ntmps28
    go_wp2_with fail
    (refine (HL.out _).mono ?_; rintro e w1 ⟨rfl, hb⟩; obtain ⟨hc, hf⟩ := bcell hb; have hz := hb.size; have Hb := Lib.hid hb; (try simp at hz hc hf); (try (have hy := Nat.lt_of_succ_le hz)); have hz0 : w.heap.size < w1.heap.size := (by omega); clear hb)
    have Hb1 := Hb
    go_wp2_with fail
    refine (HQ.out _).mono ?_
    rintro e w2 ⟨v, rfl, hown, hbel⟩
    obtain ⟨ax, cx, rfl, hrd⟩ := own_rd hown HLen.out
    have HB := Lib.hid hbel
    have HO := Lib.hid hrd
    clear hbel hown hrd
    go_wp2_with fail
    go_ret2
    refine ⟨_, _, rfl, HO.out.mono (by omega), ?_⟩
    (repeat' (first | (with_reducible exact Below.refl _ _) | (with_reducible refine Below.alloc ?_ ?_ _) | (with_reducible refine Below.setCell ?_ ?_ _) | (with_reducible refine Below.drew ?_) | (with_reducible refine below_drewN ?_ _) | (with_reducible refine Below.trans ?_ (Below.mono (Hid.out (by assumption)) ?_)) | omega | (simp; done) | (simp; omega)))

end Go.Proofs.Ythblbamiammodaa

namespace Go.Proofs.Ythblbamiammodaa
open Go.RowKit Go.Maps

/-- The first m images. -/
def im (t : Nat → Int) (m : Nat) : List Int := (List.range m).map t

theorem im_len (t : Nat → Int) (m : Nat) : (im t m).length = m := by unfold im; simp

theorem im_at (t : Nat → Int) (m i : Nat) (h : i < m) : (im t m).getD i 0 = t i := by unfold im; simp [h]

theorem im_ker (t : Nat → Int) (m : Nat) : kerK (tL (im t m)) m = kerK t m := kerK_congr0 m fun i hi => im_at t m i hi

theorem im_row {w : World} {b T : Nat} {p : Int} {t : Nat → Int} (h : w.heap[b]? = some (.cells (mcells p t) T (0, 0))) (m : Nat) (hm : m ≤ 5) : InRow w (some ⟨b, 1, none⟩) (im t m) :=
  Or.inr ⟨b, 1, rfl, (Array.getElem?_eq_some_iff.1 h).1, fun i hi => by
    rw [im_len] at hi
    rw [im_at t m i hi]
    exact blk_at h i (by omega)⟩

set_option maxRecDepth 100000 in
set_option maxHeartbeats 1000000 in
theorem iKer_any (p : Int) (t : Nat → Int) (w : World) :
    Calls Try.prog 27 #[mv p t] w (RetRow w.heap.size (kerL p t) (kerC p t) w) := by
  have HL := fun w => iis_any p t w
  cases hv : isB p t
  · have e1 : kerL p t = [] := by unfold kerL; rw [if_neg (by rw [hv]; exact Bool.false_ne_true)]
    have e2 : kerC p t = 1 := by unfold kerC; rw [if_neg (by rw [hv]; exact Bool.false_ne_true)]
    rw [e1, e2]
    rw [hv] at HL
    have HL := Lib.hid HL
    clear e1 e2
    simp only [mv, mcells]
    go_enter Try.func27, Try.ntmps27
    go_wp2_with fail
    (refine (HL.out _).mono ?_; rintro e w1 ⟨rfl, hb⟩; obtain ⟨hc, hf⟩ := bcell hb; have hz := hb.size; have Hb := Lib.hid hb; (try simp at hz hc hf); (try (have hy := Nat.lt_of_succ_le hz)); have hz0 : w.heap.size < w1.heap.size := (by omega); clear hb)
    go_wp2_with fail
    go_ret2
    refine ⟨none, 0, rfl, ⟨by simp, Or.inl rfl⟩, ?_⟩
    (repeat' (first | (with_reducible exact Below.refl _ _) | (with_reducible refine Below.alloc ?_ ?_ _) | (with_reducible refine Below.setCell ?_ ?_ _) | (with_reducible refine Below.drew ?_) | (with_reducible refine below_drewN ?_ _) | (with_reducible refine Below.trans ?_ (Below.mono (Hid.out (by assumption)) ?_)) | omega | (simp; done) | (simp; omega)))
  · have e1 : kerL p t = kerK t p.toNat := by unfold kerL; rw [if_pos hv]
    have e2 : kerC p t = 0 := by unfold kerC; rw [if_pos hv]
    rw [e1, e2]
    rw [hv] at HL
    obtain ⟨h1, h5⟩ := isB_pts hv
    obtain ⟨m, rfl⟩ := Int.eq_ofNat_of_zero_le (show 0 ≤ p by omega)
    simp only [Int.toNat_natCast]
    have hm5 : m ≤ 5 := by omega
    have hm1 : 1 ≤ m := by omega
    have hwf : ∀ x ∈ im t m, (Lit.int .i64 x).wf = true := fun x hx => by
      obtain ⟨i, hi, rfl⟩ := List.mem_map.1 hx
      have := ok_at hv i (by have := List.mem_range.1 hi; omega)
      exact WalkArith.wf_i64 (by omega)
    have hQ := fun w h => nbf_any (im t m) (by rw [im_len]; omega) hwf (some ⟨w, 1, none⟩) 5 h
    simp only [im_len, im_ker] at hQ
    have HQ := Lib.hid hQ
    have hkl := kerK_len t m
    have HL := Lib.hid HL
    clear hv e1 e2 hQ hwf
    generalize hR : kerK t m = R at *
    clear hR
    have hm5' : (m : Int) ≤ 5 := by omega
    simp only [mv, mcells]
    go_enter Try.func27, Try.ntmps27
    go_wp2_with fail
    (refine (HL.out _).mono ?_; rintro e w1 ⟨rfl, hb⟩; obtain ⟨hc, hf⟩ := bcell hb; have hz := hb.size; have Hb := Lib.hid hb; (try simp at hz hc hf); (try (have hy := Nat.lt_of_succ_le hz)); have hz0 : w.heap.size < w1.heap.size := (by omega); clear hb)
    have Hb1 := Hb
    have hbx : w1.heap[w.heap.size]? = some (.cells (mcells (m : Int) t) 26 (0, 0)) := by (repeat' (first | omega | (rw [hdrew]) | (with_reducible assumption) | (with_reducible exact Hid.out (by assumption)) | (with_reducible rfl) | ((with_reducible refine halloc_at _ _ _ ?_) <;> (first | (with_reducible rfl) | omega | (simp; done))) | (with_reducible refine chain6 ?_) | (with_reducible refine Eq.trans (hset_ne _ _ _ _ ?_) ?_) | (with_reducible refine Eq.trans (halloc_lt _ _ _ ?_) ?_) | (with_reducible refine Eq.trans (Below.block (Hid.out (by assumption)) _ ?_) ?_) | (simp; done) | (simp; omega)))
    have HROW := Lib.hid (im_row hbx m hm5)
    clear hbx
    go_wp2_with fail
    refine (HQ.out _ _ HROW.out).mono ?_
    rintro e w2 ⟨v, rfl, hown, hbel⟩
    obtain ⟨ax, cx, rfl, hrd⟩ := own_rd hown (by omega)
    have HB := Lib.hid hbel
    have HO := Lib.hid hrd
    clear hbel hown hrd
    go_wp2_with fail
    go_ret2
    refine ⟨ax, cx, by rw [hkl]; rfl, HO.out.mono (by omega), ?_⟩
    (repeat' (first | (with_reducible exact Below.refl _ _) | (with_reducible refine Below.alloc ?_ ?_ _) | (with_reducible refine Below.setCell ?_ ?_ _) | (with_reducible refine Below.drew ?_) | (with_reducible refine below_drewN ?_ _) | (with_reducible refine Below.trans ?_ (Below.mono (Hid.out (by assumption)) ?_)) | omega | (simp; done) | (simp; omega)))

end Go.Proofs.Ythblbamiammodaa
