/- The law FnExactLeftIdeal is true at every input: impl.LeftIdeal and spec.LeftIdeal give the same answer and the same code, in memory of its own, and the list that came in stays as it was. No conditions. -/
import Derived.Test.YtiogagaclhjdaaaMk
import Derived.Test.YtiogagaclhjdaaaBase
import Derived.Test.YtiogagaclhjdaaaRgt
import Derived.Test.YtiogagaclhjdaaaRowM
import Derived.Test.YtiogagaclhjdaaaMark
namespace Go.Proofs.Ytiogagaclhjdaaa
open Go.ChangeShapes Go.WideShapes Go.ChangeAt Go.RowKit
namespace LFnExactLeftIdeal

set_option maxRecDepth 100000 in
set_option maxHeartbeats 2000000 in
theorem ex_any (w : World) (a1 : Option Addr) (len1 cap1 : Nat) (L : List MapN) (hw1 : L.length = len1 ∧ InRowM w a1 L ∧ (a1 = none → cap1 = 0) ∧ len1 ≤ maxLen) (q : Int) (s : Nat → Int) (wq : (Lit.int .i64 q).wf = true) (ws : ∀ i, i < 5 → (Lit.int .i64 (s i)).wf = true) :
    Calls Try.prog 11 #[.slice a1 len1 cap1, mv q s] w fun e w' => e = .returned (.bool true) ∧ Below w.heap.size w w' := by
  obtain ⟨rfl, h1, _, h9⟩ := hw1
  have HM := Lib.hid h1
  have H9 := Lib.hid h9
  clear h1 h9
  by_cases hL : L.length ≤ 1048576
  · have hng : ¬ ((1048576 : Int) - (L.length : Int) < 0) := by omega
    have hq0 : (1 + 6 * (L.length : Int) < 0) = False := by simp; omega
    have HS := Lib.hid fun w (g1 : Nat) h1 => slftI_any (some ⟨g1, 0, none⟩) L.length L q s wq ws hL w h1
    have HI := Lib.hid fun w (g1 : Nat) h1 => ilftI_any (some ⟨g1, 0, none⟩) L.length L q s wq ws (fun e => by cases e) hL w h1
    generalize onL lftC L q s = R at *
    generalize witC L [(q, s)] = C at *
    (try simp only [mv, mcells] at HS HI)
    (try simp only [mv, mcells])
    go_enter Try.func11, Try.ntmps11
    go_wp2_with (go_at_call 15; (with_reducible refine (sz_any L.length a1 cap1 hL _).mono ?_); rintro e w ⟨rfl, rfl⟩)
    obtain ⟨wg, hwg⟩ : ∃ wg, wg = w.alloc (.cells (mcells q s) 25) := ⟨_, rfl⟩
    have hgs : wg.heap.size = w.heap.size + 1 := by rw [hwg]; simp
    have HBX0 : w.heap.size < wg.heap.size := by omega
    have hgs1 : wg.heap.size ≤ w.heap.size + 1 := by omega
    clear hgs
    have HBXwg : Hid (wg.heap[w.heap.size]? = some (.cells (mcells q s) 25 (0, 0))) := Lib.hid (by rw [hwg]; exact halloc_at _ _ _ rfl)
    have HWG : Hid (Below w.heap.size w wg) := Lib.hid (by rw [hwg]; exact (Below.refl _ _).alloc (Nat.le_refl _) _)
    have HMwg := Lib.hid (HM.out.below HWG.out)
    try rw [← hwg]
    clear hwg
    have rb0 : ∀ z, Below wg.heap.size wg z → z.cell? ⟨w.heap.size, 0, none⟩ = some (.int .i64 q) := fun z h => by have := Joins.cell_of_block ((h.block w.heap.size (by omega)).trans HBXwg.out) 0; simpa using this
    have rb1 : ∀ z, Below wg.heap.size wg z → z.cell? ⟨w.heap.size, 1, none⟩ = some (.int .i64 (s 0)) := fun z h => by have := Joins.cell_of_block ((h.block w.heap.size (by omega)).trans HBXwg.out) 1; simpa using this
    have rb2 : ∀ z, Below wg.heap.size wg z → z.cell? ⟨w.heap.size, 2, none⟩ = some (.int .i64 (s 1)) := fun z h => by have := Joins.cell_of_block ((h.block w.heap.size (by omega)).trans HBXwg.out) 2; simpa using this
    have rb3 : ∀ z, Below wg.heap.size wg z → z.cell? ⟨w.heap.size, 3, none⟩ = some (.int .i64 (s 2)) := fun z h => by have := Joins.cell_of_block ((h.block w.heap.size (by omega)).trans HBXwg.out) 3; simpa using this
    have rb4 : ∀ z, Below wg.heap.size wg z → z.cell? ⟨w.heap.size, 4, none⟩ = some (.int .i64 (s 3)) := fun z h => by have := Joins.cell_of_block ((h.block w.heap.size (by omega)).trans HBXwg.out) 4; simpa using this
    have rb5 : ∀ z, Below wg.heap.size wg z → z.cell? ⟨w.heap.size, 5, none⟩ = some (.int .i64 (s 4)) := fun z h => by have := Joins.cell_of_block ((h.block w.heap.size (by omega)).trans HBXwg.out) 5; simpa using this
    go_cut [6, 7] from 21 to 28 (fun s1 s2 wx => ∃ ac cc, s1 = .slice ac R.length cc ∧ s2 = .int .i64 C ∧ RdM wx wg.heap.size ac R ∧ Below wg.heap.size wg wx)
    case first =>
      go_region_held3 (fun w' => Below wg.heap.size wg w') (first | (with_reducible assumption) | ((repeat' (first | (with_reducible exact Below.refl _ _) | (with_reducible refine Below.alloc ?_ ?_ _) | (with_reducible refine Below.setCell ?_ ?_ _) | (with_reducible refine Below.drew ?_) | (with_reducible refine below_drewN ?_ _) | (with_reducible refine Below.trans ?_ (Below.mono (Hid.out (by assumption)) ?_)) | omega | (simp; done) | (simp; omega))); done)) (first | (go_at_call 17; (with_reducible refine (toMS_any L hL a1 cap1 _ (HMwg.out.below (by (repeat' (first | (with_reducible exact Below.refl _ _) | (with_reducible refine Below.alloc ?_ ?_ _) | (with_reducible refine Below.setCell ?_ ?_ _) | (with_reducible refine Below.drew ?_) | (with_reducible refine below_drewN ?_ _) | (with_reducible refine Below.trans ?_ (Below.mono (Hid.out (by assumption)) ?_)) | omega | (simp; done) | (simp; omega)))))).mono ?_); rintro e wA ⟨_, rfl, hr, hb, rfl, hgA⟩; obtain ⟨hc, hf⟩ := bcell hb; have hzA := hb.size; have HbA := Lib.hid hb; (try simp at hzA hc hf); (try simp only [hdrew] at hr); have HRA := Lib.hid hr; have hlA : wg.heap.size ≤ wA.heap.size := (by omega); clear hb hr hf) | (go_at_call 18; (with_reducible refine (toMap_any q s _).mono ?_); rintro e wB ⟨rfl, hb⟩; (try simp only [mv, mcells]); obtain ⟨hc, hf⟩ := bcell hb; have hzB := hb.size; have HbB := Lib.hid hb; (try simp at hzB hc hf); have hlB : wg.heap.size ≤ wB.heap.size := (by omega); clear hb hf) | (go_at_call 37; (with_reducible refine (HS.out _ _ (HRA.out.below (by (repeat' (first | (with_reducible exact Below.refl _ _) | (with_reducible refine Below.alloc ?_ ?_ _) | (with_reducible refine Below.setCell ?_ ?_ _) | (with_reducible refine Below.drew ?_) | (with_reducible refine below_drewN ?_ _) | (with_reducible refine Below.trans ?_ (Below.mono (Hid.out (by assumption)) ?_)) | omega | (simp; done) | (simp; omega))))).inRow).mono ?_); rintro e wC ⟨aC, cC, rfl, hr, hb⟩; obtain ⟨hc, hf⟩ := bcell hb; have hzC := hb.size; have HbC := Lib.hid hb; (try simp at hzC hc hf); have HRC := Lib.hid hr; clear hr; have hlC : wg.heap.size ≤ wC.heap.size := (by omega); clear hb hf))
      all_goals (go_wp2_with fail)
      all_goals (go_meet)
      all_goals exact ⟨_, _, rfl, rfl, HRC.out.mono (by omega), by (repeat' (first | (with_reducible exact Below.refl _ _) | (with_reducible refine Below.alloc ?_ ?_ _) | (with_reducible refine Below.setCell ?_ ?_ _) | (with_reducible refine Below.drew ?_) | (with_reducible refine below_drewN ?_ _) | (with_reducible refine Below.trans ?_ (Below.mono (Hid.out (by assumption)) ?_)) | omega | (simp; done) | (simp; omega)))⟩
    case rest =>
      obtain ⟨awcc, cwcc, rfl, rfl, hr, hb⟩ := hcut
      obtain ⟨wcc, hwcc⟩ : ∃ wcc, wcc = wc := ⟨_, rfl⟩
      subst hwcc
      have HBwcc := Lib.hid hb
      have hzwcc := hb.size
      have hlwcc : w.heap.size < wcc.heap.size := (by omega)
      have Rwcc := Lib.hid hr
      clear hb rb0 rb1 rb2 rb3 rb4 rb5 hr
      have HBX : Hid (∀ z, Below wg.heap.size wg z → ∀ i : Nat, z.cell? ⟨w.heap.size, i, none⟩ = (mcells q s)[i]?) := Lib.hid fun z h i => Joins.cell_of_block (bel_at h HBXwg.out) i
      go_wp2_with fail
      refine (toMS_any L hL a1 cap1 _ (HM.out.below (by (repeat' (first | (with_reducible exact Below.refl _ _) | (with_reducible refine Below.alloc ?_ ?_ _) | (with_reducible refine Below.setCell ?_ ?_ _) | (with_reducible refine Below.drew ?_) | (with_reducible refine below_drewN ?_ _) | (with_reducible refine Below.trans ?_ (Below.mono (Hid.out (by assumption)) ?_)) | omega | (simp; done) | (simp; omega)))))).mono ?_
      rintro e wd ⟨_, rfl, hr, hb, rfl, hgrwd⟩
      obtain ⟨hc, hf⟩ := bcell hb
      have hzwd := hb.size
      have HBwd := Lib.hid hb
      (try simp at hzwd hc hf)
      have hlwd : w.heap.size ≤ wd.heap.size := (by omega)
      (try simp only [World.size_alloc] at hr)
      have Rwd := Lib.hid hr
      clear hb hf hr
      obtain ⟨yb0, yb1, yb2, yb3, yb4, yb5⟩ := blk6 (p := q) (t := s) (bel_at (show Below wg.heap.size wg wcc by (repeat' (first | (with_reducible exact Below.refl _ _) | (with_reducible refine Below.alloc ?_ ?_ _) | (with_reducible refine Below.setCell ?_ ?_ _) | (with_reducible refine Below.drew ?_) | (with_reducible refine below_drewN ?_ _) | (with_reducible refine Below.trans ?_ (Below.mono (Hid.out (by assumption)) ?_)) | omega | (simp; done) | (simp; omega)))) HBXwg.out)
      go_wp2_with fail
      refine (toMap_any q s _).mono ?_
      rintro e wxd ⟨rfl, hb⟩
      obtain ⟨hc, hf⟩ := bcell hb
      have hzwxd := hb.size
      have HBwxd := Lib.hid hb
      (try simp at hzwxd hc hf)
      have hlwxd : w.heap.size ≤ wxd.heap.size := (by omega)
      clear hb hf
      (try simp only [mv, mcells])
      clear yb0 yb1 yb2 yb3 yb4 yb5
      have Ywd : Hid (RdM wxd _ _ L) := Lib.hid (Rwd.out.below (by (repeat' (first | (with_reducible exact Below.refl _ _) | (with_reducible refine Below.alloc ?_ ?_ _) | (with_reducible refine Below.setCell ?_ ?_ _) | (with_reducible refine Below.drew ?_) | (with_reducible refine below_drewN ?_ _) | (with_reducible refine Below.trans ?_ (Below.mono (Hid.out (by assumption)) ?_)) | omega | (simp; done) | (simp; omega)))))
      go_wp2_with fail
      refine (HI.out _ _ Ywd.out.inRow).mono ?_
      rintro e wf ⟨awf, cwf, rfl, hr, hb⟩
      obtain ⟨hc, hf⟩ := bcell hb
      have hzwf := hb.size
      have HBwf := Lib.hid hb
      (try simp at hzwf hc hf)
      have hlwf : w.heap.size < wf.heap.size := (by omega)
      have Rwf := Lib.hid hr
      clear hb hf hr
      have R1 : RdM wf _ awcc R := Rwcc.out.below (by (repeat' (first | (with_reducible exact Below.refl _ _) | (with_reducible refine Below.alloc ?_ ?_ _) | (with_reducible refine Below.setCell ?_ ?_ _) | (with_reducible refine Below.drew ?_) | (with_reducible refine below_drewN ?_ _) | (with_reducible refine Below.trans ?_ (Below.mono (Hid.out (by assumption)) ?_)) | omega | (simp; done) | (simp; omega))))
      have hlen : R.length ≤ 2000000 := R1.1
      have R1 := Lib.hid R1
      go_wp2_with fail
      refine (eqMS_same R awf awcc cwf cwcc hlen _ (Rwf.out).inRow (R1.out).inRow).mono ?_
      rintro e wge ⟨rfl, hb⟩
      obtain ⟨hc, hf⟩ := bcell hb
      have hzwge := hb.size
      have HBwge := Lib.hid hb
      (try simp at hzwge hc hf)
      have hlwge : w.heap.size < wge.heap.size := (by omega)
      clear hb hf
      go_wp2_with fail
      refine (toMS_any L hL a1 cap1 _ (HM.out.below (by (repeat' (first | (with_reducible exact Below.refl _ _) | (with_reducible refine Below.alloc ?_ ?_ _) | (with_reducible refine Below.setCell ?_ ?_ _) | (with_reducible refine Below.drew ?_) | (with_reducible refine below_drewN ?_ _) | (with_reducible refine Below.trans ?_ (Below.mono (Hid.out (by assumption)) ?_)) | omega | (simp; done) | (simp; omega)))))).mono ?_
      rintro e wh ⟨_, rfl, hr, hb, rfl, hgrwh⟩
      obtain ⟨hc, hf⟩ := bcell hb
      have hzwh := hb.size
      have HBwh := Lib.hid hb
      (try simp at hzwh hc hf)
      have hlwh : w.heap.size ≤ wh.heap.size := (by omega)
      (try simp only [World.size_alloc] at hr)
      have Rwh := Lib.hid hr
      clear hb hf hr
      have X1 : Hid (RdM wh _ _ L) := Lib.hid (Rwd.out.below (by (repeat' (first | (with_reducible exact Below.refl _ _) | (with_reducible refine Below.alloc ?_ ?_ _) | (with_reducible refine Below.setCell ?_ ?_ _) | (with_reducible refine Below.drew ?_) | (with_reducible refine below_drewN ?_ _) | (with_reducible refine Below.trans ?_ (Below.mono (Hid.out (by assumption)) ?_)) | omega | (simp; done) | (simp; omega)))))
      go_wp2_with fail
      refine (eqMS_same L _ _ L.length L.length (by omega) _ X1.out.inRow Rwh.out.inRow).mono ?_
      rintro e wi ⟨rfl, hb⟩
      obtain ⟨hc, hf⟩ := bcell hb
      have hzwi := hb.size
      have HBwi := Lib.hid hb
      (try simp at hzwi hc hf)
      have hlwi : w.heap.size < wi.heap.size := (by omega)
      clear hb hf
      have X2 : Hid (RdM wi _ _ L) := Lib.hid (X1.out.below (by (repeat' (first | (with_reducible exact Below.refl _ _) | (with_reducible refine Below.alloc ?_ ?_ _) | (with_reducible refine Below.setCell ?_ ?_ _) | (with_reducible refine Below.drew ?_) | (with_reducible refine below_drewN ?_ _) | (with_reducible refine Below.trans ?_ (Below.mono (Hid.out (by assumption)) ?_)) | omega | (simp; done) | (simp; omega)))))
      have G2 : Hid (RdM wi _ awf R) := Lib.hid (Rwf.out.below (by (repeat' (first | (with_reducible exact Below.refl _ _) | (with_reducible refine Below.alloc ?_ ?_ _) | (with_reducible refine Below.setCell ?_ ?_ _) | (with_reducible refine Below.drew ?_) | (with_reducible refine below_drewN ?_ _) | (with_reducible refine Below.trans ?_ (Below.mono (Hid.out (by assumption)) ?_)) | omega | (simp; done) | (simp; omega)))))
      go_wp2_with fail
      refine (markM_any L _ L.length _ 1 (by decide) (by decide) _ X2.out).mono ?_
      rintro e wj ⟨rfl, hr, hbut, hb⟩
      obtain ⟨hc, hf⟩ := bcell hb
      have hzwj := hb.size
      have HBwj := Lib.hid hb
      (try simp at hzwj hc hf)
      have hlwj : w.heap.size < wj.heap.size := (by omega)
      have Rwj := Lib.hid hr
      have BTwj := Lib.hid hbut
      clear hb hf hr hbut
      have G3 : Hid (RdM wj _ awf R) := Lib.hid (G2.out.but BTwj.out (by omega))
      have R3 : Hid (RdM wj _ awcc R) := Lib.hid (Rwcc.out.below (by (repeat' (first | (with_reducible exact Below.refl _ _) | (with_reducible refine Below.alloc ?_ ?_ _) | (with_reducible refine Below.setCell ?_ ?_ _) | (with_reducible refine Below.drew ?_) | (with_reducible refine below_drewN ?_ _) | (with_reducible refine Below.trans ?_ (Below.mono (Hid.out (by assumption)) ?_)) | omega | (simp; done) | (simp; omega)))))
      go_wp2_with fail
      refine (eqMS_same R awf awcc cwf cwcc hlen _ (G3.out).inRow (R3.out).inRow).mono ?_
      rintro e wk ⟨rfl, hb⟩
      obtain ⟨hc, hf⟩ := bcell hb
      have hzwk := hb.size
      have HBwk := Lib.hid hb
      (try simp at hzwk hc hf)
      have hlwk : w.heap.size < wk.heap.size := (by omega)
      clear hb hf
      have G4 : Hid (RdM wk _ awf R) := Lib.hid (G3.out.below (by (repeat' (first | (with_reducible exact Below.refl _ _) | (with_reducible refine Below.alloc ?_ ?_ _) | (with_reducible refine Below.setCell ?_ ?_ _) | (with_reducible refine Below.drew ?_) | (with_reducible refine below_drewN ?_ _) | (with_reducible refine Below.trans ?_ (Below.mono (Hid.out (by assumption)) ?_)) | omega | (simp; done) | (simp; omega)))))
      go_wp2_with fail
      refine (markM_any R awf cwf _ 1 (by decide) (by decide) _ G4.out).mono ?_
      rintro e wl ⟨rfl, hr, hbut, hb⟩
      obtain ⟨hc, hf⟩ := bcell hb
      have hzwl := hb.size
      have HBwl := Lib.hid hb
      (try simp at hzwl hc hf)
      have hlwl : w.heap.size < wl.heap.size := (by omega)
      have Rwl := Lib.hid hr
      have BTwl := Lib.hid hbut
      clear hb hf hr hbut
      go_wp2_with fail
      refine (heldM_any R.length awf cwf _ 1 (by decide) (by decide) _ Rwl.out).mono ?_
      rintro e wm ⟨rfl, hb⟩
      obtain ⟨hc, hf⟩ := bcell hb
      have hzwm := hb.size
      have HBwm := Lib.hid hb
      (try simp at hzwm hc hf)
      have hlwm : w.heap.size < wm.heap.size := (by omega)
      clear hb hf
      have hq : (1 + 6 * (R.length : Int) < 0) = False := by simp; omega
      go_wp2_with fail
      have HBXwm := Lib.hid (bel_at (show Below wg.heap.size wg wm by (repeat' (first | (with_reducible exact Below.refl _ _) | (with_reducible refine Below.alloc ?_ ?_ _) | (with_reducible refine Below.setCell ?_ ?_ _) | (with_reducible refine Below.drew ?_) | (with_reducible refine below_drewN ?_ _) | (with_reducible refine Below.trans ?_ (Below.mono (Hid.out (by assumption)) ?_)) | omega | (simp; done) | (simp; omega)))) HBXwg.out)
      have HMwm := Lib.hid (HMwg.out.below (show Below wg.heap.size wg wm by (repeat' (first | (with_reducible exact Below.refl _ _) | (with_reducible refine Below.alloc ?_ ?_ _) | (with_reducible refine Below.setCell ?_ ?_ _) | (with_reducible refine Below.drew ?_) | (with_reducible refine below_drewN ?_ _) | (with_reducible refine Below.trans ?_ (Below.mono (Hid.out (by assumption)) ?_)) | omega | (simp; done) | (simp; omega)))))
      have rb0 : ∀ z, Below wm.heap.size wm z → z.cell? ⟨w.heap.size, 0, none⟩ = some (.int .i64 q) := fun z h => by have := Joins.cell_of_block ((h.block w.heap.size (by omega)).trans HBXwm.out) 0; simpa using this
      have rb1 : ∀ z, Below wm.heap.size wm z → z.cell? ⟨w.heap.size, 1, none⟩ = some (.int .i64 (s 0)) := fun z h => by have := Joins.cell_of_block ((h.block w.heap.size (by omega)).trans HBXwm.out) 1; simpa using this
      have rb2 : ∀ z, Below wm.heap.size wm z → z.cell? ⟨w.heap.size, 2, none⟩ = some (.int .i64 (s 1)) := fun z h => by have := Joins.cell_of_block ((h.block w.heap.size (by omega)).trans HBXwm.out) 2; simpa using this
      have rb3 : ∀ z, Below wm.heap.size wm z → z.cell? ⟨w.heap.size, 3, none⟩ = some (.int .i64 (s 2)) := fun z h => by have := Joins.cell_of_block ((h.block w.heap.size (by omega)).trans HBXwm.out) 3; simpa using this
      have rb4 : ∀ z, Below wm.heap.size wm z → z.cell? ⟨w.heap.size, 4, none⟩ = some (.int .i64 (s 3)) := fun z h => by have := Joins.cell_of_block ((h.block w.heap.size (by omega)).trans HBXwm.out) 4; simpa using this
      have rb5 : ∀ z, Below wm.heap.size wm z → z.cell? ⟨w.heap.size, 5, none⟩ = some (.int .i64 (s 4)) := fun z h => by have := Joins.cell_of_block ((h.block w.heap.size (by omega)).trans HBXwm.out) 5; simpa using this
      go_cut [14, 15] from 79 to 86 (fun s1 s2 wx => ∃ ac cc, s1 = .slice ac R.length cc ∧ s2 = .int .i64 C ∧ RdM wx wm.heap.size ac R ∧ Below wm.heap.size wm wx)
      case first =>
        go_region_held3 (fun w' => Below wm.heap.size wm w') (first | (with_reducible assumption) | ((repeat' (first | (with_reducible exact Below.refl _ _) | (with_reducible refine Below.alloc ?_ ?_ _) | (with_reducible refine Below.setCell ?_ ?_ _) | (with_reducible refine Below.drew ?_) | (with_reducible refine below_drewN ?_ _) | (with_reducible refine Below.trans ?_ (Below.mono (Hid.out (by assumption)) ?_)) | omega | (simp; done) | (simp; omega))); done)) (first | (go_at_call 17; (with_reducible refine (toMS_any L hL a1 cap1 _ (HMwm.out.below (by (repeat' (first | (with_reducible exact Below.refl _ _) | (with_reducible refine Below.alloc ?_ ?_ _) | (with_reducible refine Below.setCell ?_ ?_ _) | (with_reducible refine Below.drew ?_) | (with_reducible refine below_drewN ?_ _) | (with_reducible refine Below.trans ?_ (Below.mono (Hid.out (by assumption)) ?_)) | omega | (simp; done) | (simp; omega)))))).mono ?_); rintro e wA ⟨_, rfl, hr, hb, rfl, hgA⟩; obtain ⟨hc, hf⟩ := bcell hb; have hzA := hb.size; have HbA := Lib.hid hb; (try simp at hzA hc hf); (try simp only [hdrew] at hr); have HRA := Lib.hid hr; have hlA : wm.heap.size ≤ wA.heap.size := (by omega); clear hb hr hf) | (go_at_call 18; (with_reducible refine (toMap_any q s _).mono ?_); rintro e wB ⟨rfl, hb⟩; (try simp only [mv, mcells]); obtain ⟨hc, hf⟩ := bcell hb; have hzB := hb.size; have HbB := Lib.hid hb; (try simp at hzB hc hf); have hlB : wm.heap.size ≤ wB.heap.size := (by omega); clear hb hf) | (go_at_call 38; (with_reducible refine (HI.out _ _ (HRA.out.below (by (repeat' (first | (with_reducible exact Below.refl _ _) | (with_reducible refine Below.alloc ?_ ?_ _) | (with_reducible refine Below.setCell ?_ ?_ _) | (with_reducible refine Below.drew ?_) | (with_reducible refine below_drewN ?_ _) | (with_reducible refine Below.trans ?_ (Below.mono (Hid.out (by assumption)) ?_)) | omega | (simp; done) | (simp; omega))))).inRow).mono ?_); rintro e wC ⟨aC, cC, rfl, hr, hb⟩; obtain ⟨hc, hf⟩ := bcell hb; have hzC := hb.size; have HbC := Lib.hid hb; (try simp at hzC hc hf); have HRC := Lib.hid hr; clear hr; have hlC : wm.heap.size ≤ wC.heap.size := (by omega); clear hb hf))
        all_goals (go_wp2_with fail)
        all_goals (go_meet)
        all_goals exact ⟨_, _, rfl, rfl, HRC.out.mono (by omega), by (repeat' (first | (with_reducible exact Below.refl _ _) | (with_reducible refine Below.alloc ?_ ?_ _) | (with_reducible refine Below.setCell ?_ ?_ _) | (with_reducible refine Below.drew ?_) | (with_reducible refine below_drewN ?_ _) | (with_reducible refine Below.trans ?_ (Below.mono (Hid.out (by assumption)) ?_)) | omega | (simp; done) | (simp; omega)))⟩
      case rest =>
        obtain ⟨awp, cwp, rfl, rfl, hr, hb⟩ := hcut
        obtain ⟨wp, hwp⟩ : ∃ wp, wp = wc := ⟨_, rfl⟩
        subst hwp
        have HBwp := Lib.hid hb
        have hzwp := hb.size
        have hlwp : w.heap.size < wp.heap.size := (by omega)
        have Rwp := Lib.hid hr
        clear hb hr rb0 rb1 rb2 rb3 rb4 rb5
        have R5 : Hid (RdM wp _ awcc R) := Lib.hid (Rwcc.out.below (by (repeat' (first | (with_reducible exact Below.refl _ _) | (with_reducible refine Below.alloc ?_ ?_ _) | (with_reducible refine Below.setCell ?_ ?_ _) | (with_reducible refine Below.drew ?_) | (with_reducible refine below_drewN ?_ _) | (with_reducible refine Below.trans ?_ (Below.mono (Hid.out (by assumption)) ?_)) | omega | (simp; done) | (simp; omega)))))
        go_wp2_with fail
        refine (eqMS_same R awp awcc cwp cwcc hlen _ (Rwp.out).inRow (R5.out).inRow).mono ?_
        rintro e wq ⟨rfl, hb⟩
        obtain ⟨hc, hf⟩ := bcell hb
        have hzwq := hb.size
        have HBwq := Lib.hid hb
        (try simp at hzwq hc hf)
        have hlwq : w.heap.size < wq.heap.size := (by omega)
        clear hb hf
        have G6 : Hid (RdM wq _ awf (mkM R.length 1)) := Lib.hid (Rwl.out.below (by (repeat' (first | (with_reducible exact Below.refl _ _) | (with_reducible refine Below.alloc ?_ ?_ _) | (with_reducible refine Below.setCell ?_ ?_ _) | (with_reducible refine Below.drew ?_) | (with_reducible refine below_drewN ?_ _) | (with_reducible refine Below.trans ?_ (Below.mono (Hid.out (by assumption)) ?_)) | omega | (simp; done) | (simp; omega)))))
        go_wp2_with fail
        refine (heldM_any R.length awf cwf _ 1 (by decide) (by decide) _ G6.out).mono ?_
        rintro e wr ⟨rfl, hb⟩
        obtain ⟨hc, hf⟩ := bcell hb
        have hzwr := hb.size
        have HBwr := Lib.hid hb
        (try simp at hzwr hc hf)
        have hlwr : w.heap.size < wr.heap.size := (by omega)
        clear hb hf
        go_wp2_with fail
        go_ret
        refine ⟨rfl, ?_⟩
        (repeat' (first | (with_reducible exact Below.refl _ _) | (with_reducible refine Below.alloc ?_ ?_ _) | (with_reducible refine Below.setCell ?_ ?_ _) | (with_reducible refine Below.drew ?_) | (with_reducible refine below_drewN ?_ _) | (with_reducible refine Below.trans ?_ (Below.mono (Hid.out (by assumption)) ?_)) | omega | (simp; done) | (simp; omega)))
  · have hbig : 1048576 < L.length := by omega
    simp only [mv, mcells]
    go_enter Try.func11, Try.ntmps11
    go_wp2_with (go_at_call 15; (with_reducible refine (sz_big L.length a1 cap1 hbig H9.out _).mono ?_); rintro e w ⟨rfl, rfl⟩)
    go_ret
    refine ⟨rfl, ?_⟩
    (repeat' (first | (with_reducible exact Below.refl _ _) | (with_reducible refine Below.alloc ?_ ?_ _) | (with_reducible refine Below.setCell ?_ ?_ _) | (with_reducible refine Below.drew ?_) | (with_reducible refine below_drewN ?_ _) | (with_reducible refine Below.trans ?_ (Below.mono (Hid.out (by assumption)) ?_)) | omega | (simp; done) | (simp; omega)))

end LFnExactLeftIdeal

namespace LFnExactLeftIdeal
set_option maxRecDepth 100000 in
theorem lifted (os : Os) (started : os.Started) (H : Type) (enc : TypeId × Value → H) :
    ReturnsInHanded {} Try.checked os 11 .any (Rows.fnExactLeftIdealSpec.pre6 enc Try.prog Try.f11 Rows.fnExactLeftIdealRow.domain false) (Rows.fnExactLeftIdealSpec.post enc Try.prog Try.f11 false true false false) := by
  refine returnsInHanded_of_change (C := Try.checked) own started (by kernel_rfl) Try.func11
    (ChangeSpec.witness6 (enc := enc) (C := Try.checked) false ⟨#[], #[.slice none 0 0, .agg #[.int .i64 0, .int .i64 0, .int .i64 0, .int .i64 0, .int .i64 0, .int .i64 0]], []⟩ 8 (by kernel_rfl) (by kernel_rfl) (by kernel_rfl) (by kernel_rfl)) ?_
  intro W base args ds gs before hval0 hW _ _
  have hval : ∀ (j : Nat) t v, Try.f11.params[j]? = some t → args[j]? = some v → Value.okWide Try.prog W .any base t v := hval0
  have hW' := hW
  obtain ⟨p, q, hA0, hV, rfl, hfz, hnd⟩ := hW
  have hA : DataW.TrodAll enc Try.prog W 0 (fun _ => true) true Try.f11.params.toList args.toList ds p := hA0
  rw [Try.params11] at hA hval
  obtain ⟨v0, vs0, d0, ds0, p0, q0, hargs, rfl, rfl, h0, r0⟩ := trodAll_cons hA
  obtain ⟨v1, vs1, d1, ds1, p1, q1, rfl, rfl, rfl, h1, r1⟩ := trodAll_cons r0
  obtain ⟨rfl, rfl, rfl⟩ := trodAll_nil r1
  obtain rfl : args = #[v0, v1] := by cases args; simp_all
  obtain ⟨rfl, rfl⟩ := trodVars_none hV
  have k0 := h0
  have lt0 : ∀ x ∈ p0, x.block < W.heap.size := by obtain ⟨m, hm⟩ := k0; exact DataW.trod_lt m _ _ _ hm
  obtain ⟨a0, len0, cap0, rfl⟩ := okWide_slice Try.underlying22 (hval 0 22 v0 rfl rfl)
  obtain ⟨z0, w0⟩ := open_rowM h0
  have k1 := h1
  have lt1 : ∀ x ∈ p1, x.block < W.heap.size := by obtain ⟨m, hm⟩ := k1; exact DataW.trod_lt m _ _ _ hm
  obtain ⟨a1, t1, rfl, wa1, wt1⟩ := open_lmap (hval 1 25 v1 rfl rfl) h1
  clear hA0 hval0
  refine (ex_any W a0 len0 cap0 z0 w0 a1 t1 wa1 wt1).mono fun e W' ⟨he, bel⟩ => ?_
  subst he
  exact ⟨_, rfl, _, _, _, [], _, [], hW', trodAll_mk1 (shut_bool Try.underlying4 _), (trodAll_cons_mk (Below.trod laidOut (by kernel_rfl) (of_decide_eq_true (by kernel_rfl)) k0 bel lt0) (trodAll_cons_mk (Below.trod laidOut (by kernel_rfl) (of_decide_eq_true (by kernel_rfl)) k1 bel lt1) trodAll_mk0)), rfl, bel.frame _, fun h => by cases h⟩
theorem joined : joinedFacts Try.pinned.checked.prog 11 Try.f11 Rows.fnExactLeftIdealSpec Rows.fnExactLeftIdealRow = true := by
  unfold joinedFacts
  simp only [Bool.and_eq_true]
  repeat' apply And.intro
  iterate 25 kernel_rfl
  exact mk_enter
  exact mk_lifts
  exact mk_make
  iterate 4 kernel_rfl
theorem over : Rows.fnExactLeftIdealRow.holds Try.pinned (OpenSpec.ofChange Rows.fnExactLeftIdealSpec) :=
  OpenClaim.holds_of_wide 11 Try.f11 rfl rfl rfl rfl rfl rfl rfl ⟨rfl, rfl, rfl, rfl, rfl⟩ rfl rfl rfl rfl rfl (by kernel_rfl) Try.func11 joined
    (of_decide_eq_true (by kernel_rfl)) (by unfold Func.isWrapper; rw [if_neg (of_decide_eq_false (by kernel_rfl))]; exact ⟨rfl, rfl⟩)
    (fun os started H enc _ => lifted os started H enc)
/-- The statement of FnExactLeftIdeal. -/
theorem proved : Rows.FnExactLeftIdealSaid := over
#print axioms proved
end LFnExactLeftIdeal

end Go.Proofs.Ytiogagaclhjdaaa
