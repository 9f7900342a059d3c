/- The law FnExactLeastIdeal is true at every input: impl.LeastIdeal and spec.LeastIdeal give the same answer and the same code, in memory of its own, and the list that came in stays as it was. No conditions. -/
import Derived.Test.YtiogagaclhjdaaaMk
import Derived.Test.YtiogagaclhjdaaaBase
import Derived.Test.YtiogagaclhjdaaaLea
import Derived.Test.YtiogagaclhjdaaaRowM
import Derived.Test.YtiogagaclhjdaaaMark
namespace Go.Proofs.Ytiogagaclhjdaaa
open Go.ChangeShapes Go.WideShapes Go.ChangeAt Go.RowKit
namespace LFnExactLeastIdeal

set_option maxRecDepth 100000 in
set_option maxHeartbeats 2000000 in
theorem ex_any (w : World) (a1 : Option Addr) (len1 cap1 : Nat) (L : List MapN) (hw1 : L.length = len1 ∧ InRowM w a1 L ∧ (a1 = none → cap1 = 0) ∧ len1 ≤ maxLen) :
    Calls Try.prog 13 #[.slice a1 len1 cap1] w fun e w' => e = .returned (.bool true) ∧ Below w.heap.size w w' := by
  obtain ⟨rfl, h1, _, h9⟩ := hw1
  have HM := Lib.hid h1
  have H9 := Lib.hid h9
  clear h1 h9
  by_cases hL : L.length ≤ 1048576
  · have hng : ¬ ((1048576 : Int) - (L.length : Int) < 0) := by omega
    have hq0 : (1 + 6 * (L.length : Int) < 0) = False := by simp; omega
    have HS := Lib.hid fun w (g1 : Nat) h1 => slstI_any (some ⟨g1, 0, none⟩) L.length L hL w h1
    have HI := Lib.hid fun w (g1 : Nat) h1 => ilstI_any (some ⟨g1, 0, none⟩) L.length L (fun e => by cases e) hL w h1
    generalize alL lstC L = R at *
    generalize elsC L [] = C at *
    go_enter Try.func13, Try.ntmps13
    go_wp2_with (go_at_call 15; (with_reducible refine (sz_any L.length a1 cap1 hL _).mono ?_); rintro e w ⟨rfl, rfl⟩)
    refine (toMS_any L hL a1 cap1 _ HM.out).mono ?_
    rintro e wa ⟨_, rfl, hr, hb, rfl, hgrwa⟩
    obtain ⟨hc, hf⟩ := bcell hb
    have hzwa := hb.size
    have HBwa := Lib.hid hb
    (try simp at hzwa hc hf)
    have hlwa : w.heap.size < wa.heap.size := (by omega)
    (try simp only [World.size_alloc] at hr)
    have Rwa := Lib.hid hr
    clear hb hf hr
    go_wp2_with fail
    refine (HS.out _ _ Rwa.out.inRow).mono ?_
    rintro e wc ⟨awc, cwc, rfl, hr, hb⟩
    obtain ⟨hc, hf⟩ := bcell hb
    have hzwc := hb.size
    have HBwc := Lib.hid hb
    (try simp at hzwc hc hf)
    have hlwc : w.heap.size < wc.heap.size := (by omega)
    have Rwc := Lib.hid hr
    clear hb hf hr
    go_wp2_with fail
    refine (toMS_any L hL a1 cap1 _ (HM.out.below (by (repeat' (first | (with_reducible exact Below.refl _ _) | (with_reducible refine Below.alloc ?_ ?_ _) | (with_reducible refine Below.setCell ?_ ?_ _) | (with_reducible refine Below.drew ?_) | (with_reducible refine below_drewN ?_ _) | (with_reducible refine Below.trans ?_ (Below.mono (Hid.out (by assumption)) ?_)) | omega | (simp; done) | (simp; omega)))))).mono ?_
    rintro e wd ⟨_, rfl, hr, hb, rfl, hgrwd⟩
    obtain ⟨hc, hf⟩ := bcell hb
    have hzwd := hb.size
    have HBwd := Lib.hid hb
    (try simp at hzwd hc hf)
    have hlwd : w.heap.size < wd.heap.size := (by omega)
    (try simp only [World.size_alloc] at hr)
    have Rwd := Lib.hid hr
    clear hb hf hr
    go_wp2_with fail
    refine (HI.out _ _ Rwd.out.inRow).mono ?_
    rintro e wf ⟨awf, cwf, rfl, hr, hb⟩
    obtain ⟨hc, hf⟩ := bcell hb
    have hzwf := hb.size
    have HBwf := Lib.hid hb
    (try simp at hzwf hc hf)
    have hlwf : w.heap.size < wf.heap.size := (by omega)
    have Rwf := Lib.hid hr
    clear hb hf hr
    have R1 : RdM wf _ awc R := Rwc.out.below (by (repeat' (first | (with_reducible exact Below.refl _ _) | (with_reducible refine Below.alloc ?_ ?_ _) | (with_reducible refine Below.setCell ?_ ?_ _) | (with_reducible refine Below.drew ?_) | (with_reducible refine below_drewN ?_ _) | (with_reducible refine Below.trans ?_ (Below.mono (Hid.out (by assumption)) ?_)) | omega | (simp; done) | (simp; omega))))
    have hlen : R.length ≤ 2000000 := R1.1
    have R1 := Lib.hid R1
    go_wp2_with fail
    refine (eqMS_same R awf awc cwf cwc hlen _ (Rwf.out).inRow (R1.out).inRow).mono ?_
    rintro e wg ⟨rfl, hb⟩
    obtain ⟨hc, hf⟩ := bcell hb
    have hzwg := hb.size
    have HBwg := Lib.hid hb
    (try simp at hzwg hc hf)
    have hlwg : w.heap.size < wg.heap.size := (by omega)
    clear hb hf
    go_wp2_with fail
    refine (toMS_any L hL a1 cap1 _ (HM.out.below (by (repeat' (first | (with_reducible exact Below.refl _ _) | (with_reducible refine Below.alloc ?_ ?_ _) | (with_reducible refine Below.setCell ?_ ?_ _) | (with_reducible refine Below.drew ?_) | (with_reducible refine below_drewN ?_ _) | (with_reducible refine Below.trans ?_ (Below.mono (Hid.out (by assumption)) ?_)) | omega | (simp; done) | (simp; omega)))))).mono ?_
    rintro e wh ⟨_, rfl, hr, hb, rfl, hgrwh⟩
    obtain ⟨hc, hf⟩ := bcell hb
    have hzwh := hb.size
    have HBwh := Lib.hid hb
    (try simp at hzwh hc hf)
    have hlwh : w.heap.size < wh.heap.size := (by omega)
    (try simp only [World.size_alloc] at hr)
    have Rwh := Lib.hid hr
    clear hb hf hr
    have X1 : Hid (RdM wh _ _ L) := Lib.hid (Rwd.out.below (by (repeat' (first | (with_reducible exact Below.refl _ _) | (with_reducible refine Below.alloc ?_ ?_ _) | (with_reducible refine Below.setCell ?_ ?_ _) | (with_reducible refine Below.drew ?_) | (with_reducible refine below_drewN ?_ _) | (with_reducible refine Below.trans ?_ (Below.mono (Hid.out (by assumption)) ?_)) | omega | (simp; done) | (simp; omega)))))
    go_wp2_with fail
    refine (eqMS_same L _ _ L.length L.length (by omega) _ X1.out.inRow Rwh.out.inRow).mono ?_
    rintro e wi ⟨rfl, hb⟩
    obtain ⟨hc, hf⟩ := bcell hb
    have hzwi := hb.size
    have HBwi := Lib.hid hb
    (try simp at hzwi hc hf)
    have hlwi : w.heap.size < wi.heap.size := (by omega)
    clear hb hf
    have X2 : Hid (RdM wi _ _ L) := Lib.hid (X1.out.below (by (repeat' (first | (with_reducible exact Below.refl _ _) | (with_reducible refine Below.alloc ?_ ?_ _) | (with_reducible refine Below.setCell ?_ ?_ _) | (with_reducible refine Below.drew ?_) | (with_reducible refine below_drewN ?_ _) | (with_reducible refine Below.trans ?_ (Below.mono (Hid.out (by assumption)) ?_)) | omega | (simp; done) | (simp; omega)))))
    have G2 : Hid (RdM wi _ awf R) := Lib.hid (Rwf.out.below (by (repeat' (first | (with_reducible exact Below.refl _ _) | (with_reducible refine Below.alloc ?_ ?_ _) | (with_reducible refine Below.setCell ?_ ?_ _) | (with_reducible refine Below.drew ?_) | (with_reducible refine below_drewN ?_ _) | (with_reducible refine Below.trans ?_ (Below.mono (Hid.out (by assumption)) ?_)) | omega | (simp; done) | (simp; omega)))))
    go_wp2_with fail
    refine (markM_any L _ L.length _ 1 (by decide) (by decide) _ X2.out).mono ?_
    rintro e wj ⟨rfl, hr, hbut, hb⟩
    obtain ⟨hc, hf⟩ := bcell hb
    have hzwj := hb.size
    have HBwj := Lib.hid hb
    (try simp at hzwj hc hf)
    have hlwj : w.heap.size < wj.heap.size := (by omega)
    have Rwj := Lib.hid hr
    have BTwj := Lib.hid hbut
    clear hb hf hr hbut
    have G3 : Hid (RdM wj _ awf R) := Lib.hid (G2.out.but BTwj.out (by omega))
    have R3 : Hid (RdM wj _ awc R) := Lib.hid (Rwc.out.below (by (repeat' (first | (with_reducible exact Below.refl _ _) | (with_reducible refine Below.alloc ?_ ?_ _) | (with_reducible refine Below.setCell ?_ ?_ _) | (with_reducible refine Below.drew ?_) | (with_reducible refine below_drewN ?_ _) | (with_reducible refine Below.trans ?_ (Below.mono (Hid.out (by assumption)) ?_)) | omega | (simp; done) | (simp; omega)))))
    go_wp2_with fail
    refine (eqMS_same R awf awc cwf cwc hlen _ (G3.out).inRow (R3.out).inRow).mono ?_
    rintro e wk ⟨rfl, hb⟩
    obtain ⟨hc, hf⟩ := bcell hb
    have hzwk := hb.size
    have HBwk := Lib.hid hb
    (try simp at hzwk hc hf)
    have hlwk : w.heap.size < wk.heap.size := (by omega)
    clear hb hf
    have G4 : Hid (RdM wk _ awf R) := Lib.hid (G3.out.below (by (repeat' (first | (with_reducible exact Below.refl _ _) | (with_reducible refine Below.alloc ?_ ?_ _) | (with_reducible refine Below.setCell ?_ ?_ _) | (with_reducible refine Below.drew ?_) | (with_reducible refine below_drewN ?_ _) | (with_reducible refine Below.trans ?_ (Below.mono (Hid.out (by assumption)) ?_)) | omega | (simp; done) | (simp; omega)))))
    go_wp2_with fail
    refine (markM_any R awf cwf _ 1 (by decide) (by decide) _ G4.out).mono ?_
    rintro e wl ⟨rfl, hr, hbut, hb⟩
    obtain ⟨hc, hf⟩ := bcell hb
    have hzwl := hb.size
    have HBwl := Lib.hid hb
    (try simp at hzwl hc hf)
    have hlwl : w.heap.size < wl.heap.size := (by omega)
    have Rwl := Lib.hid hr
    have BTwl := Lib.hid hbut
    clear hb hf hr hbut
    go_wp2_with fail
    refine (heldM_any R.length awf cwf _ 1 (by decide) (by decide) _ Rwl.out).mono ?_
    rintro e wm ⟨rfl, hb⟩
    obtain ⟨hc, hf⟩ := bcell hb
    have hzwm := hb.size
    have HBwm := Lib.hid hb
    (try simp at hzwm hc hf)
    have hlwm : w.heap.size < wm.heap.size := (by omega)
    clear hb hf
    have hq : (1 + 6 * (R.length : Int) < 0) = False := by simp; omega
    go_wp2_with fail
    refine (toMS_any L hL a1 cap1 _ (HM.out.below (by (repeat' (first | (with_reducible exact Below.refl _ _) | (with_reducible refine Below.alloc ?_ ?_ _) | (with_reducible refine Below.setCell ?_ ?_ _) | (with_reducible refine Below.drew ?_) | (with_reducible refine below_drewN ?_ _) | (with_reducible refine Below.trans ?_ (Below.mono (Hid.out (by assumption)) ?_)) | omega | (simp; done) | (simp; omega)))))).mono ?_
    rintro e wo ⟨_, rfl, hr, hb, rfl, hgrwo⟩
    obtain ⟨hc, hf⟩ := bcell hb
    have hzwo := hb.size
    have HBwo := Lib.hid hb
    (try simp at hzwo hc hf)
    have hlwo : w.heap.size < wo.heap.size := (by omega)
    (try simp only [World.size_alloc] at hr)
    have Rwo := Lib.hid hr
    clear hb hf hr
    go_wp2_with fail
    refine (HI.out _ _ Rwo.out.inRow).mono ?_
    rintro e wp ⟨awp, cwp, rfl, hr, hb⟩
    obtain ⟨hc, hf⟩ := bcell hb
    have hzwp := hb.size
    have HBwp := Lib.hid hb
    (try simp at hzwp hc hf)
    have hlwp : w.heap.size < wp.heap.size := (by omega)
    have Rwp := Lib.hid hr
    clear hb hf hr
    have R5 : Hid (RdM wp _ awc R) := Lib.hid (Rwc.out.below (by (repeat' (first | (with_reducible exact Below.refl _ _) | (with_reducible refine Below.alloc ?_ ?_ _) | (with_reducible refine Below.setCell ?_ ?_ _) | (with_reducible refine Below.drew ?_) | (with_reducible refine below_drewN ?_ _) | (with_reducible refine Below.trans ?_ (Below.mono (Hid.out (by assumption)) ?_)) | omega | (simp; done) | (simp; omega)))))
    go_wp2_with fail
    refine (eqMS_same R awp awc cwp cwc hlen _ (Rwp.out).inRow (R5.out).inRow).mono ?_
    rintro e wq ⟨rfl, hb⟩
    obtain ⟨hc, hf⟩ := bcell hb
    have hzwq := hb.size
    have HBwq := Lib.hid hb
    (try simp at hzwq hc hf)
    have hlwq : w.heap.size < wq.heap.size := (by omega)
    clear hb hf
    have G6 : Hid (RdM wq _ awf (mkM R.length 1)) := Lib.hid (Rwl.out.below (by (repeat' (first | (with_reducible exact Below.refl _ _) | (with_reducible refine Below.alloc ?_ ?_ _) | (with_reducible refine Below.setCell ?_ ?_ _) | (with_reducible refine Below.drew ?_) | (with_reducible refine below_drewN ?_ _) | (with_reducible refine Below.trans ?_ (Below.mono (Hid.out (by assumption)) ?_)) | omega | (simp; done) | (simp; omega)))))
    go_wp2_with fail
    refine (heldM_any R.length awf cwf _ 1 (by decide) (by decide) _ G6.out).mono ?_
    rintro e wr ⟨rfl, hb⟩
    obtain ⟨hc, hf⟩ := bcell hb
    have hzwr := hb.size
    have HBwr := Lib.hid hb
    (try simp at hzwr hc hf)
    have hlwr : w.heap.size < wr.heap.size := (by omega)
    clear hb hf
    go_wp2_with fail
    go_ret
    refine ⟨rfl, ?_⟩
    (repeat' (first | (with_reducible exact Below.refl _ _) | (with_reducible refine Below.alloc ?_ ?_ _) | (with_reducible refine Below.setCell ?_ ?_ _) | (with_reducible refine Below.drew ?_) | (with_reducible refine below_drewN ?_ _) | (with_reducible refine Below.trans ?_ (Below.mono (Hid.out (by assumption)) ?_)) | omega | (simp; done) | (simp; omega)))
  · have hbig : 1048576 < L.length := by omega
    go_enter Try.func13, Try.ntmps13
    go_wp2_with (go_at_call 15; (with_reducible refine (sz_big L.length a1 cap1 hbig H9.out _).mono ?_); rintro e w ⟨rfl, rfl⟩)
    go_ret
    exact ⟨rfl, Below.refl _ _⟩

end LFnExactLeastIdeal

namespace LFnExactLeastIdeal
set_option maxRecDepth 100000 in
theorem lifted (os : Os) (started : os.Started) (H : Type) (enc : TypeId × Value → H) :
    ReturnsInHanded {} Try.checked os 13 .any (Rows.fnExactLeastIdealSpec.pre6 enc Try.prog Try.f13 Rows.fnExactLeastIdealRow.domain false) (Rows.fnExactLeastIdealSpec.post enc Try.prog Try.f13 false true false false) := by
  refine returnsInHanded_of_change (C := Try.checked) own started (by kernel_rfl) Try.func13
    (ChangeSpec.witness6 (enc := enc) (C := Try.checked) false ⟨#[], #[.slice none 0 0], []⟩ 8 (by kernel_rfl) (by kernel_rfl) (by kernel_rfl) (by kernel_rfl)) ?_
  intro W base args ds gs before hval0 hW _ _
  have hval : ∀ (j : Nat) t v, Try.f13.params[j]? = some t → args[j]? = some v → Value.okWide Try.prog W .any base t v := hval0
  have hW' := hW
  obtain ⟨p, q, hA0, hV, rfl, hfz, hnd⟩ := hW
  have hA : DataW.TrodAll enc Try.prog W 0 (fun _ => true) true Try.f13.params.toList args.toList ds p := hA0
  rw [Try.params13] at hA hval
  obtain ⟨v0, vs0, d0, ds0, p0, q0, hargs, rfl, rfl, h0, r0⟩ := trodAll_cons hA
  obtain ⟨rfl, rfl, rfl⟩ := trodAll_nil r0
  obtain rfl : args = #[v0] := by cases args; simp_all
  obtain ⟨rfl, rfl⟩ := trodVars_none hV
  have k0 := h0
  have lt0 : ∀ x ∈ p0, x.block < W.heap.size := by obtain ⟨m, hm⟩ := k0; exact DataW.trod_lt m _ _ _ hm
  obtain ⟨a0, len0, cap0, rfl⟩ := okWide_slice Try.underlying22 (hval 0 22 v0 rfl rfl)
  obtain ⟨z0, w0⟩ := open_rowM h0
  clear hA0 hval0
  refine (ex_any W a0 len0 cap0 z0 w0).mono fun e W' ⟨he, bel⟩ => ?_
  subst he
  exact ⟨_, rfl, _, _, _, [], _, [], hW', trodAll_mk1 (shut_bool Try.underlying4 _), (trodAll_cons_mk (Below.trod laidOut (by kernel_rfl) (of_decide_eq_true (by kernel_rfl)) k0 bel lt0) trodAll_mk0), rfl, bel.frame _, fun h => by cases h⟩
theorem joined : joinedFacts Try.pinned.checked.prog 13 Try.f13 Rows.fnExactLeastIdealSpec Rows.fnExactLeastIdealRow = true := by
  unfold joinedFacts
  simp only [Bool.and_eq_true]
  repeat' apply And.intro
  iterate 25 kernel_rfl
  exact mk_enter
  exact mk_lifts
  exact mk_make
  iterate 4 kernel_rfl
theorem over : Rows.fnExactLeastIdealRow.holds Try.pinned (OpenSpec.ofChange Rows.fnExactLeastIdealSpec) :=
  OpenClaim.holds_of_wide 13 Try.f13 rfl rfl rfl rfl rfl rfl rfl ⟨rfl, rfl, rfl, rfl, rfl⟩ rfl rfl rfl rfl rfl (by kernel_rfl) Try.func13 joined
    (of_decide_eq_true (by kernel_rfl)) (by unfold Func.isWrapper; rw [if_neg (of_decide_eq_false (by kernel_rfl))]; exact ⟨rfl, rfl⟩)
    (fun os started H enc _ => lifted os started H enc)
/-- The statement of FnExactLeastIdeal. -/
theorem proved : Rows.FnExactLeastIdealSaid := over
#print axioms proved
end LFnExactLeastIdeal

end Go.Proofs.Ytiogagaclhjdaaa
