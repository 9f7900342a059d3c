/- The law FnExactImageOf is true at every input: impl.ImageOf and spec.ImageOf give the same code and the same list, in new memory, and the list that came in stays as it was. No conditions. -/
import Derived.Test.YtaabenkbcbpccaaBase
import Derived.Test.YtaabenkbcbpccaaMade
import Derived.Test.YtaabenkbcbpccaaImsI
import Derived.Test.YtaabenkbcbpccaaRowS
namespace Go.Proofs.Ytaabenkbcbpccaa
open Go.ChangeShapes Go.WideShapes Go.ChangeAt Go.RowKit
namespace LFnExactImageOf

set_option maxRecDepth 100000 in
set_option maxHeartbeats 2000000 in
theorem ex_any (w : World) (p : Int) (t : Nat → Int) (_ : (Lit.int .i64 p).wf = true) (_ : ∀ i, i < 5 → (Lit.int .i64 (t i)).wf = true) (a : Option Addr) (len cap : Nat) (L : List Int) (hw : L.length = len ∧ InRow w a L) :
    Calls Try.prog 4 #[mv p t, .slice a len cap] w fun e w' => e = .returned (.bool true) ∧ Below w.heap.size w w' := by
  obtain ⟨rfl, h⟩ := hw
  have HN := Lib.hid h
  clear h
  by_cases hL1 : L.length ≤ 1048576
  · have hgt : ¬ (1048576 < (L.length : Int)) := by omega
    have HS := Lib.hid fun w a c h => sIms_any p t L hL1 a c w h
    have HI := Lib.hid fun w a c h => iIms_any p t L hL1 a c w h
    generalize imsL p t L = R at *
    generalize setC p t L = C at *
    simp only [mv, mcells] at *
    go_enter Try.func4, Try.ntmps4
    go_wp2_with fail
    refine (toMap_any p t _).mono ?_
    rintro e wa ⟨rfl, hb⟩
    obtain ⟨hc, hf⟩ := bcell hb
    have hzwa := hb.size
    have HBwa := Lib.hid hb
    (try simp at hzwa hc hf)
    have hlwa : w.heap.size < wa.heap.size := (by omega)
    clear hb hf
    simp only [mv, mcells]
    go_wp2_with fail
    refine (toS_any L hL1 a cap _ (HN.out.below (by (repeat' (first | (with_reducible exact Below.refl _ _) | (with_reducible refine Below.alloc ?_ ?_ _) | (with_reducible refine Below.setCell ?_ ?_ _) | (with_reducible refine Below.drew ?_) | (with_reducible refine below_drewN ?_ _) | (with_reducible refine Below.trans ?_ (Below.mono (Hid.out (by assumption)) ?_)) | omega | (simp; done) | (simp; omega)))))).mono ?_
    rintro e wb ⟨_, rfl, hr, hb, rfl, hgrwb⟩
    obtain ⟨hc, hf⟩ := bcell hb
    have hzwb := hb.size
    have HBwb := Lib.hid hb
    (try simp at hzwb hc hf)
    have hlwb : w.heap.size < wb.heap.size := (by omega)
    have Rwb := Lib.hid hr
    clear hb hf hr
    go_wp2_with fail
    refine (HS.out _ _ L.length Rwb.out.inRow).mono ?_
    rintro e wc ⟨awc, cwc, rfl, hr, hb⟩
    obtain ⟨hc, hf⟩ := bcell hb
    have hzwc := hb.size
    have HBwc := Lib.hid hb
    (try simp at hzwc hc hf)
    have hlwc : w.heap.size < wc.heap.size := (by omega)
    have Rwc := Lib.hid hr
    clear hb hf hr
    go_wp2_with fail
    refine (toS_any L hL1 a cap _ (HN.out.below (by (repeat' (first | (with_reducible exact Below.refl _ _) | (with_reducible refine Below.alloc ?_ ?_ _) | (with_reducible refine Below.setCell ?_ ?_ _) | (with_reducible refine Below.drew ?_) | (with_reducible refine below_drewN ?_ _) | (with_reducible refine Below.trans ?_ (Below.mono (Hid.out (by assumption)) ?_)) | omega | (simp; done) | (simp; omega)))))).mono ?_
    rintro e wd ⟨_, rfl, hr, hb, rfl, hgrwd⟩
    obtain ⟨hc, hf⟩ := bcell hb
    have hzwd := hb.size
    have HBwd := Lib.hid hb
    (try simp at hzwd hc hf)
    have hlwd : w.heap.size < wd.heap.size := (by omega)
    have Rwd := Lib.hid hr
    clear hb hf hr
    go_wp2_with fail
    refine (toMap_any p t _).mono ?_
    rintro e we ⟨rfl, hb⟩
    obtain ⟨hc, hf⟩ := bcell hb
    have hzwe := hb.size
    have HBwe := Lib.hid hb
    (try simp at hzwe hc hf)
    have hlwe : w.heap.size < we.heap.size := (by omega)
    clear hb hf
    simp only [mv, mcells]
    have X0 : Hid (Rd we wc.heap.size (some ⟨wc.heap.size, 0, none⟩) L) := Lib.hid (Rwd.out.below (by (repeat' (first | (with_reducible exact Below.refl _ _) | (with_reducible refine Below.alloc ?_ ?_ _) | (with_reducible refine Below.setCell ?_ ?_ _) | (with_reducible refine Below.drew ?_) | (with_reducible refine below_drewN ?_ _) | (with_reducible refine Below.trans ?_ (Below.mono (Hid.out (by assumption)) ?_)) | omega | (simp; done) | (simp; omega)))))
    have hce : wc.heap.size < we.heap.size := (by omega)
    go_wp2_with fail
    refine (HI.out _ _ L.length X0.out.inRow).mono ?_
    rintro e wf ⟨awf, cwf, rfl, hr, hb⟩
    obtain ⟨hc, hf⟩ := bcell hb
    have hzwf := hb.size
    have HBwf := Lib.hid hb
    (try simp at hzwf hc hf)
    have hlwf : w.heap.size < wf.heap.size := (by omega)
    have Rwf := Lib.hid hr
    clear hb hf hr
    have R1 : Rd wf _ awc R := Rwc.out.below (by (repeat' (first | (with_reducible exact Below.refl _ _) | (with_reducible refine Below.alloc ?_ ?_ _) | (with_reducible refine Below.setCell ?_ ?_ _) | (with_reducible refine Below.drew ?_) | (with_reducible refine below_drewN ?_ _) | (with_reducible refine Below.trans ?_ (Below.mono (Hid.out (by assumption)) ?_)) | omega | (simp; done) | (simp; omega))))
    have hlen : R.length ≤ 2000000 := R1.1
    have R1 := Lib.hid R1
    go_wp2_with fail
    refine (eqS_same R awf awc cwf cwc _ _ _ Rwf.out R1.out).mono ?_
    rintro e wg ⟨rfl, hb⟩
    obtain ⟨hc, hf⟩ := bcell hb
    have hzwg := hb.size
    have HBwg := Lib.hid hb
    (try simp at hzwg hc hf)
    have hlwg : w.heap.size < wg.heap.size := (by omega)
    clear hb hf
    go_wp2_with fail
    refine (toS_any L hL1 a cap _ (HN.out.below (by (repeat' (first | (with_reducible exact Below.refl _ _) | (with_reducible refine Below.alloc ?_ ?_ _) | (with_reducible refine Below.setCell ?_ ?_ _) | (with_reducible refine Below.drew ?_) | (with_reducible refine below_drewN ?_ _) | (with_reducible refine Below.trans ?_ (Below.mono (Hid.out (by assumption)) ?_)) | omega | (simp; done) | (simp; omega)))))).mono ?_
    rintro e wh ⟨_, rfl, hr, hb, rfl, hgrwh⟩
    obtain ⟨hc, hf⟩ := bcell hb
    have hzwh := hb.size
    have HBwh := Lib.hid hb
    (try simp at hzwh hc hf)
    have hlwh : w.heap.size < wh.heap.size := (by omega)
    have Rwh := Lib.hid hr
    clear hb hf hr
    have X1 : Hid (Rd wh wc.heap.size (some ⟨wc.heap.size, 0, none⟩) L) := Lib.hid (Rwd.out.below (by (repeat' (first | (with_reducible exact Below.refl _ _) | (with_reducible refine Below.alloc ?_ ?_ _) | (with_reducible refine Below.setCell ?_ ?_ _) | (with_reducible refine Below.drew ?_) | (with_reducible refine below_drewN ?_ _) | (with_reducible refine Below.trans ?_ (Below.mono (Hid.out (by assumption)) ?_)) | omega | (simp; done) | (simp; omega)))))
    go_wp2_with fail
    refine (eqS_same L _ _ L.length L.length _ _ _ X1.out Rwh.out).mono ?_
    rintro e wi ⟨rfl, hb⟩
    obtain ⟨hc, hf⟩ := bcell hb
    have hzwi := hb.size
    have HBwi := Lib.hid hb
    (try simp at hzwi hc hf)
    have hlwi : w.heap.size < wi.heap.size := (by omega)
    clear hb hf
    have X2 : Hid (Rd wi wc.heap.size (some ⟨wc.heap.size, 0, none⟩) L) := Lib.hid (X1.out.below (by (repeat' (first | (with_reducible exact Below.refl _ _) | (with_reducible refine Below.alloc ?_ ?_ _) | (with_reducible refine Below.setCell ?_ ?_ _) | (with_reducible refine Below.drew ?_) | (with_reducible refine below_drewN ?_ _) | (with_reducible refine Below.trans ?_ (Below.mono (Hid.out (by assumption)) ?_)) | omega | (simp; done) | (simp; omega)))))
    have G2 : Hid (Rd wi _ awf R) := Lib.hid (Rwf.out.below (by (repeat' (first | (with_reducible exact Below.refl _ _) | (with_reducible refine Below.alloc ?_ ?_ _) | (with_reducible refine Below.setCell ?_ ?_ _) | (with_reducible refine Below.drew ?_) | (with_reducible refine below_drewN ?_ _) | (with_reducible refine Below.trans ?_ (Below.mono (Hid.out (by assumption)) ?_)) | omega | (simp; done) | (simp; omega)))))
    go_wp2_with fail
    refine (markS_any L _ L.length _ 1 (by decide) (by decide) _ X2.out).mono ?_
    rintro e wj ⟨rfl, hr, hbut, hb⟩
    obtain ⟨hc, hf⟩ := bcell hb
    have hzwj := hb.size
    have HBwj := Lib.hid hb
    (try simp at hzwj hc hf)
    have hlwj : w.heap.size < wj.heap.size := (by omega)
    have Rwj := Lib.hid hr
    have BTwj := Lib.hid hbut
    clear hb hf hr hbut
    have G3 : Hid (Rd wj _ awf R) := Lib.hid (G2.out.but BTwj.out hce)
    have R3 : Hid (Rd wj _ awc R) := Lib.hid (Rwc.out.below (by (repeat' (first | (with_reducible exact Below.refl _ _) | (with_reducible refine Below.alloc ?_ ?_ _) | (with_reducible refine Below.setCell ?_ ?_ _) | (with_reducible refine Below.drew ?_) | (with_reducible refine below_drewN ?_ _) | (with_reducible refine Below.trans ?_ (Below.mono (Hid.out (by assumption)) ?_)) | omega | (simp; done) | (simp; omega)))))
    have hq0 : (1 + (L.length : Int) < 0) = False := by simp; omega
    go_wp2_with fail
    refine (eqS_same R awf awc cwf cwc _ _ _ G3.out R3.out).mono ?_
    rintro e wk ⟨rfl, hb⟩
    obtain ⟨hc, hf⟩ := bcell hb
    have hzwk := hb.size
    have HBwk := Lib.hid hb
    (try simp at hzwk hc hf)
    have hlwk : w.heap.size < wk.heap.size := (by omega)
    clear hb hf
    have G4 : Hid (Rd wk _ awf R) := Lib.hid (G3.out.below (by (repeat' (first | (with_reducible exact Below.refl _ _) | (with_reducible refine Below.alloc ?_ ?_ _) | (with_reducible refine Below.setCell ?_ ?_ _) | (with_reducible refine Below.drew ?_) | (with_reducible refine below_drewN ?_ _) | (with_reducible refine Below.trans ?_ (Below.mono (Hid.out (by assumption)) ?_)) | omega | (simp; done) | (simp; omega)))))
    go_wp2_with fail
    refine (markS_any R awf cwf _ 1 (by decide) (by decide) _ G4.out).mono ?_
    rintro e wl ⟨rfl, hr, hbut, hb⟩
    obtain ⟨hc, hf⟩ := bcell hb
    have hzwl := hb.size
    have HBwl := Lib.hid hb
    (try simp at hzwl hc hf)
    have hlwl : w.heap.size < wl.heap.size := (by omega)
    have Rwl := Lib.hid hr
    have BTwl := Lib.hid hbut
    clear hb hf hr hbut
    go_wp2_with fail
    refine (heldS_any R.length awf cwf _ 1 (by decide) (by decide) _ Rwl.out).mono ?_
    rintro e wm ⟨rfl, hb⟩
    obtain ⟨hc, hf⟩ := bcell hb
    have hzwm := hb.size
    have HBwm := Lib.hid hb
    (try simp at hzwm hc hf)
    have hlwm : w.heap.size < wm.heap.size := (by omega)
    clear hb hf
    have hq : (1 + (R.length : Int) < 0) = False := by simp; omega
    go_wp2_with fail
    refine (toMap_any p t _).mono ?_
    rintro e wn ⟨rfl, hb⟩
    obtain ⟨hc, hf⟩ := bcell hb
    have hzwn := hb.size
    have HBwn := Lib.hid hb
    (try simp at hzwn hc hf)
    have hlwn : w.heap.size < wn.heap.size := (by omega)
    clear hb hf
    simp only [mv, mcells]
    go_wp2_with fail
    refine (toS_any L hL1 a cap _ (HN.out.below (by (repeat' (first | (with_reducible exact Below.refl _ _) | (with_reducible refine Below.alloc ?_ ?_ _) | (with_reducible refine Below.setCell ?_ ?_ _) | (with_reducible refine Below.drew ?_) | (with_reducible refine below_drewN ?_ _) | (with_reducible refine Below.trans ?_ (Below.mono (Hid.out (by assumption)) ?_)) | omega | (simp; done) | (simp; omega)))))).mono ?_
    rintro e wo ⟨_, rfl, hr, hb, rfl, hgrwo⟩
    obtain ⟨hc, hf⟩ := bcell hb
    have hzwo := hb.size
    have HBwo := Lib.hid hb
    (try simp at hzwo hc hf)
    have hlwo : w.heap.size < wo.heap.size := (by omega)
    have Rwo := Lib.hid hr
    clear hb hf hr
    go_wp2_with fail
    refine (HI.out _ _ L.length Rwo.out.inRow).mono ?_
    rintro e wp ⟨awp, cwp, rfl, hr, hb⟩
    obtain ⟨hc, hf⟩ := bcell hb
    have hzwp := hb.size
    have HBwp := Lib.hid hb
    (try simp at hzwp hc hf)
    have hlwp : w.heap.size < wp.heap.size := (by omega)
    have Rwp := Lib.hid hr
    clear hb hf hr
    have R5 : Hid (Rd wp _ awc R) := Lib.hid (Rwc.out.below (by (repeat' (first | (with_reducible exact Below.refl _ _) | (with_reducible refine Below.alloc ?_ ?_ _) | (with_reducible refine Below.setCell ?_ ?_ _) | (with_reducible refine Below.drew ?_) | (with_reducible refine below_drewN ?_ _) | (with_reducible refine Below.trans ?_ (Below.mono (Hid.out (by assumption)) ?_)) | omega | (simp; done) | (simp; omega)))))
    go_wp2_with fail
    refine (eqS_same R awp awc cwp cwc _ _ _ Rwp.out R5.out).mono ?_
    rintro e wq ⟨rfl, hb⟩
    obtain ⟨hc, hf⟩ := bcell hb
    have hzwq := hb.size
    have HBwq := Lib.hid hb
    (try simp at hzwq hc hf)
    have hlwq : w.heap.size < wq.heap.size := (by omega)
    clear hb hf
    have G6 : Hid (Rd wq _ awf (mk R.length 1)) := Lib.hid (Rwl.out.below (by (repeat' (first | (with_reducible exact Below.refl _ _) | (with_reducible refine Below.alloc ?_ ?_ _) | (with_reducible refine Below.setCell ?_ ?_ _) | (with_reducible refine Below.drew ?_) | (with_reducible refine below_drewN ?_ _) | (with_reducible refine Below.trans ?_ (Below.mono (Hid.out (by assumption)) ?_)) | omega | (simp; done) | (simp; omega)))))
    go_wp2_with fail
    refine (heldS_any R.length awf cwf _ 1 (by decide) (by decide) _ G6.out).mono ?_
    rintro e wr ⟨rfl, hb⟩
    obtain ⟨hc, hf⟩ := bcell hb
    have hzwr := hb.size
    have HBwr := Lib.hid hb
    (try simp at hzwr hc hf)
    have hlwr : w.heap.size < wr.heap.size := (by omega)
    clear hb hf
    go_wp2_with fail
    go_ret
    refine ⟨rfl, ?_⟩
    (repeat' (first | (with_reducible exact Below.refl _ _) | (with_reducible refine Below.alloc ?_ ?_ _) | (with_reducible refine Below.setCell ?_ ?_ _) | (with_reducible refine Below.drew ?_) | (with_reducible refine below_drewN ?_ _) | (with_reducible refine Below.trans ?_ (Below.mono (Hid.out (by assumption)) ?_)) | omega | (simp; done) | (simp; omega)))
  · have hgt : 1048576 < (L.length : Int) := by omega
    clear HN hL1
    simp only [mv, mcells]
    go_enter Try.func4, Try.ntmps4
    go_wp2_with fail
    go_ret
    exact ⟨rfl, (Below.refl _ _).alloc (Nat.le_refl _) _⟩

end LFnExactImageOf

namespace LFnExactImageOf
set_option maxRecDepth 100000 in
theorem lifted (os : Os) (started : os.Started) (H : Type) (enc : TypeId × Value → H) :
    ReturnsInHanded {} Try.checked os 4 .any (Rows.fnExactImageOfSpec.pre6 enc Try.prog Try.f4 Rows.fnExactImageOfRow.domain false) (Rows.fnExactImageOfSpec.post enc Try.prog Try.f4 false true false false) := by
  refine returnsInHanded_of_change (C := Try.checked) own started (by kernel_rfl) Try.func4
    (ChangeSpec.witness6 (enc := enc) (C := Try.checked) false ⟨#[], #[.agg #[.int .i64 0, .int .i64 0, .int .i64 0, .int .i64 0, .int .i64 0, .int .i64 0], .slice none 0 0], []⟩ 8 (by kernel_rfl) (by kernel_rfl) (by kernel_rfl) (by kernel_rfl)) ?_
  intro W base args ds gs before hval0 hW _ _
  have hval : ∀ (j : Nat) t v, Try.f4.params[j]? = some t → args[j]? = some v → Value.okWide Try.prog W .any base t v := hval0
  have hW' := hW
  obtain ⟨p, q, hA0, hV, rfl, hfz, hnd⟩ := hW
  have hA : DataW.TrodAll enc Try.prog W 0 (fun _ => true) true Try.f4.params.toList args.toList ds p := hA0
  rw [Try.params4] at hA hval
  obtain ⟨v0, vs0, d0, ds0, p0, q0, hargs, rfl, rfl, h0, r0⟩ := trodAll_cons hA
  obtain ⟨v1, vs1, d1, ds1, p1, q1, rfl, rfl, rfl, h1, r1⟩ := trodAll_cons r0
  obtain ⟨rfl, rfl, rfl⟩ := trodAll_nil r1
  obtain rfl : args = #[v0, v1] := by cases args; simp_all
  obtain ⟨rfl, rfl⟩ := trodVars_none hV
  have k0 := h0
  have lt0 : ∀ x ∈ p0, x.block < W.heap.size := by obtain ⟨m, hm⟩ := k0; exact DataW.trod_lt m _ _ _ hm
  obtain ⟨a0, t0, rfl, wa0, wt0⟩ := open_lmap (hval 0 24 v0 rfl rfl) h0
  have k1 := h1
  have lt1 : ∀ x ∈ p1, x.block < W.heap.size := by obtain ⟨m, hm⟩ := k1; exact DataW.trod_lt m _ _ _ hm
  obtain ⟨a1, len1, cap1, rfl⟩ := okWide_slice Try.underlying30 (hval 1 30 v1 rfl rfl)
  obtain ⟨z1, w1⟩ := open_row h1
  clear hA0 hval0
  refine (ex_any W a0 t0 wa0 wt0 a1 len1 cap1 z1 w1).mono fun e W' ⟨he, bel⟩ => ?_
  subst he
  exact ⟨_, rfl, _, _, _, [], _, [], hW', trodAll_mk1 (shut_bool Try.underlying4 _), (trodAll_cons_mk (Below.trod laidOut (by kernel_rfl) (of_decide_eq_true (by kernel_rfl)) k0 bel lt0) (trodAll_cons_mk (Below.trod laidOut (by kernel_rfl) (of_decide_eq_true (by kernel_rfl)) k1 bel lt1) trodAll_mk0)), rfl, bel.frame _, fun h => by cases h⟩
theorem over : Rows.fnExactImageOfRow.holds Try.pinned (OpenSpec.ofChange Rows.fnExactImageOfSpec) :=
  OpenClaim.holds_of_wide 4 Try.f4 rfl rfl rfl rfl rfl rfl rfl ⟨rfl, rfl, rfl, rfl, rfl⟩ rfl rfl rfl rfl rfl (by kernel_rfl) Try.func4 (by kernel_rfl)
    (of_decide_eq_true (by kernel_rfl)) (by unfold Func.isWrapper; rw [if_neg (of_decide_eq_false (by kernel_rfl))]; exact ⟨rfl, rfl⟩)
    (fun os started H enc _ => lifted os started H enc)
/-- The statement of FnExactImageOf. -/
theorem proved : Rows.FnExactImageOfSaid := over
#print axioms proved
end LFnExactImageOf

end Go.Proofs.Ytaabenkbcbpccaa
