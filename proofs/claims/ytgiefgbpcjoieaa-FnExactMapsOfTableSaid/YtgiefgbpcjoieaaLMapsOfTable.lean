/- The law FnExactMapsOfTable is true at every input: impl.MapsOfTable and spec.MapsOfTable give the same code and the same maps, in new memory, and what came in stays as it was. No conditions. -/
import Derived.Test.YtgiefgbpcjoieaaTbq
import Derived.Test.YtgiefgbpcjoieaaMark
import Derived.Test.YtgiefgbpcjoieaaRowM
import Derived.Test.YtgiefgbpcjoieaaRdt
import Derived.Test.YtgiefgbpcjoieaaRss
import Derived.Test.YtgiefgbpcjoieaaRowS
namespace Go.Proofs.Ytgiefgbpcjoieaa
open Go.ChangeShapes Go.WideShapes Go.ChangeAt Go.RowKit
namespace LFnExactMapsOfTable

set_option maxRecDepth 100000 in
set_option maxHeartbeats 4000000 in
theorem ex_any (w : World) (a1 : Option Addr) (len1 cap1 : Nat) (LL : List (List Int)) (hw1 : LL.length = len1 ∧ InRowL w a1 LL ∧ len1 ≤ maxLen) (hv1 : ∀ j, j < LL.length → (LL.getD j []).length ≤ maxLen ∧ ∀ x ∈ LL.getD j [], (Lit.int .i64 x).wf = true) :
    Calls Try.prog 10 #[.slice a1 len1 cap1] w fun e w' => e = .returned (.bool true) ∧ Below w.heap.size w w' := by
  obtain ⟨rfl, h1, h91⟩ := hw1
  have HM1 := Lib.hid h1
  have H91 := Lib.hid h91
  have HV1 := Lib.hid hv1
  clear h1 h91 hv1
  have HSZ1 := Lib.hid fun w h => szSS_any LL H91.out (fun j hj => (HV1.out j hj).1) a1 cap1 1048576 (by omega) (by omega) w h
  by_cases hz1 : 0 ≤ szV LL 1048576
  · have hl1 : LL.length ≤ 1048576 := szV_len (by omega) (by omega) hz1
    have hR1 : ∀ j, j < LL.length → (LL.getD j []).length ≤ 1048576 := szV_row (by omega) (by omega) hz1
    have HK1 : Hid (∀ k, k ≤ mkF LL k ∧ mkF LL k ≤ k + 1048576) := Lib.hid fun k => ⟨mkF_ge _ _, szV_mk (by omega) (by omega) hz1 k⟩
    have hze1 := szV_le LL 1048576
    obtain ⟨z1, hzz1⟩ : ∃ z, z = szV LL 1048576 := ⟨_, rfl⟩
    rw [← hzz1] at HSZ1 hz1 hze1
    have hzn1 : ¬ (z1 < 0) := by omega
    have HR1 := Lib.hid hR1
    clear hzz1 hR1
    have HS := fun w (g1 : Nat) h1 => sMot_any LL hl1 HR1.out (some ⟨g1, 0, none⟩) LL.length w h1
    have HI := fun w (g1 : Nat) h1 => iMot_any LL hl1 HR1.out (some ⟨g1, 0, none⟩) LL.length w h1
    generalize motM LL = R at *
    generalize motC LL = C at *
    have HS := Lib.hid HS
    have HI := Lib.hid HI
    go_enter Try.func10, Try.ntmps10
    go_wp2_with fail
    refine (HSZ1.out _ (HM1.out.below (by (repeat' (first | (with_reducible exact Below.refl _ _) | (with_reducible refine Below.alloc ?_ ?_ _) | (with_reducible refine Below.setCell ?_ ?_ _) | (with_reducible refine Below.drew ?_) | (with_reducible refine below_drewN ?_ _) | (with_reducible refine Below.trans ?_ (Below.mono (Hid.out (by assumption)) ?_)) | omega | (simp; done) | (simp; omega)))))).mono ?_
    rintro e wsz1 ⟨rfl, hb⟩
    obtain ⟨hc, hf⟩ := bcell hb
    have hzwsz1 := hb.size
    have HBwsz1 := Lib.hid hb
    (try simp at hzwsz1 hc hf)
    clear hb hf
    go_wp2_with fail
    refine (toSS_any LL hl1 HR1.out a1 cap1 _ (HM1.out.below (by (repeat' (first | (with_reducible exact Below.refl _ _) | (with_reducible refine Below.alloc ?_ ?_ _) | (with_reducible refine Below.setCell ?_ ?_ _) | (with_reducible refine Below.drew ?_) | (with_reducible refine below_drewN ?_ _) | (with_reducible refine Below.trans ?_ (Below.mono (Hid.out (by assumption)) ?_)) | omega | (simp; done) | (simp; omega)))))).mono ?_
    rintro e wab ⟨_, rfl, hr, hb, rfl, hgrwab⟩
    obtain ⟨hc, hf⟩ := bcell hb
    have hzwab := hb.size
    have HBwab := Lib.hid hb
    (try simp at hzwab hc hf)
    have hlwab : w.heap.size ≤ wab.heap.size := (by omega)
    (try simp only [World.size_alloc] at hr)
    have Rwab := Lib.hid hr
    clear hb hf hr
    go_wp2_with fail
    refine (HS.out _ _ Rwab.out.inRowL).mono ?_
    rintro e wac ⟨awac, cwac, rfl, hr, hb⟩
    obtain ⟨hc, hf⟩ := bcell hb
    have hzwac := hb.size
    have HBwac := Lib.hid hb
    (try simp at hzwac hc hf)
    have hlwac : w.heap.size < wac.heap.size := (by omega)
    have Rwac := Lib.hid hr
    clear hb hf hr
    go_wp2_with fail
    refine (toSS_any LL hl1 HR1.out a1 cap1 _ (HM1.out.below (by (repeat' (first | (with_reducible exact Below.refl _ _) | (with_reducible refine Below.alloc ?_ ?_ _) | (with_reducible refine Below.setCell ?_ ?_ _) | (with_reducible refine Below.drew ?_) | (with_reducible refine below_drewN ?_ _) | (with_reducible refine Below.trans ?_ (Below.mono (Hid.out (by assumption)) ?_)) | omega | (simp; done) | (simp; omega)))))).mono ?_
    rintro e wad ⟨_, rfl, hr, hb, rfl, hgrwad⟩
    obtain ⟨hc, hf⟩ := bcell hb
    have hzwad := hb.size
    have HBwad := Lib.hid hb
    (try simp at hzwad hc hf)
    have hlwad : w.heap.size ≤ wad.heap.size := (by omega)
    (try simp only [World.size_alloc] at hr)
    have Rwad := Lib.hid hr
    clear hb hf hr
    go_wp2_with fail
    refine (HI.out _ _ Rwad.out.inRowL).mono ?_
    rintro e wae ⟨awae, cwae, rfl, hr, hb⟩
    obtain ⟨hc, hf⟩ := bcell hb
    have hzwae := hb.size
    have HBwae := Lib.hid hb
    (try simp at hzwae hc hf)
    have hlwae : w.heap.size < wae.heap.size := (by omega)
    have Rwae := Lib.hid hr
    clear hb hf hr
    have Y0 : Hid (RdM wae _ awac R) := Lib.hid (Rwac.out.below (by (repeat' (first | (with_reducible exact Below.refl _ _) | (with_reducible refine Below.alloc ?_ ?_ _) | (with_reducible refine Below.setCell ?_ ?_ _) | (with_reducible refine Below.drew ?_) | (with_reducible refine below_drewN ?_ _) | (with_reducible refine Below.trans ?_ (Below.mono (Hid.out (by assumption)) ?_)) | omega | (simp; done) | (simp; omega)))))
    have hlen : R.length ≤ 2000000 := Y0.out.1
    go_wp2_with fail
    refine (eqMS_same R awae awac cwae cwac hlen _ (Rwae.out).inRow (Y0.out).inRow).mono ?_
    rintro e wba ⟨rfl, hb⟩
    obtain ⟨hc, hf⟩ := bcell hb
    have hzwba := hb.size
    have HBwba := Lib.hid hb
    (try simp at hzwba hc hf)
    have hlwba : w.heap.size < wba.heap.size := (by omega)
    clear hb hf
    go_wp2_with fail
    refine (toSS_any LL hl1 HR1.out a1 cap1 _ (HM1.out.below (by (repeat' (first | (with_reducible exact Below.refl _ _) | (with_reducible refine Below.alloc ?_ ?_ _) | (with_reducible refine Below.setCell ?_ ?_ _) | (with_reducible refine Below.drew ?_) | (with_reducible refine below_drewN ?_ _) | (with_reducible refine Below.trans ?_ (Below.mono (Hid.out (by assumption)) ?_)) | omega | (simp; done) | (simp; omega)))))).mono ?_
    rintro e wbb ⟨_, rfl, hr, hb, rfl, hgrwbb⟩
    obtain ⟨hc, hf⟩ := bcell hb
    have hzwbb := hb.size
    have HBwbb := Lib.hid hb
    (try simp at hzwbb hc hf)
    have hlwbb : w.heap.size ≤ wbb.heap.size := (by omega)
    (try simp only [World.size_alloc] at hr)
    have Rwbb := Lib.hid hr
    clear hb hf hr
    have Y1 : Hid (RdS wbb _ _ LL) := Lib.hid (Rwad.out.below (by (repeat' (first | (with_reducible exact Below.refl _ _) | (with_reducible refine Below.alloc ?_ ?_ _) | (with_reducible refine Below.setCell ?_ ?_ _) | (with_reducible refine Below.drew ?_) | (with_reducible refine below_drewN ?_ _) | (with_reducible refine Below.trans ?_ (Below.mono (Hid.out (by assumption)) ?_)) | omega | (simp; done) | (simp; omega)))))
    go_wp2_with fail
    refine (eqT_any LL _ _ LL.length LL.length _ (by omega) (fun j hj => by have := HR1.out j hj; omega) Y1.out.inRowL Rwbb.out.inRowL).mono ?_
    rintro e wbc ⟨rfl, hb⟩
    obtain ⟨hc, hf⟩ := bcell hb
    have hzwbc := hb.size
    have HBwbc := Lib.hid hb
    (try simp at hzwbc hc hf)
    have hlwbc : w.heap.size < wbc.heap.size := (by omega)
    clear hb hf
    have Y2 : Hid (RdT wbc _ _ _ LL) := Lib.hid (Rwad.out.toT.below (by (repeat' (first | (with_reducible exact Below.refl _ _) | (with_reducible refine Below.alloc ?_ ?_ _) | (with_reducible refine Below.setCell ?_ ?_ _) | (with_reducible refine Below.drew ?_) | (with_reducible refine below_drewN ?_ _) | (with_reducible refine Below.trans ?_ (Below.mono (Hid.out (by assumption)) ?_)) | omega | (simp; done) | (simp; omega)))))
    have Y3 : Hid (RdM wbc _ awae R) := Lib.hid (Rwae.out.below (by (repeat' (first | (with_reducible exact Below.refl _ _) | (with_reducible refine Below.alloc ?_ ?_ _) | (with_reducible refine Below.setCell ?_ ?_ _) | (with_reducible refine Below.drew ?_) | (with_reducible refine below_drewN ?_ _) | (with_reducible refine Below.trans ?_ (Below.mono (Hid.out (by assumption)) ?_)) | omega | (simp; done) | (simp; omega)))))
    have HKK1 := HK1.out (1)
    have HMA1 := (markT_any LL _ LL.length _ _ (1) (by omega) (by omega) _ Y2.out)
    obtain ⟨k1, hk1⟩ : ∃ k, k = mkF LL (1) := ⟨_, rfl⟩
    rw [← hk1] at HMA1 HKK1
    have HMA1 := Lib.hid HMA1
    clear hk1
    go_wp2_with fail
    refine (HMA1.out).mono ?_
    rintro e wbd ⟨rfl, hr, hbut, hb⟩
    obtain ⟨hc, hf⟩ := bcell hb
    have hzwbd := hb.size
    have HBwbd := Lib.hid hb
    (try simp at hzwbd hc hf)
    have hlwbd : w.heap.size < wbd.heap.size := (by omega)
    have Rwbd := Lib.hid hr
    have BTwbd := Lib.hid hbut
    clear hb hf hr hbut
    have Y4 : Hid (RdM wbd _ awae R) := Lib.hid (Y3.out.turnT BTwbd.out (by omega))
    have hq0 : (k1 < 0) = False := by simp; omega
    have Y5 : Hid (RdM wbd _ awac R) := Lib.hid (Rwac.out.below (by (repeat' (first | (with_reducible exact Below.refl _ _) | (with_reducible refine Below.alloc ?_ ?_ _) | (with_reducible refine Below.setCell ?_ ?_ _) | (with_reducible refine Below.drew ?_) | (with_reducible refine below_drewN ?_ _) | (with_reducible refine Below.trans ?_ (Below.mono (Hid.out (by assumption)) ?_)) | omega | (simp; done) | (simp; omega)))))
    go_wp2_with fail
    refine (eqMS_same R awae awac cwae cwac hlen _ (Y4.out).inRow (Y5.out).inRow).mono ?_
    rintro e wbe ⟨rfl, hb⟩
    obtain ⟨hc, hf⟩ := bcell hb
    have hzwbe := hb.size
    have HBwbe := Lib.hid hb
    (try simp at hzwbe hc hf)
    have hlwbe : w.heap.size < wbe.heap.size := (by omega)
    clear hb hf
    have Y6 : Hid (RdM wbe _ awae R) := Lib.hid (Y4.out.below (by (repeat' (first | (with_reducible exact Below.refl _ _) | (with_reducible refine Below.alloc ?_ ?_ _) | (with_reducible refine Below.setCell ?_ ?_ _) | (with_reducible refine Below.drew ?_) | (with_reducible refine below_drewN ?_ _) | (with_reducible refine Below.trans ?_ (Below.mono (Hid.out (by assumption)) ?_)) | omega | (simp; done) | (simp; omega)))))
    go_wp2_with fail
    refine (markM_any R awae cwae _ 1 (by decide) (by decide) _ Y6.out).mono ?_
    rintro e wca ⟨rfl, hr, hbut, hb⟩
    obtain ⟨hc, hf⟩ := bcell hb
    have hzwca := hb.size
    have HBwca := Lib.hid hb
    (try simp at hzwca hc hf)
    have hlwca : w.heap.size < wca.heap.size := (by omega)
    have Rwca := Lib.hid hr
    have BTwca := Lib.hid hbut
    clear hb hf hr hbut
    go_wp2_with fail
    refine (heldM_any R.length awae cwae _ 1 (by decide) (by decide) _ Rwca.out).mono ?_
    rintro e wcb ⟨rfl, hb⟩
    obtain ⟨hc, hf⟩ := bcell hb
    have hzwcb := hb.size
    have HBwcb := Lib.hid hb
    (try simp at hzwcb hc hf)
    have hlwcb : w.heap.size < wcb.heap.size := (by omega)
    clear hb hf
    have hq : (1 + 6 * (R.length : Int) < 0) = False := by simp; omega
    go_wp2_with fail
    refine (toSS_any LL hl1 HR1.out a1 cap1 _ (HM1.out.below (by (repeat' (first | (with_reducible exact Below.refl _ _) | (with_reducible refine Below.alloc ?_ ?_ _) | (with_reducible refine Below.setCell ?_ ?_ _) | (with_reducible refine Below.drew ?_) | (with_reducible refine below_drewN ?_ _) | (with_reducible refine Below.trans ?_ (Below.mono (Hid.out (by assumption)) ?_)) | omega | (simp; done) | (simp; omega)))))).mono ?_
    rintro e wcc ⟨_, rfl, hr, hb, rfl, hgrwcc⟩
    obtain ⟨hc, hf⟩ := bcell hb
    have hzwcc := hb.size
    have HBwcc := Lib.hid hb
    (try simp at hzwcc hc hf)
    have hlwcc : w.heap.size ≤ wcc.heap.size := (by omega)
    (try simp only [World.size_alloc] at hr)
    have Rwcc := Lib.hid hr
    clear hb hf hr
    go_wp2_with fail
    refine (HI.out _ _ Rwcc.out.inRowL).mono ?_
    rintro e wcd ⟨awcd, cwcd, rfl, hr, hb⟩
    obtain ⟨hc, hf⟩ := bcell hb
    have hzwcd := hb.size
    have HBwcd := Lib.hid hb
    (try simp at hzwcd hc hf)
    have hlwcd : w.heap.size < wcd.heap.size := (by omega)
    have Rwcd := Lib.hid hr
    clear hb hf hr
    have Y7 : Hid (RdM wcd _ awac R) := Lib.hid (Rwac.out.below (by (repeat' (first | (with_reducible exact Below.refl _ _) | (with_reducible refine Below.alloc ?_ ?_ _) | (with_reducible refine Below.setCell ?_ ?_ _) | (with_reducible refine Below.drew ?_) | (with_reducible refine below_drewN ?_ _) | (with_reducible refine Below.trans ?_ (Below.mono (Hid.out (by assumption)) ?_)) | omega | (simp; done) | (simp; omega)))))
    go_wp2_with fail
    refine (eqMS_same R awcd awac cwcd cwac hlen _ (Rwcd.out).inRow (Y7.out).inRow).mono ?_
    rintro e wce ⟨rfl, hb⟩
    obtain ⟨hc, hf⟩ := bcell hb
    have hzwce := hb.size
    have HBwce := Lib.hid hb
    (try simp at hzwce hc hf)
    have hlwce : w.heap.size < wce.heap.size := (by omega)
    clear hb hf
    have Y8 : Hid (RdM wce _ awae (mkM R.length 1)) := Lib.hid (Rwca.out.below (by (repeat' (first | (with_reducible exact Below.refl _ _) | (with_reducible refine Below.alloc ?_ ?_ _) | (with_reducible refine Below.setCell ?_ ?_ _) | (with_reducible refine Below.drew ?_) | (with_reducible refine below_drewN ?_ _) | (with_reducible refine Below.trans ?_ (Below.mono (Hid.out (by assumption)) ?_)) | omega | (simp; done) | (simp; omega)))))
    go_wp2_with fail
    refine (heldM_any R.length awae cwae _ 1 (by decide) (by decide) _ Y8.out).mono ?_
    rintro e wda ⟨rfl, hb⟩
    obtain ⟨hc, hf⟩ := bcell hb
    have hzwda := hb.size
    have HBwda := Lib.hid hb
    (try simp at hzwda hc hf)
    have hlwda : w.heap.size < wda.heap.size := (by omega)
    clear hb hf
    go_wp2_with fail
    go_ret
    refine ⟨rfl, ?_⟩
    (repeat' (first | (with_reducible exact Below.refl _ _) | (with_reducible refine Below.alloc ?_ ?_ _) | (with_reducible refine Below.setCell ?_ ?_ _) | (with_reducible refine Below.drew ?_) | (with_reducible refine below_drewN ?_ _) | (with_reducible refine Below.trans ?_ (Below.mono (Hid.out (by assumption)) ?_)) | omega | (simp; done) | (simp; omega)))
  · rw [szV_neg (by omega) hz1] at HSZ1
    go_enter Try.func10, Try.ntmps10
    go_wp2_with fail
    refine (HSZ1.out _ (HM1.out.below (by (repeat' (first | (with_reducible exact Below.refl _ _) | (with_reducible refine Below.alloc ?_ ?_ _) | (with_reducible refine Below.setCell ?_ ?_ _) | (with_reducible refine Below.drew ?_) | (with_reducible refine below_drewN ?_ _) | (with_reducible refine Below.trans ?_ (Below.mono (Hid.out (by assumption)) ?_)) | omega | (simp; done) | (simp; omega)))))).mono ?_
    rintro e wbad ⟨rfl, hb⟩
    obtain ⟨hc, hf⟩ := bcell hb
    have hzwbad := hb.size
    have HBwbad := Lib.hid hb
    (try simp at hzwbad hc hf)
    clear hb hf
    go_wp2_with fail
    go_ret
    refine ⟨rfl, ?_⟩
    (repeat' (first | (with_reducible exact Below.refl _ _) | (with_reducible refine Below.alloc ?_ ?_ _) | (with_reducible refine Below.setCell ?_ ?_ _) | (with_reducible refine Below.drew ?_) | (with_reducible refine below_drewN ?_ _) | (with_reducible refine Below.trans ?_ (Below.mono (Hid.out (by assumption)) ?_)) | omega | (simp; done) | (simp; omega)))

end LFnExactMapsOfTable

namespace LFnExactMapsOfTable
set_option maxRecDepth 100000 in
theorem lifted (os : Os) (started : os.Started) (H : Type) (enc : TypeId × Value → H) :
    ReturnsInHanded {} Try.checked os 10 .any (Rows.fnExactMapsOfTableSpec.pre6 enc Try.prog Try.f10 Rows.fnExactMapsOfTableRow.domain false) (Rows.fnExactMapsOfTableSpec.post enc Try.prog Try.f10 false true false false) := by
  refine returnsInHanded_of_change (C := Try.checked) own started (by kernel_rfl) Try.func10
    (ChangeSpec.witness6 (enc := enc) (C := Try.checked) false ⟨#[], #[.slice none 0 0], []⟩ 8 (by kernel_rfl) (by kernel_rfl) (by kernel_rfl) (by kernel_rfl)) ?_
  intro W base args ds gs before hval0 hW _ _
  have hval : ∀ (j : Nat) t v, Try.f10.params[j]? = some t → args[j]? = some v → Value.okWide Try.prog W .any base t v := hval0
  have hW' := hW
  obtain ⟨p, q, hA0, hV, rfl, hfz, hnd⟩ := hW
  have hA : DataW.TrodAll enc Try.prog W 0 (fun _ => true) true Try.f10.params.toList args.toList ds p := hA0
  rw [Try.params10] at hA hval
  obtain ⟨v0, vs0, d0, ds0, p0, q0, hargs, rfl, rfl, h0, r0⟩ := trodAll_cons hA
  obtain ⟨rfl, rfl, rfl⟩ := trodAll_nil r0
  obtain rfl : args = #[v0] := by cases args; simp_all
  obtain ⟨rfl, rfl⟩ := trodVars_none hV
  have k0 := h0
  have lt0 : ∀ x ∈ p0, x.block < W.heap.size := by obtain ⟨m, hm⟩ := k0; exact DataW.trod_lt m _ _ _ hm
  obtain ⟨a0, len0, cap0, rfl⟩ := okWide_slice Try.underlying43 (hval 0 43 v0 rfl rfl)
  obtain ⟨z0, w0, u0⟩ := open_rows h0
  clear hA0 hval0
  refine (ex_any W a0 len0 cap0 z0 w0 u0).mono fun e W' ⟨he, bel⟩ => ?_
  subst he
  exact ⟨_, rfl, _, _, _, [], _, [], hW', trodAll_mk1 (shut_bool Try.underlying4 _), (trodAll_cons_mk (Below.trod laidOut (by kernel_rfl) (of_decide_eq_true (by kernel_rfl)) k0 bel lt0) trodAll_mk0), rfl, bel.frame _, fun h => by cases h⟩
theorem over : Rows.fnExactMapsOfTableRow.holds Try.pinned (OpenSpec.ofChange Rows.fnExactMapsOfTableSpec) :=
  OpenClaim.holds_of_wide 10 Try.f10 rfl rfl rfl rfl rfl rfl rfl ⟨rfl, rfl, rfl, rfl, rfl⟩ rfl rfl rfl rfl rfl (by kernel_rfl) Try.func10 (by kernel_rfl)
    (of_decide_eq_true (by kernel_rfl)) (by unfold Func.isWrapper; rw [if_neg (of_decide_eq_false (by kernel_rfl))]; exact ⟨rfl, rfl⟩)
    (fun os started H enc _ => lifted os started H enc)
/-- The statement of FnExactMapsOfTable. -/
theorem proved : Rows.FnExactMapsOfTableSaid := over
#print axioms proved
end LFnExactMapsOfTable

end Go.Proofs.Ytgiefgbpcjoieaa
