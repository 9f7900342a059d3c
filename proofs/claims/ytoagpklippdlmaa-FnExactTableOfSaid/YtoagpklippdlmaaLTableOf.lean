/- The law FnExactTableOf is true at every input: impl.TableOf and spec.TableOf give the same code and the same rows, in new memory, and what came in stays as it was. No conditions. -/
import Derived.Test.YtoagpklippdlmaaMk
import Derived.Test.YtoagpklippdlmaaTof
import Derived.Test.YtoagpklippdlmaaRdt
import Derived.Test.YtoagpklippdlmaaMark
import Derived.Test.YtoagpklippdlmaaRowM
import Derived.Test.YtoagpklippdlmaaRss
import Derived.Test.YtoagpklippdlmaaRowS
namespace Go.Proofs.Ytoagpklippdlmaa
open Go.ChangeShapes Go.WideShapes Go.ChangeAt Go.RowKit
namespace LFnExactTableOf

set_option maxRecDepth 100000 in
set_option maxHeartbeats 4000000 in
theorem ex_any (w : World) (a1 : Option Addr) (len1 cap1 : Nat) (L : List MapN) (hw1 : L.length = len1 ∧ InRowM w a1 L ∧ (a1 = none → cap1 = 0) ∧ len1 ≤ maxLen) :
    Calls Try.prog 10 #[.slice a1 len1 cap1] w fun e w' => e = .returned (.bool true) ∧ Below w.heap.size w w' := by
  obtain ⟨rfl, h1, _, h91⟩ := hw1
  have HM1 := Lib.hid h1
  have H91 := Lib.hid h91
  clear h1 h91
  by_cases hl1 : L.length ≤ 1048576
  · have hng1 : ¬ ((1048576 : Int) - (L.length : Int) < 0) := by omega
    have HS := fun w (g1 : Nat) h1 => sTof_any L hl1 (some ⟨g1, 0, none⟩) L.length (fun e => by cases e) w h1
    have HI := fun w (g1 : Nat) h1 => iTof_any L hl1 (some ⟨g1, 0, none⟩) L.length (fun e => by cases e) w h1
    generalize tofL L = R at *
    generalize tC 40 L = C at *
    have HS := Lib.hid HS
    have HI := Lib.hid HI
    go_enter Try.func10, Try.ntmps10
    go_wp2_with (go_at_call 13; (with_reducible refine (sz_any L.length a1 cap1 hl1 _).mono ?_); rintro e w ⟨rfl, rfl⟩)
    refine (toMS_any L hl1 a1 cap1 _ (HM1.out.below (by (repeat' (first | (with_reducible exact Below.refl _ _) | (with_reducible refine Below.alloc ?_ ?_ _) | (with_reducible refine Below.setCell ?_ ?_ _) | (with_reducible refine Below.drew ?_) | (with_reducible refine below_drewN ?_ _) | (with_reducible refine Below.trans ?_ (Below.mono (Hid.out (by assumption)) ?_)) | omega | (simp; done) | (simp; omega)))))).mono ?_
    rintro e wab ⟨_, rfl, hr, hb, rfl, hgrwab⟩
    obtain ⟨hc, hf⟩ := bcell hb
    have hzwab := hb.size
    have HBwab := Lib.hid hb
    (try simp at hzwab hc hf)
    have hlwab : w.heap.size ≤ wab.heap.size := (by omega)
    (try simp only [World.size_alloc] at hr)
    have Rwab := Lib.hid hr
    clear hb hf hr
    go_wp2_with fail
    refine (HS.out _ _ Rwab.out.inRow).mono ?_
    rintro e wac ⟨awac, cwac, rfl, hr, hmkwac, hb⟩
    obtain ⟨hc, hf⟩ := bcell hb
    have hzwac := hb.size
    have HBwac := Lib.hid hb
    (try simp at hzwac hc hf)
    have hlwac : w.heap.size < wac.heap.size := (by omega)
    have Rwac := Lib.hid hr
    have HMKwac := Lib.hid hmkwac
    clear hb hf hr hmkwac
    go_wp2_with fail
    refine (toMS_any L hl1 a1 cap1 _ (HM1.out.below (by (repeat' (first | (with_reducible exact Below.refl _ _) | (with_reducible refine Below.alloc ?_ ?_ _) | (with_reducible refine Below.setCell ?_ ?_ _) | (with_reducible refine Below.drew ?_) | (with_reducible refine below_drewN ?_ _) | (with_reducible refine Below.trans ?_ (Below.mono (Hid.out (by assumption)) ?_)) | omega | (simp; done) | (simp; omega)))))).mono ?_
    rintro e wad ⟨_, rfl, hr, hb, rfl, hgrwad⟩
    obtain ⟨hc, hf⟩ := bcell hb
    have hzwad := hb.size
    have HBwad := Lib.hid hb
    (try simp at hzwad hc hf)
    have hlwad : w.heap.size ≤ wad.heap.size := (by omega)
    (try simp only [World.size_alloc] at hr)
    have Rwad := Lib.hid hr
    clear hb hf hr
    go_wp2_with fail
    refine (HI.out _ _ Rwad.out.inRow).mono ?_
    rintro e wae ⟨awae, cwae, rfl, hr, hmkwae, hb⟩
    obtain ⟨hc, hf⟩ := bcell hb
    have hzwae := hb.size
    have HBwae := Lib.hid hb
    (try simp at hzwae hc hf)
    have hlwae : w.heap.size < wae.heap.size := (by omega)
    have Rwae := Lib.hid hr
    have HMKwae := Lib.hid hmkwae
    clear hb hf hr hmkwae
    have Y0 : Hid (RdT wae _ _ awac R) := Lib.hid (Rwac.out.below (by (repeat' (first | (with_reducible exact Below.refl _ _) | (with_reducible refine Below.alloc ?_ ?_ _) | (with_reducible refine Below.setCell ?_ ?_ _) | (with_reducible refine Below.drew ?_) | (with_reducible refine below_drewN ?_ _) | (with_reducible refine Below.trans ?_ (Below.mono (Hid.out (by assumption)) ?_)) | omega | (simp; done) | (simp; omega)))))
    go_wp2_with fail
    refine (eqT_any R awae awac cwae cwac _ Rwae.out.len Rwae.out.rlen (Rwae.out).inRowL (Y0.out).inRowL).mono ?_
    rintro e wba ⟨rfl, hb⟩
    obtain ⟨hc, hf⟩ := bcell hb
    have hzwba := hb.size
    have HBwba := Lib.hid hb
    (try simp at hzwba hc hf)
    have hlwba : w.heap.size < wba.heap.size := (by omega)
    clear hb hf
    go_wp2_with fail
    refine (toMS_any L hl1 a1 cap1 _ (HM1.out.below (by (repeat' (first | (with_reducible exact Below.refl _ _) | (with_reducible refine Below.alloc ?_ ?_ _) | (with_reducible refine Below.setCell ?_ ?_ _) | (with_reducible refine Below.drew ?_) | (with_reducible refine below_drewN ?_ _) | (with_reducible refine Below.trans ?_ (Below.mono (Hid.out (by assumption)) ?_)) | omega | (simp; done) | (simp; omega)))))).mono ?_
    rintro e wbb ⟨_, rfl, hr, hb, rfl, hgrwbb⟩
    obtain ⟨hc, hf⟩ := bcell hb
    have hzwbb := hb.size
    have HBwbb := Lib.hid hb
    (try simp at hzwbb hc hf)
    have hlwbb : w.heap.size ≤ wbb.heap.size := (by omega)
    (try simp only [World.size_alloc] at hr)
    have Rwbb := Lib.hid hr
    clear hb hf hr
    have Y1 : Hid (RdM wbb _ _ L) := Lib.hid (Rwad.out.below (by (repeat' (first | (with_reducible exact Below.refl _ _) | (with_reducible refine Below.alloc ?_ ?_ _) | (with_reducible refine Below.setCell ?_ ?_ _) | (with_reducible refine Below.drew ?_) | (with_reducible refine below_drewN ?_ _) | (with_reducible refine Below.trans ?_ (Below.mono (Hid.out (by assumption)) ?_)) | omega | (simp; done) | (simp; omega)))))
    go_wp2_with fail
    refine (eqMS_same L _ _ L.length L.length (by omega) _ Y1.out.inRow Rwbb.out.inRow).mono ?_
    rintro e wbc ⟨rfl, hb⟩
    obtain ⟨hc, hf⟩ := bcell hb
    have hzwbc := hb.size
    have HBwbc := Lib.hid hb
    (try simp at hzwbc hc hf)
    have hlwbc : w.heap.size < wbc.heap.size := (by omega)
    clear hb hf
    have Y2 : Hid (RdM wbc _ _ L) := Lib.hid (Rwad.out.below (by (repeat' (first | (with_reducible exact Below.refl _ _) | (with_reducible refine Below.alloc ?_ ?_ _) | (with_reducible refine Below.setCell ?_ ?_ _) | (with_reducible refine Below.drew ?_) | (with_reducible refine below_drewN ?_ _) | (with_reducible refine Below.trans ?_ (Below.mono (Hid.out (by assumption)) ?_)) | omega | (simp; done) | (simp; omega)))))
    have Y3 : Hid (RdT wbc _ _ awae R) := Lib.hid (Rwae.out.below (by (repeat' (first | (with_reducible exact Below.refl _ _) | (with_reducible refine Below.alloc ?_ ?_ _) | (with_reducible refine Below.setCell ?_ ?_ _) | (with_reducible refine Below.drew ?_) | (with_reducible refine below_drewN ?_ _) | (with_reducible refine Below.trans ?_ (Below.mono (Hid.out (by assumption)) ?_)) | omega | (simp; done) | (simp; omega)))))
    go_wp2_with fail
    refine (markM_any L _ L.length _ (1) (by omega) (by omega) _ Y2.out).mono ?_
    rintro e wbd ⟨rfl, hr, hbut, hb⟩
    obtain ⟨hc, hf⟩ := bcell hb
    have hzwbd := hb.size
    have HBwbd := Lib.hid hb
    (try simp at hzwbd hc hf)
    have hlwbd : w.heap.size < wbd.heap.size := (by omega)
    have Rwbd := Lib.hid hr
    have BTwbd := Lib.hid hbut
    clear hb hf hr hbut
    have Y4 : Hid (RdT wbd _ _ awae R) := Lib.hid (Y3.out.but BTwbd.out (by omega))
    have hq0 : (1 + 6 * (L.length : Int) < 0) = False := by simp; omega
    have Y5 : Hid (RdT wbd _ _ awac R) := Lib.hid (Rwac.out.below (by (repeat' (first | (with_reducible exact Below.refl _ _) | (with_reducible refine Below.alloc ?_ ?_ _) | (with_reducible refine Below.setCell ?_ ?_ _) | (with_reducible refine Below.drew ?_) | (with_reducible refine below_drewN ?_ _) | (with_reducible refine Below.trans ?_ (Below.mono (Hid.out (by assumption)) ?_)) | omega | (simp; done) | (simp; omega)))))
    go_wp2_with fail
    refine (eqT_any R awae awac cwae cwac _ Y4.out.len Y4.out.rlen (Y4.out).inRowL (Y5.out).inRowL).mono ?_
    rintro e wbe ⟨rfl, hb⟩
    obtain ⟨hc, hf⟩ := bcell hb
    have hzwbe := hb.size
    have HBwbe := Lib.hid hb
    (try simp at hzwbe hc hf)
    have hlwbe : w.heap.size < wbe.heap.size := (by omega)
    clear hb hf
    have Y6 : Hid (RdT wbe _ _ awae R) := Lib.hid (Y4.out.below (by (repeat' (first | (with_reducible exact Below.refl _ _) | (with_reducible refine Below.alloc ?_ ?_ _) | (with_reducible refine Below.setCell ?_ ?_ _) | (with_reducible refine Below.drew ?_) | (with_reducible refine below_drewN ?_ _) | (with_reducible refine Below.trans ?_ (Below.mono (Hid.out (by assumption)) ?_)) | omega | (simp; done) | (simp; omega)))))
    obtain ⟨mm, hmm⟩ : ∃ mm, mm = mkF R 1 := ⟨_, rfl⟩
    have hmm1 : 1 ≤ mm := by rw [hmm]; exact mkF_ge _ _
    have HMR := markT_any R awae cwae _ _ 1 (by decide) HMKwae.out _ Y6.out
    rw [← hmm] at HMR
    have HMR := Lib.hid HMR
    have HHD := fun w B2 C2 h => heldT_any R Y6.out.rlen awae cwae B2 C2 1 (by decide) HMKwae.out w h
    rw [← hmm] at HHD
    have HHD := Lib.hid HHD
    clear hmm
    go_wp2_with fail
    refine (HMR.out).mono ?_
    rintro e wca ⟨rfl, hr, hbut, hb⟩
    obtain ⟨hc, hf⟩ := bcell hb
    have hzwca := hb.size
    have HBwca := Lib.hid hb
    (try simp at hzwca hc hf)
    have hlwca : w.heap.size < wca.heap.size := (by omega)
    have Rwca := Lib.hid hr
    have BTwca := Lib.hid hbut
    clear hb hf hr hbut
    go_wp2_with fail
    refine (HHD.out _ _ _ Rwca.out).mono ?_
    rintro e wcb ⟨rfl, hb⟩
    obtain ⟨hc, hf⟩ := bcell hb
    have hzwcb := hb.size
    have HBwcb := Lib.hid hb
    (try simp at hzwcb hc hf)
    have hlwcb : w.heap.size < wcb.heap.size := (by omega)
    clear hb hf
    have hq : (mm < 0) = False := by simp; omega
    go_wp2_with fail
    refine (toMS_any L hl1 a1 cap1 _ (HM1.out.below (by (repeat' (first | (with_reducible exact Below.refl _ _) | (with_reducible refine Below.alloc ?_ ?_ _) | (with_reducible refine Below.setCell ?_ ?_ _) | (with_reducible refine Below.drew ?_) | (with_reducible refine below_drewN ?_ _) | (with_reducible refine Below.trans ?_ (Below.mono (Hid.out (by assumption)) ?_)) | omega | (simp; done) | (simp; omega)))))).mono ?_
    rintro e wcc ⟨_, rfl, hr, hb, rfl, hgrwcc⟩
    obtain ⟨hc, hf⟩ := bcell hb
    have hzwcc := hb.size
    have HBwcc := Lib.hid hb
    (try simp at hzwcc hc hf)
    have hlwcc : w.heap.size ≤ wcc.heap.size := (by omega)
    (try simp only [World.size_alloc] at hr)
    have Rwcc := Lib.hid hr
    clear hb hf hr
    go_wp2_with fail
    refine (HI.out _ _ Rwcc.out.inRow).mono ?_
    rintro e wcd ⟨awcd, cwcd, rfl, hr, hmkwcd, hb⟩
    obtain ⟨hc, hf⟩ := bcell hb
    have hzwcd := hb.size
    have HBwcd := Lib.hid hb
    (try simp at hzwcd hc hf)
    have hlwcd : w.heap.size < wcd.heap.size := (by omega)
    have Rwcd := Lib.hid hr
    have HMKwcd := Lib.hid hmkwcd
    clear hb hf hr hmkwcd
    have Y7 : Hid (RdT wcd _ _ awac R) := Lib.hid (Rwac.out.below (by (repeat' (first | (with_reducible exact Below.refl _ _) | (with_reducible refine Below.alloc ?_ ?_ _) | (with_reducible refine Below.setCell ?_ ?_ _) | (with_reducible refine Below.drew ?_) | (with_reducible refine below_drewN ?_ _) | (with_reducible refine Below.trans ?_ (Below.mono (Hid.out (by assumption)) ?_)) | omega | (simp; done) | (simp; omega)))))
    go_wp2_with fail
    refine (eqT_any R awcd awac cwcd cwac _ Rwcd.out.len Rwcd.out.rlen (Rwcd.out).inRowL (Y7.out).inRowL).mono ?_
    rintro e wce ⟨rfl, hb⟩
    obtain ⟨hc, hf⟩ := bcell hb
    have hzwce := hb.size
    have HBwce := Lib.hid hb
    (try simp at hzwce hc hf)
    have hlwce : w.heap.size < wce.heap.size := (by omega)
    clear hb hf
    have Y8 : Hid (RdT wce _ _ awae (mkLL R 1)) := Lib.hid (Rwca.out.below (by (repeat' (first | (with_reducible exact Below.refl _ _) | (with_reducible refine Below.alloc ?_ ?_ _) | (with_reducible refine Below.setCell ?_ ?_ _) | (with_reducible refine Below.drew ?_) | (with_reducible refine below_drewN ?_ _) | (with_reducible refine Below.trans ?_ (Below.mono (Hid.out (by assumption)) ?_)) | omega | (simp; done) | (simp; omega)))))
    go_wp2_with fail
    refine (HHD.out _ _ _ Y8.out).mono ?_
    rintro e wda ⟨rfl, hb⟩
    obtain ⟨hc, hf⟩ := bcell hb
    have hzwda := hb.size
    have HBwda := Lib.hid hb
    (try simp at hzwda hc hf)
    have hlwda : w.heap.size < wda.heap.size := (by omega)
    clear hb hf
    go_wp2_with fail
    go_ret
    refine ⟨rfl, ?_⟩
    (repeat' (first | (with_reducible exact Below.refl _ _) | (with_reducible refine Below.alloc ?_ ?_ _) | (with_reducible refine Below.setCell ?_ ?_ _) | (with_reducible refine Below.drew ?_) | (with_reducible refine below_drewN ?_ _) | (with_reducible refine Below.trans ?_ (Below.mono (Hid.out (by assumption)) ?_)) | omega | (simp; done) | (simp; omega)))
  · have hbig : 1048576 < L.length := by omega
    go_enter Try.func10, Try.ntmps10
    go_wp2_with (go_at_call 13; (with_reducible refine (sz_big L.length a1 cap1 hbig H91.out _).mono ?_); rintro e w ⟨rfl, rfl⟩)
    go_ret
    exact ⟨rfl, Below.refl _ _⟩

end LFnExactTableOf

namespace LFnExactTableOf
set_option maxRecDepth 100000 in
theorem lifted (os : Os) (started : os.Started) (H : Type) (enc : TypeId × Value → H) :
    ReturnsInHanded {} Try.checked os 10 .any (Rows.fnExactTableOfSpec.pre6 enc Try.prog Try.f10 Rows.fnExactTableOfRow.domain false) (Rows.fnExactTableOfSpec.post enc Try.prog Try.f10 false true false false) := by
  refine returnsInHanded_of_change (C := Try.checked) own started (by kernel_rfl) Try.func10
    (ChangeSpec.witness6 (enc := enc) (C := Try.checked) false ⟨#[], #[.slice none 0 0], []⟩ 8 (by kernel_rfl) (by kernel_rfl) (by kernel_rfl) (by kernel_rfl)) ?_
  intro W base args ds gs before hval0 hW _ _
  have hval : ∀ (j : Nat) t v, Try.f10.params[j]? = some t → args[j]? = some v → Value.okWide Try.prog W .any base t v := hval0
  have hW' := hW
  obtain ⟨p, q, hA0, hV, rfl, hfz, hnd⟩ := hW
  have hA : DataW.TrodAll enc Try.prog W 0 (fun _ => true) true Try.f10.params.toList args.toList ds p := hA0
  rw [Try.params10] at hA hval
  obtain ⟨v0, vs0, d0, ds0, p0, q0, hargs, rfl, rfl, h0, r0⟩ := trodAll_cons hA
  obtain ⟨rfl, rfl, rfl⟩ := trodAll_nil r0
  obtain rfl : args = #[v0] := by cases args; simp_all
  obtain ⟨rfl, rfl⟩ := trodVars_none hV
  have k0 := h0
  have lt0 : ∀ x ∈ p0, x.block < W.heap.size := by obtain ⟨m, hm⟩ := k0; exact DataW.trod_lt m _ _ _ hm
  obtain ⟨a0, len0, cap0, rfl⟩ := okWide_slice Try.underlying22 (hval 0 22 v0 rfl rfl)
  obtain ⟨z0, w0⟩ := open_rowM h0
  clear hA0 hval0
  refine (ex_any W a0 len0 cap0 z0 w0).mono fun e W' ⟨he, bel⟩ => ?_
  subst he
  exact ⟨_, rfl, _, _, _, [], _, [], hW', trodAll_mk1 (shut_bool Try.underlying4 _), (trodAll_cons_mk (Below.trod laidOut (by kernel_rfl) (of_decide_eq_true (by kernel_rfl)) k0 bel lt0) trodAll_mk0), rfl, bel.frame _, fun h => by cases h⟩
theorem joined : joinedFacts Try.pinned.checked.prog 10 Try.f10 Rows.fnExactTableOfSpec Rows.fnExactTableOfRow = true := by
  unfold joinedFacts
  simp only [Bool.and_eq_true]
  repeat' apply And.intro
  iterate 25 kernel_rfl
  exact mk_enter
  exact mk_lifts
  exact mk_make
  iterate 4 kernel_rfl
theorem over : Rows.fnExactTableOfRow.holds Try.pinned (OpenSpec.ofChange Rows.fnExactTableOfSpec) :=
  OpenClaim.holds_of_wide 10 Try.f10 rfl rfl rfl rfl rfl rfl rfl ⟨rfl, rfl, rfl, rfl, rfl⟩ rfl rfl rfl rfl rfl (by kernel_rfl) Try.func10 joined
    (of_decide_eq_true (by kernel_rfl)) (by unfold Func.isWrapper; rw [if_neg (of_decide_eq_false (by kernel_rfl))]; exact ⟨rfl, rfl⟩)
    (fun os started H enc _ => lifted os started H enc)
/-- The statement of FnExactTableOf. -/
theorem proved : Rows.FnExactTableOfSaid := over
#print axioms proved
end LFnExactTableOf

end Go.Proofs.Ytoagpklippdlmaa
