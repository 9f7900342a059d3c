/- The law FnExactQuotientTable is true at every input: impl.QuotientTable and spec.QuotientTable give the same code and the same rows, in new memory, and what came in stays as it was. No conditions. -/
import Derived.Test.YtoagpklippdlmaaMk
import Derived.Test.YtoagpklippdlmaaQut
import Derived.Test.YtoagpklippdlmaaRdt
import Derived.Test.YtoagpklippdlmaaMark
import Derived.Test.YtoagpklippdlmaaRowM
import Derived.Test.YtoagpklippdlmaaRss
import Derived.Test.YtoagpklippdlmaaRowS
namespace Go.Proofs.Ytoagpklippdlmaa
open Go.ChangeShapes Go.WideShapes Go.ChangeAt Go.RowKit
namespace LFnExactQuotientTable

set_option maxRecDepth 100000 in
set_option maxHeartbeats 4000000 in
theorem ex_any (w : World) (a1 : Option Addr) (len1 cap1 : Nat) (L : List MapN) (hw1 : L.length = len1 ∧ InRowM w a1 L ∧ (a1 = none → cap1 = 0) ∧ len1 ≤ maxLen) (a2 : Option Addr) (len2 cap2 : Nat) (X : List Int) (hw2 : X.length = len2 ∧ InRow w a2 X) (wf2 : ∀ x ∈ X, (Lit.int .i64 x).wf = true) :
    Calls Try.prog 9 #[.slice a1 len1 cap1, .slice a2 len2 cap2] w fun e w' => e = .returned (.bool true) ∧ Below w.heap.size w w' := by
  obtain ⟨rfl, h1, _, h91⟩ := hw1
  have HM1 := Lib.hid h1
  have H91 := Lib.hid h91
  clear h1 h91
  obtain ⟨rfl, h2⟩ := hw2
  have HM2 := Lib.hid h2
  clear h2
  by_cases hl2 : X.length ≤ 1048576
  · have hng2 : ¬ (1048576 < (X.length : Int)) := by omega
    by_cases hl1 : L.length ≤ 1048576
    · have hng1 : ¬ ((1048576 : Int) - (L.length : Int) < 0) := by omega
      have HS := fun w (g1 : Nat) (g2 : Nat) h1 h2 => sQut_any L hl1 X hl2 wf2 (some ⟨g1, 0, none⟩) L.length (fun e => by cases e) (some ⟨g2, 0, none⟩) X.length w h1 h2
      have HI := fun w (g1 : Nat) (g2 : Nat) h1 h2 => iQut_any L hl1 X hl2 wf2 (some ⟨g1, 0, none⟩) L.length (fun e => by cases e) (some ⟨g2, 0, none⟩) X.length w h1 h2
      generalize qutL L X = R at *
      generalize cgC L [X] = C at *
      have HS := Lib.hid HS
      have HI := Lib.hid HI
      go_enter Try.func9, Try.ntmps9
      go_wp2_with (go_at_call 13; (with_reducible refine (sz_any L.length a1 cap1 hl1 _).mono ?_); rintro e w ⟨rfl, rfl⟩)
      refine (toMS_any L hl1 a1 cap1 _ (HM1.out.below (by (repeat' (first | (with_reducible exact Below.refl _ _) | (with_reducible refine Below.alloc ?_ ?_ _) | (with_reducible refine Below.setCell ?_ ?_ _) | (with_reducible refine Below.drew ?_) | (with_reducible refine below_drewN ?_ _) | (with_reducible refine Below.trans ?_ (Below.mono (Hid.out (by assumption)) ?_)) | omega | (simp; done) | (simp; omega)))))).mono ?_
      rintro e wab ⟨_, rfl, hr, hb, rfl, hgrwab⟩
      obtain ⟨hc, hf⟩ := bcell hb
      have hzwab := hb.size
      have HBwab := Lib.hid hb
      (try simp at hzwab hc hf)
      have hlwab : w.heap.size ≤ wab.heap.size := (by omega)
      (try simp only [World.size_alloc] at hr)
      have Rwab := Lib.hid hr
      clear hb hf hr
      go_wp2_with fail
      refine (toS_any X hl2 a2 cap2 _ (HM2.out.below (by (repeat' (first | (with_reducible exact Below.refl _ _) | (with_reducible refine Below.alloc ?_ ?_ _) | (with_reducible refine Below.setCell ?_ ?_ _) | (with_reducible refine Below.drew ?_) | (with_reducible refine below_drewN ?_ _) | (with_reducible refine Below.trans ?_ (Below.mono (Hid.out (by assumption)) ?_)) | omega | (simp; done) | (simp; omega)))))).mono ?_
      rintro e wac ⟨_, rfl, hr, hb, rfl, hgrwac⟩
      obtain ⟨hc, hf⟩ := bcell hb
      have hzwac := hb.size
      have HBwac := Lib.hid hb
      (try simp at hzwac hc hf)
      have hlwac : w.heap.size ≤ wac.heap.size := (by omega)
      (try simp only [World.size_alloc] at hr)
      have Rwac := Lib.hid hr
      clear hb hf hr
      have Y0 : Hid (RdM wac _ _ L) := Lib.hid (Rwab.out.below (by (repeat' (first | (with_reducible exact Below.refl _ _) | (with_reducible refine Below.alloc ?_ ?_ _) | (with_reducible refine Below.setCell ?_ ?_ _) | (with_reducible refine Below.drew ?_) | (with_reducible refine below_drewN ?_ _) | (with_reducible refine Below.trans ?_ (Below.mono (Hid.out (by assumption)) ?_)) | omega | (simp; done) | (simp; omega)))))
      go_wp2_with fail
      refine (HS.out _ _ _ Y0.out.inRow Rwac.out.inRow).mono ?_
      rintro e wad ⟨awad, cwad, rfl, hr, hmkwad, hb⟩
      obtain ⟨hc, hf⟩ := bcell hb
      have hzwad := hb.size
      have HBwad := Lib.hid hb
      (try simp at hzwad hc hf)
      have hlwad : w.heap.size < wad.heap.size := (by omega)
      have Rwad := Lib.hid hr
      have HMKwad := Lib.hid hmkwad
      clear hb hf hr hmkwad
      go_wp2_with fail
      refine (toMS_any L hl1 a1 cap1 _ (HM1.out.below (by (repeat' (first | (with_reducible exact Below.refl _ _) | (with_reducible refine Below.alloc ?_ ?_ _) | (with_reducible refine Below.setCell ?_ ?_ _) | (with_reducible refine Below.drew ?_) | (with_reducible refine below_drewN ?_ _) | (with_reducible refine Below.trans ?_ (Below.mono (Hid.out (by assumption)) ?_)) | omega | (simp; done) | (simp; omega)))))).mono ?_
      rintro e wae ⟨_, rfl, hr, hb, rfl, hgrwae⟩
      obtain ⟨hc, hf⟩ := bcell hb
      have hzwae := hb.size
      have HBwae := Lib.hid hb
      (try simp at hzwae hc hf)
      have hlwae : w.heap.size ≤ wae.heap.size := (by omega)
      (try simp only [World.size_alloc] at hr)
      have Rwae := Lib.hid hr
      clear hb hf hr
      go_wp2_with fail
      refine (toS_any X hl2 a2 cap2 _ (HM2.out.below (by (repeat' (first | (with_reducible exact Below.refl _ _) | (with_reducible refine Below.alloc ?_ ?_ _) | (with_reducible refine Below.setCell ?_ ?_ _) | (with_reducible refine Below.drew ?_) | (with_reducible refine below_drewN ?_ _) | (with_reducible refine Below.trans ?_ (Below.mono (Hid.out (by assumption)) ?_)) | omega | (simp; done) | (simp; omega)))))).mono ?_
      rintro e wba ⟨_, rfl, hr, hb, rfl, hgrwba⟩
      obtain ⟨hc, hf⟩ := bcell hb
      have hzwba := hb.size
      have HBwba := Lib.hid hb
      (try simp at hzwba hc hf)
      have hlwba : w.heap.size ≤ wba.heap.size := (by omega)
      (try simp only [World.size_alloc] at hr)
      have Rwba := Lib.hid hr
      clear hb hf hr
      have Y1 : Hid (RdM wba _ _ L) := Lib.hid (Rwae.out.below (by (repeat' (first | (with_reducible exact Below.refl _ _) | (with_reducible refine Below.alloc ?_ ?_ _) | (with_reducible refine Below.setCell ?_ ?_ _) | (with_reducible refine Below.drew ?_) | (with_reducible refine below_drewN ?_ _) | (with_reducible refine Below.trans ?_ (Below.mono (Hid.out (by assumption)) ?_)) | omega | (simp; done) | (simp; omega)))))
      go_wp2_with fail
      refine (HI.out _ _ _ Y1.out.inRow Rwba.out.inRow).mono ?_
      rintro e wbb ⟨awbb, cwbb, rfl, hr, hmkwbb, hb⟩
      obtain ⟨hc, hf⟩ := bcell hb
      have hzwbb := hb.size
      have HBwbb := Lib.hid hb
      (try simp at hzwbb hc hf)
      have hlwbb : w.heap.size < wbb.heap.size := (by omega)
      have Rwbb := Lib.hid hr
      have HMKwbb := Lib.hid hmkwbb
      clear hb hf hr hmkwbb
      have Y2 : Hid (RdT wbb _ _ awad R) := Lib.hid (Rwad.out.below (by (repeat' (first | (with_reducible exact Below.refl _ _) | (with_reducible refine Below.alloc ?_ ?_ _) | (with_reducible refine Below.setCell ?_ ?_ _) | (with_reducible refine Below.drew ?_) | (with_reducible refine below_drewN ?_ _) | (with_reducible refine Below.trans ?_ (Below.mono (Hid.out (by assumption)) ?_)) | omega | (simp; done) | (simp; omega)))))
      go_wp2_with fail
      refine (eqT_any R awbb awad cwbb cwad _ Rwbb.out.len Rwbb.out.rlen (Rwbb.out).inRowL (Y2.out).inRowL).mono ?_
      rintro e wbc ⟨rfl, hb⟩
      obtain ⟨hc, hf⟩ := bcell hb
      have hzwbc := hb.size
      have HBwbc := Lib.hid hb
      (try simp at hzwbc hc hf)
      have hlwbc : w.heap.size < wbc.heap.size := (by omega)
      clear hb hf
      go_wp2_with fail
      refine (toMS_any L hl1 a1 cap1 _ (HM1.out.below (by (repeat' (first | (with_reducible exact Below.refl _ _) | (with_reducible refine Below.alloc ?_ ?_ _) | (with_reducible refine Below.setCell ?_ ?_ _) | (with_reducible refine Below.drew ?_) | (with_reducible refine below_drewN ?_ _) | (with_reducible refine Below.trans ?_ (Below.mono (Hid.out (by assumption)) ?_)) | omega | (simp; done) | (simp; omega)))))).mono ?_
      rintro e wbd ⟨_, rfl, hr, hb, rfl, hgrwbd⟩
      obtain ⟨hc, hf⟩ := bcell hb
      have hzwbd := hb.size
      have HBwbd := Lib.hid hb
      (try simp at hzwbd hc hf)
      have hlwbd : w.heap.size ≤ wbd.heap.size := (by omega)
      (try simp only [World.size_alloc] at hr)
      have Rwbd := Lib.hid hr
      clear hb hf hr
      have Y3 : Hid (RdM wbd _ _ L) := Lib.hid (Rwae.out.below (by (repeat' (first | (with_reducible exact Below.refl _ _) | (with_reducible refine Below.alloc ?_ ?_ _) | (with_reducible refine Below.setCell ?_ ?_ _) | (with_reducible refine Below.drew ?_) | (with_reducible refine below_drewN ?_ _) | (with_reducible refine Below.trans ?_ (Below.mono (Hid.out (by assumption)) ?_)) | omega | (simp; done) | (simp; omega)))))
      go_wp2_with fail
      refine (eqMS_same L _ _ L.length L.length (by omega) _ Y3.out.inRow Rwbd.out.inRow).mono ?_
      rintro e wbe ⟨rfl, hb⟩
      obtain ⟨hc, hf⟩ := bcell hb
      have hzwbe := hb.size
      have HBwbe := Lib.hid hb
      (try simp at hzwbe hc hf)
      have hlwbe : w.heap.size < wbe.heap.size := (by omega)
      clear hb hf
      go_wp2_with fail
      refine (toS_any X hl2 a2 cap2 _ (HM2.out.below (by (repeat' (first | (with_reducible exact Below.refl _ _) | (with_reducible refine Below.alloc ?_ ?_ _) | (with_reducible refine Below.setCell ?_ ?_ _) | (with_reducible refine Below.drew ?_) | (with_reducible refine below_drewN ?_ _) | (with_reducible refine Below.trans ?_ (Below.mono (Hid.out (by assumption)) ?_)) | omega | (simp; done) | (simp; omega)))))).mono ?_
      rintro e wca ⟨_, rfl, hr, hb, rfl, hgrwca⟩
      obtain ⟨hc, hf⟩ := bcell hb
      have hzwca := hb.size
      have HBwca := Lib.hid hb
      (try simp at hzwca hc hf)
      have hlwca : w.heap.size ≤ wca.heap.size := (by omega)
      (try simp only [World.size_alloc] at hr)
      have Rwca := Lib.hid hr
      clear hb hf hr
      have Y4 : Hid (Rd wca _ _ X) := Lib.hid (Rwba.out.below (by (repeat' (first | (with_reducible exact Below.refl _ _) | (with_reducible refine Below.alloc ?_ ?_ _) | (with_reducible refine Below.setCell ?_ ?_ _) | (with_reducible refine Below.drew ?_) | (with_reducible refine below_drewN ?_ _) | (with_reducible refine Below.trans ?_ (Below.mono (Hid.out (by assumption)) ?_)) | omega | (simp; done) | (simp; omega)))))
      go_wp2_with fail
      refine (eqS_same X _ _ X.length X.length _ _ _ Y4.out Rwca.out).mono ?_
      rintro e wcb ⟨rfl, hb⟩
      obtain ⟨hc, hf⟩ := bcell hb
      have hzwcb := hb.size
      have HBwcb := Lib.hid hb
      (try simp at hzwcb hc hf)
      have hlwcb : w.heap.size < wcb.heap.size := (by omega)
      clear hb hf
      have Y5 : Hid (RdM wcb _ _ L) := Lib.hid (Rwae.out.below (by (repeat' (first | (with_reducible exact Below.refl _ _) | (with_reducible refine Below.alloc ?_ ?_ _) | (with_reducible refine Below.setCell ?_ ?_ _) | (with_reducible refine Below.drew ?_) | (with_reducible refine below_drewN ?_ _) | (with_reducible refine Below.trans ?_ (Below.mono (Hid.out (by assumption)) ?_)) | omega | (simp; done) | (simp; omega)))))
      have Y6 : Hid (Rd wcb _ _ X) := Lib.hid (Rwba.out.below (by (repeat' (first | (with_reducible exact Below.refl _ _) | (with_reducible refine Below.alloc ?_ ?_ _) | (with_reducible refine Below.setCell ?_ ?_ _) | (with_reducible refine Below.drew ?_) | (with_reducible refine below_drewN ?_ _) | (with_reducible refine Below.trans ?_ (Below.mono (Hid.out (by assumption)) ?_)) | omega | (simp; done) | (simp; omega)))))
      have Y7 : Hid (RdT wcb _ _ awbb R) := Lib.hid (Rwbb.out.below (by (repeat' (first | (with_reducible exact Below.refl _ _) | (with_reducible refine Below.alloc ?_ ?_ _) | (with_reducible refine Below.setCell ?_ ?_ _) | (with_reducible refine Below.drew ?_) | (with_reducible refine below_drewN ?_ _) | (with_reducible refine Below.trans ?_ (Below.mono (Hid.out (by assumption)) ?_)) | omega | (simp; done) | (simp; omega)))))
      go_wp2_with fail
      refine (markM_any L _ L.length _ (1) (by omega) (by omega) _ Y5.out).mono ?_
      rintro e wcc ⟨rfl, hr, hbut, hb⟩
      obtain ⟨hc, hf⟩ := bcell hb
      have hzwcc := hb.size
      have HBwcc := Lib.hid hb
      (try simp at hzwcc hc hf)
      have hlwcc : w.heap.size < wcc.heap.size := (by omega)
      have Rwcc := Lib.hid hr
      have BTwcc := Lib.hid hbut
      clear hb hf hr hbut
      have Y8 : Hid (RdT wcc _ _ awbb R) := Lib.hid (Y7.out.but BTwcc.out (by omega))
      have Y9 : Hid (Rd wcc _ _ X) := Lib.hid (Y6.out.but BTwcc.out (by omega))
      go_wp2_with fail
      refine (markS_any X _ X.length _ (1 + 6 * (L.length : Int)) (by omega) (by omega) _ Y9.out).mono ?_
      rintro e wcd ⟨rfl, hr, hbut, hb⟩
      obtain ⟨hc, hf⟩ := bcell hb
      have hzwcd := hb.size
      have HBwcd := Lib.hid hb
      (try simp at hzwcd hc hf)
      have hlwcd : w.heap.size < wcd.heap.size := (by omega)
      have Rwcd := Lib.hid hr
      have BTwcd := Lib.hid hbut
      clear hb hf hr hbut
      have Y10 : Hid (RdT wcd _ _ awbb R) := Lib.hid (Y8.out.but BTwcd.out (by omega))
      have hq0 : (1 + 6 * (L.length : Int) + (X.length : Int) < 0) = False := by simp; omega
      have Y11 : Hid (RdT wcd _ _ awad R) := Lib.hid (Rwad.out.below (by (repeat' (first | (with_reducible exact Below.refl _ _) | (with_reducible refine Below.alloc ?_ ?_ _) | (with_reducible refine Below.setCell ?_ ?_ _) | (with_reducible refine Below.drew ?_) | (with_reducible refine below_drewN ?_ _) | (with_reducible refine Below.trans ?_ (Below.mono (Hid.out (by assumption)) ?_)) | omega | (simp; done) | (simp; omega)))))
      go_wp2_with fail
      refine (eqT_any R awbb awad cwbb cwad _ Y10.out.len Y10.out.rlen (Y10.out).inRowL (Y11.out).inRowL).mono ?_
      rintro e wce ⟨rfl, hb⟩
      obtain ⟨hc, hf⟩ := bcell hb
      have hzwce := hb.size
      have HBwce := Lib.hid hb
      (try simp at hzwce hc hf)
      have hlwce : w.heap.size < wce.heap.size := (by omega)
      clear hb hf
      have Y12 : Hid (RdT wce _ _ awbb R) := Lib.hid (Y10.out.below (by (repeat' (first | (with_reducible exact Below.refl _ _) | (with_reducible refine Below.alloc ?_ ?_ _) | (with_reducible refine Below.setCell ?_ ?_ _) | (with_reducible refine Below.drew ?_) | (with_reducible refine below_drewN ?_ _) | (with_reducible refine Below.trans ?_ (Below.mono (Hid.out (by assumption)) ?_)) | omega | (simp; done) | (simp; omega)))))
      obtain ⟨mm, hmm⟩ : ∃ mm, mm = mkF R 1 := ⟨_, rfl⟩
      have hmm1 : 1 ≤ mm := by rw [hmm]; exact mkF_ge _ _
      have HMR := markT_any R awbb cwbb _ _ 1 (by decide) HMKwbb.out _ Y12.out
      rw [← hmm] at HMR
      have HMR := Lib.hid HMR
      have HHD := fun w B2 C2 h => heldT_any R Y12.out.rlen awbb cwbb B2 C2 1 (by decide) HMKwbb.out w h
      rw [← hmm] at HHD
      have HHD := Lib.hid HHD
      clear hmm
      go_wp2_with fail
      refine (HMR.out).mono ?_
      rintro e wda ⟨rfl, hr, hbut, hb⟩
      obtain ⟨hc, hf⟩ := bcell hb
      have hzwda := hb.size
      have HBwda := Lib.hid hb
      (try simp at hzwda hc hf)
      have hlwda : w.heap.size < wda.heap.size := (by omega)
      have Rwda := Lib.hid hr
      have BTwda := Lib.hid hbut
      clear hb hf hr hbut
      go_wp2_with fail
      refine (HHD.out _ _ _ Rwda.out).mono ?_
      rintro e wdb ⟨rfl, hb⟩
      obtain ⟨hc, hf⟩ := bcell hb
      have hzwdb := hb.size
      have HBwdb := Lib.hid hb
      (try simp at hzwdb hc hf)
      have hlwdb : w.heap.size < wdb.heap.size := (by omega)
      clear hb hf
      have hq : (mm < 0) = False := by simp; omega
      go_wp2_with fail
      refine (toMS_any L hl1 a1 cap1 _ (HM1.out.below (by (repeat' (first | (with_reducible exact Below.refl _ _) | (with_reducible refine Below.alloc ?_ ?_ _) | (with_reducible refine Below.setCell ?_ ?_ _) | (with_reducible refine Below.drew ?_) | (with_reducible refine below_drewN ?_ _) | (with_reducible refine Below.trans ?_ (Below.mono (Hid.out (by assumption)) ?_)) | omega | (simp; done) | (simp; omega)))))).mono ?_
      rintro e wdc ⟨_, rfl, hr, hb, rfl, hgrwdc⟩
      obtain ⟨hc, hf⟩ := bcell hb
      have hzwdc := hb.size
      have HBwdc := Lib.hid hb
      (try simp at hzwdc hc hf)
      have hlwdc : w.heap.size ≤ wdc.heap.size := (by omega)
      (try simp only [World.size_alloc] at hr)
      have Rwdc := Lib.hid hr
      clear hb hf hr
      go_wp2_with fail
      refine (toS_any X hl2 a2 cap2 _ (HM2.out.below (by (repeat' (first | (with_reducible exact Below.refl _ _) | (with_reducible refine Below.alloc ?_ ?_ _) | (with_reducible refine Below.setCell ?_ ?_ _) | (with_reducible refine Below.drew ?_) | (with_reducible refine below_drewN ?_ _) | (with_reducible refine Below.trans ?_ (Below.mono (Hid.out (by assumption)) ?_)) | omega | (simp; done) | (simp; omega)))))).mono ?_
      rintro e wdd ⟨_, rfl, hr, hb, rfl, hgrwdd⟩
      obtain ⟨hc, hf⟩ := bcell hb
      have hzwdd := hb.size
      have HBwdd := Lib.hid hb
      (try simp at hzwdd hc hf)
      have hlwdd : w.heap.size ≤ wdd.heap.size := (by omega)
      (try simp only [World.size_alloc] at hr)
      have Rwdd := Lib.hid hr
      clear hb hf hr
      have Y13 : Hid (RdM wdd _ _ L) := Lib.hid (Rwdc.out.below (by (repeat' (first | (with_reducible exact Below.refl _ _) | (with_reducible refine Below.alloc ?_ ?_ _) | (with_reducible refine Below.setCell ?_ ?_ _) | (with_reducible refine Below.drew ?_) | (with_reducible refine below_drewN ?_ _) | (with_reducible refine Below.trans ?_ (Below.mono (Hid.out (by assumption)) ?_)) | omega | (simp; done) | (simp; omega)))))
      go_wp2_with fail
      refine (HI.out _ _ _ Y13.out.inRow Rwdd.out.inRow).mono ?_
      rintro e wde ⟨awde, cwde, rfl, hr, hmkwde, hb⟩
      obtain ⟨hc, hf⟩ := bcell hb
      have hzwde := hb.size
      have HBwde := Lib.hid hb
      (try simp at hzwde hc hf)
      have hlwde : w.heap.size < wde.heap.size := (by omega)
      have Rwde := Lib.hid hr
      have HMKwde := Lib.hid hmkwde
      clear hb hf hr hmkwde
      have Y14 : Hid (RdT wde _ _ awad R) := Lib.hid (Rwad.out.below (by (repeat' (first | (with_reducible exact Below.refl _ _) | (with_reducible refine Below.alloc ?_ ?_ _) | (with_reducible refine Below.setCell ?_ ?_ _) | (with_reducible refine Below.drew ?_) | (with_reducible refine below_drewN ?_ _) | (with_reducible refine Below.trans ?_ (Below.mono (Hid.out (by assumption)) ?_)) | omega | (simp; done) | (simp; omega)))))
      go_wp2_with fail
      refine (eqT_any R awde awad cwde cwad _ Rwde.out.len Rwde.out.rlen (Rwde.out).inRowL (Y14.out).inRowL).mono ?_
      rintro e wea ⟨rfl, hb⟩
      obtain ⟨hc, hf⟩ := bcell hb
      have hzwea := hb.size
      have HBwea := Lib.hid hb
      (try simp at hzwea hc hf)
      have hlwea : w.heap.size < wea.heap.size := (by omega)
      clear hb hf
      have Y15 : Hid (RdT wea _ _ awbb (mkLL R 1)) := Lib.hid (Rwda.out.below (by (repeat' (first | (with_reducible exact Below.refl _ _) | (with_reducible refine Below.alloc ?_ ?_ _) | (with_reducible refine Below.setCell ?_ ?_ _) | (with_reducible refine Below.drew ?_) | (with_reducible refine below_drewN ?_ _) | (with_reducible refine Below.trans ?_ (Below.mono (Hid.out (by assumption)) ?_)) | omega | (simp; done) | (simp; omega)))))
      go_wp2_with fail
      refine (HHD.out _ _ _ Y15.out).mono ?_
      rintro e web ⟨rfl, hb⟩
      obtain ⟨hc, hf⟩ := bcell hb
      have hzweb := hb.size
      have HBweb := Lib.hid hb
      (try simp at hzweb hc hf)
      have hlweb : w.heap.size < web.heap.size := (by omega)
      clear hb hf
      go_wp2_with fail
      go_ret
      refine ⟨rfl, ?_⟩
      (repeat' (first | (with_reducible exact Below.refl _ _) | (with_reducible refine Below.alloc ?_ ?_ _) | (with_reducible refine Below.setCell ?_ ?_ _) | (with_reducible refine Below.drew ?_) | (with_reducible refine below_drewN ?_ _) | (with_reducible refine Below.trans ?_ (Below.mono (Hid.out (by assumption)) ?_)) | omega | (simp; done) | (simp; omega)))
    · have hbig : 1048576 < L.length := by omega
      go_enter Try.func9, Try.ntmps9
      go_wp2_with (go_at_call 13; (with_reducible refine (sz_big L.length a1 cap1 hbig H91.out _).mono ?_); rintro e w ⟨rfl, rfl⟩)
      go_ret
      exact ⟨rfl, Below.refl _ _⟩
  · have hbig : 1048576 < (X.length : Int) := by omega
    go_enter Try.func9, Try.ntmps9
    go_wp2_with fail
    go_ret
    exact ⟨rfl, Below.refl _ _⟩

end LFnExactQuotientTable

namespace LFnExactQuotientTable
set_option maxRecDepth 100000 in
theorem lifted (os : Os) (started : os.Started) (H : Type) (enc : TypeId × Value → H) :
    ReturnsInHanded {} Try.checked os 9 .any (Rows.fnExactQuotientTableSpec.pre6 enc Try.prog Try.f9 Rows.fnExactQuotientTableRow.domain false) (Rows.fnExactQuotientTableSpec.post enc Try.prog Try.f9 false true false false) := by
  refine returnsInHanded_of_change (C := Try.checked) own started (by kernel_rfl) Try.func9
    (ChangeSpec.witness6 (enc := enc) (C := Try.checked) false ⟨#[], #[.slice none 0 0, .slice none 0 0], []⟩ 8 (by kernel_rfl) (by kernel_rfl) (by kernel_rfl) (by kernel_rfl)) ?_
  intro W base args ds gs before hval0 hW _ _
  have hval : ∀ (j : Nat) t v, Try.f9.params[j]? = some t → args[j]? = some v → Value.okWide Try.prog W .any base t v := hval0
  have hW' := hW
  obtain ⟨p, q, hA0, hV, rfl, hfz, hnd⟩ := hW
  have hA : DataW.TrodAll enc Try.prog W 0 (fun _ => true) true Try.f9.params.toList args.toList ds p := hA0
  rw [Try.params9] at hA hval
  obtain ⟨v0, vs0, d0, ds0, p0, q0, hargs, rfl, rfl, h0, r0⟩ := trodAll_cons hA
  obtain ⟨v1, vs1, d1, ds1, p1, q1, rfl, rfl, rfl, h1, r1⟩ := trodAll_cons r0
  obtain ⟨rfl, rfl, rfl⟩ := trodAll_nil r1
  obtain rfl : args = #[v0, v1] := by cases args; simp_all
  obtain ⟨rfl, rfl⟩ := trodVars_none hV
  have k0 := h0
  have lt0 : ∀ x ∈ p0, x.block < W.heap.size := by obtain ⟨m, hm⟩ := k0; exact DataW.trod_lt m _ _ _ hm
  obtain ⟨a0, len0, cap0, rfl⟩ := okWide_slice Try.underlying22 (hval 0 22 v0 rfl rfl)
  obtain ⟨z0, w0⟩ := open_rowM h0
  have k1 := h1
  have lt1 : ∀ x ∈ p1, x.block < W.heap.size := by obtain ⟨m, hm⟩ := k1; exact DataW.trod_lt m _ _ _ hm
  obtain ⟨a1, len1, cap1, rfl⟩ := okWide_slice Try.underlying26 (hval 1 26 v1 rfl rfl)
  obtain ⟨z1, w1, u1⟩ := open_rowW h1
  clear hA0 hval0
  refine (ex_any W a0 len0 cap0 z0 w0 a1 len1 cap1 z1 w1 u1).mono fun e W' ⟨he, bel⟩ => ?_
  subst he
  exact ⟨_, rfl, _, _, _, [], _, [], hW', trodAll_mk1 (shut_bool Try.underlying4 _), (trodAll_cons_mk (Below.trod laidOut (by kernel_rfl) (of_decide_eq_true (by kernel_rfl)) k0 bel lt0) (trodAll_cons_mk (Below.trod laidOut (by kernel_rfl) (of_decide_eq_true (by kernel_rfl)) k1 bel lt1) trodAll_mk0)), rfl, bel.frame _, fun h => by cases h⟩
theorem joined : joinedFacts Try.pinned.checked.prog 9 Try.f9 Rows.fnExactQuotientTableSpec Rows.fnExactQuotientTableRow = true := by
  unfold joinedFacts
  simp only [Bool.and_eq_true]
  repeat' apply And.intro
  iterate 25 kernel_rfl
  exact mk_enter
  exact mk_lifts
  exact mk_make
  iterate 4 kernel_rfl
theorem over : Rows.fnExactQuotientTableRow.holds Try.pinned (OpenSpec.ofChange Rows.fnExactQuotientTableSpec) :=
  OpenClaim.holds_of_wide 9 Try.f9 rfl rfl rfl rfl rfl rfl rfl ⟨rfl, rfl, rfl, rfl, rfl⟩ rfl rfl rfl rfl rfl (by kernel_rfl) Try.func9 joined
    (of_decide_eq_true (by kernel_rfl)) (by unfold Func.isWrapper; rw [if_neg (of_decide_eq_false (by kernel_rfl))]; exact ⟨rfl, rfl⟩)
    (fun os started H enc _ => lifted os started H enc)
/-- The statement of FnExactQuotientTable. -/
theorem proved : Rows.FnExactQuotientTableSaid := over
#print axioms proved
end LFnExactQuotientTable

end Go.Proofs.Ytoagpklippdlmaa
