/- The law FnExactFixedByWord is true at every input: impl.FixedByWord and spec.FixedByWord give the same points and the same code, in memory of its own, and the lists that came in stay as they were. One condition, tied to the program's text by the card: the package's error lies in its variable as its initialiser lays it. -/
import Derived.Test.YthdjajelbpccpaaDoorMk
import Derived.Test.YthdjajelbpccpaaDoorRfs
import Derived.Test.YthdjajelbpccpaaDoorRowM
import Derived.Test.YthdjajelbpccpaaDoorRowS
import Derived.Test.YthdjajelbpccpaaDoorMark
import Derived.Test.YthdjajelbpccpaaDoorSl
import Derived.Test.YthdjajelbpccpaaDoorErr
import Derived.Test.YthdjajelbpccpaaDoorCards
import Derived.Test.YthdjajelbpccpaaDoorTie
import Derived.SevenTiedAt
namespace Go.Proofs.YthdjajelbpccpaaDoor
open Go.ChangeShapes Go.WideShapes Go.ChangeAt Go.RowKit
namespace LFnExactFixedByWord

set_option maxRecDepth 100000 in
set_option maxHeartbeats 4000000 in
theorem ex_any (w : World) (hER : Er w) (a1 : Option Addr) (len1 cap1 : Nat) (L : List MapN) (hw1 : L.length = len1 ∧ InRowM w a1 L ∧ (a1 = none → cap1 = 0) ∧ len1 ≤ maxLen) (a2 : Option Addr) (len2 cap2 : Nat) (W : List Int) (hw2 : W.length = len2 ∧ InRow w a2 W) :
    Calls Tryd.prog 6 #[.slice a1 len1 cap1, .slice a2 len2 cap2] w fun e w' => e = .returned (.bool true) ∧ Below w.heap.size w w' := by
  have HER := Lib.hid hER
  clear hER
  obtain ⟨rfl, h1, _, h91⟩ := hw1
  have HM1 := Lib.hid h1
  have H91 := Lib.hid h91
  clear h1 h91
  obtain ⟨rfl, h2⟩ := hw2
  have HM2 := Lib.hid h2
  clear h2
  by_cases hl2 : W.length ≤ 1048576
  · have hng2 : ¬ (1048576 < (W.length : Int)) := by omega
    by_cases hl1 : L.length ≤ 1048576
    · have hng1 : ¬ ((1048576 : Int) - (L.length : Int) < 0) := by omega
      have HS := fun w (g1 : Nat) (g2 : Nat) h1 h2 => sFbw_any L hl1 W hl2 (some ⟨g1, 0, none⟩) L.length (fun e => by cases e) (some ⟨g2, 0, none⟩) W.length w h1 h2
      have HI := fun w (g1 : Nat) (g2 : Nat) h1 h2 he => iFbw_any L hl1 W hl2 (some ⟨g1, 0, none⟩) L.length (fun e => by cases e) (some ⟨g2, 0, none⟩) W.length w h1 h2 he
      generalize fbwL L W = R at *
      generalize w5C L W = C at *
      have HS := Lib.hid HS
      have HI := Lib.hid HI
      go_enter Tryd.func6, Tryd.ntmps6
      go_wp2_with (go_at_call 8; (with_reducible refine (sz_any L.length a1 cap1 hl1 _).mono ?_); rintro e w ⟨rfl, rfl⟩)
      refine (toMS_any L hl1 a1 cap1 _ HM1.out).mono ?_
      rintro e wab ⟨_, rfl, hr, hb, rfl, hgrwab⟩
      obtain ⟨hc, hf⟩ := bcell hb
      have hzwab := hb.size
      have HBwab := Lib.hid hb
      (try simp at hzwab hc hf)
      have hlwab : w.heap.size ≤ wab.heap.size := (by omega)
      (try simp only [World.size_alloc] at hr)
      have Rwab := Lib.hid hr
      clear hb hf hr
      go_wp2_with fail
      refine (toS_any W hl2 a2 cap2 _ (HM2.out.below (by (repeat' (first | (with_reducible exact Below.refl _ _) | (with_reducible refine Below.alloc ?_ ?_ _) | (with_reducible refine Below.setCell ?_ ?_ _) | (with_reducible refine Below.drew ?_) | (with_reducible refine below_drewN ?_ _) | (with_reducible refine Below.trans ?_ (Below.mono (Hid.out (by assumption)) ?_)) | omega | (simp; done) | (simp; omega)))))).mono ?_
      rintro e wac ⟨_, rfl, hr, hb, rfl, hgrwac⟩
      obtain ⟨hc, hf⟩ := bcell hb
      have hzwac := hb.size
      have HBwac := Lib.hid hb
      (try simp at hzwac hc hf)
      have hlwac : w.heap.size ≤ wac.heap.size := (by omega)
      (try simp only [World.size_alloc] at hr)
      have Rwac := Lib.hid hr
      clear hb hf hr
      have Y0 : Hid (RdM wac _ _ L) := Lib.hid (Rwab.out.below (by (repeat' (first | (with_reducible exact Below.refl _ _) | (with_reducible refine Below.alloc ?_ ?_ _) | (with_reducible refine Below.setCell ?_ ?_ _) | (with_reducible refine Below.drew ?_) | (with_reducible refine below_drewN ?_ _) | (with_reducible refine Below.trans ?_ (Below.mono (Hid.out (by assumption)) ?_)) | omega | (simp; done) | (simp; omega)))))
      go_wp2_with fail
      refine (HS.out _ _ _ Y0.out.inRow Rwac.out.inRow).mono ?_
      rintro e wad ⟨awad, cwad, rfl, hr, hb⟩
      obtain ⟨hc, hf⟩ := bcell hb
      have hzwad := hb.size
      have HBwad := Lib.hid hb
      (try simp at hzwad hc hf)
      have hlwad : w.heap.size < wad.heap.size := (by omega)
      have Rwad := Lib.hid hr
      clear hb hf hr
      go_wp2_with fail
      refine (toMS_any L hl1 a1 cap1 _ (HM1.out.below (by (repeat' (first | (with_reducible exact Below.refl _ _) | (with_reducible refine Below.alloc ?_ ?_ _) | (with_reducible refine Below.setCell ?_ ?_ _) | (with_reducible refine Below.drew ?_) | (with_reducible refine below_drewN ?_ _) | (with_reducible refine Below.trans ?_ (Below.mono (Hid.out (by assumption)) ?_)) | omega | (simp; done) | (simp; omega)))))).mono ?_
      rintro e wae ⟨_, rfl, hr, hb, rfl, hgrwae⟩
      obtain ⟨hc, hf⟩ := bcell hb
      have hzwae := hb.size
      have HBwae := Lib.hid hb
      (try simp at hzwae hc hf)
      have hlwae : w.heap.size ≤ wae.heap.size := (by omega)
      (try simp only [World.size_alloc] at hr)
      have Rwae := Lib.hid hr
      clear hb hf hr
      go_wp2_with fail
      refine (toS_any W hl2 a2 cap2 _ (HM2.out.below (by (repeat' (first | (with_reducible exact Below.refl _ _) | (with_reducible refine Below.alloc ?_ ?_ _) | (with_reducible refine Below.setCell ?_ ?_ _) | (with_reducible refine Below.drew ?_) | (with_reducible refine below_drewN ?_ _) | (with_reducible refine Below.trans ?_ (Below.mono (Hid.out (by assumption)) ?_)) | omega | (simp; done) | (simp; omega)))))).mono ?_
      rintro e wba ⟨_, rfl, hr, hb, rfl, hgrwba⟩
      obtain ⟨hc, hf⟩ := bcell hb
      have hzwba := hb.size
      have HBwba := Lib.hid hb
      (try simp at hzwba hc hf)
      have hlwba : w.heap.size ≤ wba.heap.size := (by omega)
      (try simp only [World.size_alloc] at hr)
      have Rwba := Lib.hid hr
      clear hb hf hr
      have Y1 : Hid (RdM wba _ _ L) := Lib.hid (Rwae.out.below (by (repeat' (first | (with_reducible exact Below.refl _ _) | (with_reducible refine Below.alloc ?_ ?_ _) | (with_reducible refine Below.setCell ?_ ?_ _) | (with_reducible refine Below.drew ?_) | (with_reducible refine below_drewN ?_ _) | (with_reducible refine Below.trans ?_ (Below.mono (Hid.out (by assumption)) ?_)) | omega | (simp; done) | (simp; omega)))))
      go_wp2_with fail
      refine (HI.out _ _ _ Y1.out.inRow Rwba.out.inRow (HER.out.bel (by (repeat' (first | (with_reducible exact Below.refl _ _) | (with_reducible refine Below.alloc ?_ ?_ _) | (with_reducible refine Below.setCell ?_ ?_ _) | (with_reducible refine Below.drew ?_) | (with_reducible refine below_drewN ?_ _) | (with_reducible refine Below.trans ?_ (Below.mono (Hid.out (by assumption)) ?_)) | omega | (simp; done) | (simp; omega)))))).mono ?_
      rintro e wbb ⟨awbb, cwbb, rfl, hr, hb⟩
      obtain ⟨hc, hf⟩ := bcell hb
      have hzwbb := hb.size
      have HBwbb := Lib.hid hb
      (try simp at hzwbb hc hf)
      have hlwbb : w.heap.size < wbb.heap.size := (by omega)
      have Rwbb := Lib.hid hr
      clear hb hf hr
      have Y2 : Hid (Rd wbb _ awad R) := Lib.hid (Rwad.out.below (by (repeat' (first | (with_reducible exact Below.refl _ _) | (with_reducible refine Below.alloc ?_ ?_ _) | (with_reducible refine Below.setCell ?_ ?_ _) | (with_reducible refine Below.drew ?_) | (with_reducible refine below_drewN ?_ _) | (with_reducible refine Below.trans ?_ (Below.mono (Hid.out (by assumption)) ?_)) | omega | (simp; done) | (simp; omega)))))
      have hlen : R.length ≤ 2000000 := Y2.out.1
      go_wp2_with fail
      refine (eqS_same R awbb awad cwbb cwad _ _ _ (Rwbb.out) (Y2.out)).mono ?_
      rintro e wbc ⟨rfl, hb⟩
      obtain ⟨hc, hf⟩ := bcell hb
      have hzwbc := hb.size
      have HBwbc := Lib.hid hb
      (try simp at hzwbc hc hf)
      have hlwbc : w.heap.size < wbc.heap.size := (by omega)
      clear hb hf
      go_wp2_with fail
      refine (toMS_any L hl1 a1 cap1 _ (HM1.out.below (by (repeat' (first | (with_reducible exact Below.refl _ _) | (with_reducible refine Below.alloc ?_ ?_ _) | (with_reducible refine Below.setCell ?_ ?_ _) | (with_reducible refine Below.drew ?_) | (with_reducible refine below_drewN ?_ _) | (with_reducible refine Below.trans ?_ (Below.mono (Hid.out (by assumption)) ?_)) | omega | (simp; done) | (simp; omega)))))).mono ?_
      rintro e wbd ⟨_, rfl, hr, hb, rfl, hgrwbd⟩
      obtain ⟨hc, hf⟩ := bcell hb
      have hzwbd := hb.size
      have HBwbd := Lib.hid hb
      (try simp at hzwbd hc hf)
      have hlwbd : w.heap.size ≤ wbd.heap.size := (by omega)
      (try simp only [World.size_alloc] at hr)
      have Rwbd := Lib.hid hr
      clear hb hf hr
      have Y3 : Hid (RdM wbd _ _ L) := Lib.hid (Rwae.out.below (by (repeat' (first | (with_reducible exact Below.refl _ _) | (with_reducible refine Below.alloc ?_ ?_ _) | (with_reducible refine Below.setCell ?_ ?_ _) | (with_reducible refine Below.drew ?_) | (with_reducible refine below_drewN ?_ _) | (with_reducible refine Below.trans ?_ (Below.mono (Hid.out (by assumption)) ?_)) | omega | (simp; done) | (simp; omega)))))
      go_wp2_with fail
      refine (eqMS_same L _ _ L.length L.length (by omega) _ Y3.out.inRow Rwbd.out.inRow).mono ?_
      rintro e wbe ⟨rfl, hb⟩
      obtain ⟨hc, hf⟩ := bcell hb
      have hzwbe := hb.size
      have HBwbe := Lib.hid hb
      (try simp at hzwbe hc hf)
      have hlwbe : w.heap.size < wbe.heap.size := (by omega)
      clear hb hf
      go_wp2_with fail
      refine (toS_any W hl2 a2 cap2 _ (HM2.out.below (by (repeat' (first | (with_reducible exact Below.refl _ _) | (with_reducible refine Below.alloc ?_ ?_ _) | (with_reducible refine Below.setCell ?_ ?_ _) | (with_reducible refine Below.drew ?_) | (with_reducible refine below_drewN ?_ _) | (with_reducible refine Below.trans ?_ (Below.mono (Hid.out (by assumption)) ?_)) | omega | (simp; done) | (simp; omega)))))).mono ?_
      rintro e wca ⟨_, rfl, hr, hb, rfl, hgrwca⟩
      obtain ⟨hc, hf⟩ := bcell hb
      have hzwca := hb.size
      have HBwca := Lib.hid hb
      (try simp at hzwca hc hf)
      have hlwca : w.heap.size ≤ wca.heap.size := (by omega)
      (try simp only [World.size_alloc] at hr)
      have Rwca := Lib.hid hr
      clear hb hf hr
      have Y4 : Hid (Rd wca _ _ W) := Lib.hid (Rwba.out.below (by (repeat' (first | (with_reducible exact Below.refl _ _) | (with_reducible refine Below.alloc ?_ ?_ _) | (with_reducible refine Below.setCell ?_ ?_ _) | (with_reducible refine Below.drew ?_) | (with_reducible refine below_drewN ?_ _) | (with_reducible refine Below.trans ?_ (Below.mono (Hid.out (by assumption)) ?_)) | omega | (simp; done) | (simp; omega)))))
      go_wp2_with fail
      refine (eqS_same W _ _ W.length W.length _ _ _ Y4.out Rwca.out).mono ?_
      rintro e wcb ⟨rfl, hb⟩
      obtain ⟨hc, hf⟩ := bcell hb
      have hzwcb := hb.size
      have HBwcb := Lib.hid hb
      (try simp at hzwcb hc hf)
      have hlwcb : w.heap.size < wcb.heap.size := (by omega)
      clear hb hf
      have Y5 : Hid (RdM wcb _ _ L) := Lib.hid (Rwae.out.below (by (repeat' (first | (with_reducible exact Below.refl _ _) | (with_reducible refine Below.alloc ?_ ?_ _) | (with_reducible refine Below.setCell ?_ ?_ _) | (with_reducible refine Below.drew ?_) | (with_reducible refine below_drewN ?_ _) | (with_reducible refine Below.trans ?_ (Below.mono (Hid.out (by assumption)) ?_)) | omega | (simp; done) | (simp; omega)))))
      have Y6 : Hid (Rd wcb _ awbb R) := Lib.hid (Rwbb.out.below (by (repeat' (first | (with_reducible exact Below.refl _ _) | (with_reducible refine Below.alloc ?_ ?_ _) | (with_reducible refine Below.setCell ?_ ?_ _) | (with_reducible refine Below.drew ?_) | (with_reducible refine below_drewN ?_ _) | (with_reducible refine Below.trans ?_ (Below.mono (Hid.out (by assumption)) ?_)) | omega | (simp; done) | (simp; omega)))))
      have Y7 : Hid (Rd wcb _ _ W) := Lib.hid (Rwba.out.below (by (repeat' (first | (with_reducible exact Below.refl _ _) | (with_reducible refine Below.alloc ?_ ?_ _) | (with_reducible refine Below.setCell ?_ ?_ _) | (with_reducible refine Below.drew ?_) | (with_reducible refine below_drewN ?_ _) | (with_reducible refine Below.trans ?_ (Below.mono (Hid.out (by assumption)) ?_)) | omega | (simp; done) | (simp; omega)))))
      go_wp2_with fail
      refine (markM_any L _ L.length _ 1 (by omega) (by omega) _ Y5.out).mono ?_
      rintro e wcc ⟨rfl, hr, hbut, hb⟩
      obtain ⟨hc, hf⟩ := bcell hb
      have hzwcc := hb.size
      have HBwcc := Lib.hid hb
      (try simp at hzwcc hc hf)
      have hlwcc : w.heap.size < wcc.heap.size := (by omega)
      have Rwcc := Lib.hid hr
      have BTwcc := Lib.hid hbut
      clear hb hf hr hbut
      have Y8 : Hid (Rd wcc _ awbb R) := Lib.hid (Y6.out.but BTwcc.out (by omega))
      have Y9 : Hid (Rd wcc _ _ W) := Lib.hid (Y7.out.but BTwcc.out (by omega))
      have Y10 : Hid (Rd wcc _ _ W) := Lib.hid (Y9.out.below (by (repeat' (first | (with_reducible exact Below.refl _ _) | (with_reducible refine Below.alloc ?_ ?_ _) | (with_reducible refine Below.setCell ?_ ?_ _) | (with_reducible refine Below.drew ?_) | (with_reducible refine below_drewN ?_ _) | (with_reducible refine Below.trans ?_ (Below.mono (Hid.out (by assumption)) ?_)) | omega | (simp; done) | (simp; omega)))))
      have Y11 : Hid (Rd wcc _ awbb R) := Lib.hid (Y8.out.below (by (repeat' (first | (with_reducible exact Below.refl _ _) | (with_reducible refine Below.alloc ?_ ?_ _) | (with_reducible refine Below.setCell ?_ ?_ _) | (with_reducible refine Below.drew ?_) | (with_reducible refine below_drewN ?_ _) | (with_reducible refine Below.trans ?_ (Below.mono (Hid.out (by assumption)) ?_)) | omega | (simp; done) | (simp; omega)))))
      go_wp2_with fail
      refine (markS_any W _ W.length _ (1 + 6 * (L.length : Int)) (by omega) (by omega) _ Y10.out).mono ?_
      rintro e wcd ⟨rfl, hr, hbut, hb⟩
      obtain ⟨hc, hf⟩ := bcell hb
      have hzwcd := hb.size
      have HBwcd := Lib.hid hb
      (try simp at hzwcd hc hf)
      have hlwcd : w.heap.size < wcd.heap.size := (by omega)
      have Rwcd := Lib.hid hr
      have BTwcd := Lib.hid hbut
      clear hb hf hr hbut
      have Y12 : Hid (Rd wcd _ awbb R) := Lib.hid (Y11.out.but BTwcd.out (by omega))
      have hq0 : (1 + 6 * (L.length : Int) + (W.length : Int) < 0) = False := by simp; omega
      have Y13 : Hid (Rd wcd _ awad R) := Lib.hid (Rwad.out.below (by (repeat' (first | (with_reducible exact Below.refl _ _) | (with_reducible refine Below.alloc ?_ ?_ _) | (with_reducible refine Below.setCell ?_ ?_ _) | (with_reducible refine Below.drew ?_) | (with_reducible refine below_drewN ?_ _) | (with_reducible refine Below.trans ?_ (Below.mono (Hid.out (by assumption)) ?_)) | omega | (simp; done) | (simp; omega)))))
      have Y14 : Hid (Rd wcd _ awbb R) := Lib.hid (Y12.out.below (by (repeat' (first | (with_reducible exact Below.refl _ _) | (with_reducible refine Below.alloc ?_ ?_ _) | (with_reducible refine Below.setCell ?_ ?_ _) | (with_reducible refine Below.drew ?_) | (with_reducible refine below_drewN ?_ _) | (with_reducible refine Below.trans ?_ (Below.mono (Hid.out (by assumption)) ?_)) | omega | (simp; done) | (simp; omega)))))
      go_wp2_with fail
      refine (eqS_same R awbb awad cwbb cwad _ _ _ (Y14.out) (Y13.out)).mono ?_
      rintro e wce ⟨rfl, hb⟩
      obtain ⟨hc, hf⟩ := bcell hb
      have hzwce := hb.size
      have HBwce := Lib.hid hb
      (try simp at hzwce hc hf)
      have hlwce : w.heap.size < wce.heap.size := (by omega)
      clear hb hf
      have Y15 : Hid (Rd wce _ awbb R) := Lib.hid (Y14.out.below (by (repeat' (first | (with_reducible exact Below.refl _ _) | (with_reducible refine Below.alloc ?_ ?_ _) | (with_reducible refine Below.setCell ?_ ?_ _) | (with_reducible refine Below.drew ?_) | (with_reducible refine below_drewN ?_ _) | (with_reducible refine Below.trans ?_ (Below.mono (Hid.out (by assumption)) ?_)) | omega | (simp; done) | (simp; omega)))))
      go_wp2_with fail
      refine (markS_any R awbb cwbb _ 1 (by decide) (by decide) _ Y15.out).mono ?_
      rintro e wda ⟨rfl, hr, hbut, hb⟩
      obtain ⟨hc, hf⟩ := bcell hb
      have hzwda := hb.size
      have HBwda := Lib.hid hb
      (try simp at hzwda hc hf)
      have hlwda : w.heap.size < wda.heap.size := (by omega)
      have Rwda := Lib.hid hr
      have BTwda := Lib.hid hbut
      clear hb hf hr hbut
      go_wp2_with fail
      refine (heldS_any R.length awbb cwbb _ 1 (by decide) (by decide) _ Rwda.out).mono ?_
      rintro e wdb ⟨rfl, hb⟩
      obtain ⟨hc, hf⟩ := bcell hb
      have hzwdb := hb.size
      have HBwdb := Lib.hid hb
      (try simp at hzwdb hc hf)
      have hlwdb : w.heap.size < wdb.heap.size := (by omega)
      clear hb hf
      have hq : (1 + (R.length : Int) < 0) = False := by simp; omega
      go_wp2_with fail
      refine (toMS_any L hl1 a1 cap1 _ (HM1.out.below (by (repeat' (first | (with_reducible exact Below.refl _ _) | (with_reducible refine Below.alloc ?_ ?_ _) | (with_reducible refine Below.setCell ?_ ?_ _) | (with_reducible refine Below.drew ?_) | (with_reducible refine below_drewN ?_ _) | (with_reducible refine Below.trans ?_ (Below.mono (Hid.out (by assumption)) ?_)) | omega | (simp; done) | (simp; omega)))))).mono ?_
      rintro e wdc ⟨_, rfl, hr, hb, rfl, hgrwdc⟩
      obtain ⟨hc, hf⟩ := bcell hb
      have hzwdc := hb.size
      have HBwdc := Lib.hid hb
      (try simp at hzwdc hc hf)
      have hlwdc : w.heap.size ≤ wdc.heap.size := (by omega)
      (try simp only [World.size_alloc] at hr)
      have Rwdc := Lib.hid hr
      clear hb hf hr
      go_wp2_with fail
      refine (toS_any W hl2 a2 cap2 _ (HM2.out.below (by (repeat' (first | (with_reducible exact Below.refl _ _) | (with_reducible refine Below.alloc ?_ ?_ _) | (with_reducible refine Below.setCell ?_ ?_ _) | (with_reducible refine Below.drew ?_) | (with_reducible refine below_drewN ?_ _) | (with_reducible refine Below.trans ?_ (Below.mono (Hid.out (by assumption)) ?_)) | omega | (simp; done) | (simp; omega)))))).mono ?_
      rintro e wdd ⟨_, rfl, hr, hb, rfl, hgrwdd⟩
      obtain ⟨hc, hf⟩ := bcell hb
      have hzwdd := hb.size
      have HBwdd := Lib.hid hb
      (try simp at hzwdd hc hf)
      have hlwdd : w.heap.size ≤ wdd.heap.size := (by omega)
      (try simp only [World.size_alloc] at hr)
      have Rwdd := Lib.hid hr
      clear hb hf hr
      have Y16 : Hid (RdM wdd _ _ L) := Lib.hid (Rwdc.out.below (by (repeat' (first | (with_reducible exact Below.refl _ _) | (with_reducible refine Below.alloc ?_ ?_ _) | (with_reducible refine Below.setCell ?_ ?_ _) | (with_reducible refine Below.drew ?_) | (with_reducible refine below_drewN ?_ _) | (with_reducible refine Below.trans ?_ (Below.mono (Hid.out (by assumption)) ?_)) | omega | (simp; done) | (simp; omega)))))
      go_wp2_with fail
      refine (HI.out _ _ _ Y16.out.inRow Rwdd.out.inRow (HER.out.bel (by (repeat' (first | (with_reducible exact Below.refl _ _) | (with_reducible refine Below.alloc ?_ ?_ _) | (with_reducible refine Below.setCell ?_ ?_ _) | (with_reducible refine Below.drew ?_) | (with_reducible refine below_drewN ?_ _) | (with_reducible refine Below.trans ?_ (Below.mono (Hid.out (by assumption)) ?_)) | omega | (simp; done) | (simp; omega)))))).mono ?_
      rintro e wde ⟨awde, cwde, rfl, hr, hb⟩
      obtain ⟨hc, hf⟩ := bcell hb
      have hzwde := hb.size
      have HBwde := Lib.hid hb
      (try simp at hzwde hc hf)
      have hlwde : w.heap.size < wde.heap.size := (by omega)
      have Rwde := Lib.hid hr
      clear hb hf hr
      have Y17 : Hid (Rd wde _ awad R) := Lib.hid (Rwad.out.below (by (repeat' (first | (with_reducible exact Below.refl _ _) | (with_reducible refine Below.alloc ?_ ?_ _) | (with_reducible refine Below.setCell ?_ ?_ _) | (with_reducible refine Below.drew ?_) | (with_reducible refine below_drewN ?_ _) | (with_reducible refine Below.trans ?_ (Below.mono (Hid.out (by assumption)) ?_)) | omega | (simp; done) | (simp; omega)))))
      go_wp2_with fail
      refine (eqS_same R awde awad cwde cwad _ _ _ (Rwde.out) (Y17.out)).mono ?_
      rintro e wea ⟨rfl, hb⟩
      obtain ⟨hc, hf⟩ := bcell hb
      have hzwea := hb.size
      have HBwea := Lib.hid hb
      (try simp at hzwea hc hf)
      have hlwea : w.heap.size < wea.heap.size := (by omega)
      clear hb hf
      have Y18 : Hid (Rd wea _ awbb (mk R.length 1)) := Lib.hid (Rwda.out.below (by (repeat' (first | (with_reducible exact Below.refl _ _) | (with_reducible refine Below.alloc ?_ ?_ _) | (with_reducible refine Below.setCell ?_ ?_ _) | (with_reducible refine Below.drew ?_) | (with_reducible refine below_drewN ?_ _) | (with_reducible refine Below.trans ?_ (Below.mono (Hid.out (by assumption)) ?_)) | omega | (simp; done) | (simp; omega)))))
      go_wp2_with fail
      refine (heldS_any R.length awbb cwbb _ 1 (by decide) (by decide) _ Y18.out).mono ?_
      rintro e web ⟨rfl, hb⟩
      obtain ⟨hc, hf⟩ := bcell hb
      have hzweb := hb.size
      have HBweb := Lib.hid hb
      (try simp at hzweb hc hf)
      have hlweb : w.heap.size < web.heap.size := (by omega)
      clear hb hf
      go_wp2_with fail
      go_ret
      refine ⟨rfl, ?_⟩
      (repeat' (first | (with_reducible exact Below.refl _ _) | (with_reducible refine Below.alloc ?_ ?_ _) | (with_reducible refine Below.setCell ?_ ?_ _) | (with_reducible refine Below.drew ?_) | (with_reducible refine below_drewN ?_ _) | (with_reducible refine Below.trans ?_ (Below.mono (Hid.out (by assumption)) ?_)) | omega | (simp; done) | (simp; omega)))
    · have hbig : 1048576 < L.length := by omega
      go_enter Tryd.func6, Tryd.ntmps6
      go_wp2_with (go_at_call 8; (with_reducible refine (sz_big L.length a1 cap1 hbig H91.out _).mono ?_); rintro e w ⟨rfl, rfl⟩)
      go_ret
      exact ⟨rfl, Below.refl _ _⟩
  · have hbig : 1048576 < (W.length : Int) := by omega
    go_enter Tryd.func6, Tryd.ntmps6
    go_wp2_with fail
    go_ret
    exact ⟨rfl, Below.refl _ _⟩

end LFnExactFixedByWord

namespace LFnExactFixedByWord
set_option maxRecDepth 100000 in
theorem lifted (os : Os) (started : os.Started) (H : Type) (enc : TypeId × Value → H) :
    ReturnsInHanded {} Tryd.checked os 6 .any (fun w args => (Rows.fnExactFixedByWordSpec.pre enc Tryd.prog Tryd.f6 [] false w args ∧ laidMet Tryd.prog lay w) ∧ sizedMet enc Tryd.prog Tryd.f6 (OpenSpec.ofChange Rows.fnExactFixedByWordSpec) false w args)
      (Rows.fnExactFixedByWordSpec.post enc Tryd.prog Tryd.f6 false true false false) := by
  refine returnsInHanded_of_change_and (C := Tryd.checked) (X := fun w _ => laidMet Tryd.prog lay w) (fun _ _ _ hh h => h.of_heap hh) own started (by kernel_rfl) Tryd.func6
    (ChangeSpec.witness_at (enc := enc) (C := Tryd.checked) (os := os) (X := fun w _ => laidMet Tryd.prog lay w) false (laidWorld os) #[.slice none 0 0, .slice none 0 0] 8 rfl (by kernel_rfl) (by kernel_rfl) (by kernel_rfl) (by kernel_rfl) (by kernel_rfl) (laidWorld_met os _)) ?_
  intro W base args ds gs before hval0 hW _ _ hL _
  have hval : ∀ (j : Nat) t v, Tryd.f6.params[j]? = some t → args[j]? = some v → Value.okWide Tryd.prog W .any base t v := hval0
  have hW' := hW
  obtain ⟨p, q, hA0, hV, rfl, hfz, hnd⟩ := hW
  have hA : DataW.TrodAll enc Tryd.prog W 0 (fun _ => true) true Tryd.f6.params.toList args.toList ds p := hA0
  rw [Tryd.params6] at hA hval
  obtain ⟨v0, vs0, d0, ds0, p0, q0, hargs, rfl, rfl, h0, r0⟩ := trodAll_cons hA
  obtain ⟨v1, vs1, d1, ds1, p1, q1, rfl, rfl, rfl, h1, r1⟩ := trodAll_cons r0
  obtain ⟨rfl, rfl, rfl⟩ := trodAll_nil r1
  obtain rfl : args = #[v0, v1] := by cases args; simp_all
  obtain ⟨a9, hv9⟩ := er_of_laid hL
  have hV9 : DataW.TrodVars enc Tryd.prog W (fun _ => true) ["loop.example/g01359/impl.errNoWord"] gs q := hV
  obtain ⟨rfl, rfl⟩ := hV9.unique (vars_read1 enc gE gEType Tryd.underlying96 hv9 trivial _)
  have k0 := h0
  have lt0 : ∀ x ∈ p0, x.block < W.heap.size := by obtain ⟨m, hm⟩ := k0; exact DataW.trod_lt m _ _ _ hm
  obtain ⟨a0, len0, cap0, rfl⟩ := okWide_slice Tryd.underlying22 (hval 0 22 v0 rfl rfl)
  obtain ⟨z0, w0⟩ := open_rowM h0
  have k1 := h1
  have lt1 : ∀ x ∈ p1, x.block < W.heap.size := by obtain ⟨m, hm⟩ := k1; exact DataW.trod_lt m _ _ _ hm
  obtain ⟨a1, len1, cap1, rfl⟩ := okWide_slice Tryd.underlying23 (hval 1 23 v1 rfl rfl)
  obtain ⟨z1, w1⟩ := open_row h1
  clear hA0 hval0
  refine (ex_any W (er_var hv9) a0 len0 cap0 z0 w0 a1 len1 cap1 z1 w1).mono fun e W' ⟨he, bel⟩ => ?_
  subst he
  exact ⟨_, rfl, _, _, _, [], _, [.cell 0 0], hW', trodAll_mk1 (shut_bool Tryd.underlying4 _), (trodAll_cons_mk (Below.trod laidOut (by kernel_rfl) (of_decide_eq_true (by kernel_rfl)) k0 bel lt0) (trodAll_cons_mk (Below.trod laidOut (by kernel_rfl) (of_decide_eq_true (by kernel_rfl)) k1 bel lt1) trodAll_mk0)), vars_read1 enc gE gEType Tryd.underlying96 (var_below hv9 bel) trivial _, bel.frame _, fun h => by cases h⟩
theorem joined : joinedFacts Tryd.pinned.checked.prog 6 Tryd.f6 Rows.fnExactFixedByWordSpec Rows.fnExactFixedByWordRow = true := by
  unfold joinedFacts
  simp only [Bool.and_eq_true]
  repeat' apply And.intro
  iterate 25 kernel_rfl
  exact mk_enter
  exact mk_lifts
  exact mk_make
  iterate 4 kernel_rfl
theorem over : Rows.fnExactFixedByWordRow.holds Tryd.pinned (OpenSpec.ofChange Rows.fnExactFixedByWordSpec) :=
  OpenClaim.holds_of_wide 6 Tryd.f6 rfl rfl rfl rfl rfl rfl rfl ⟨rfl, rfl, rfl, rfl, rfl⟩ rfl rfl rfl rfl rfl (by kernel_rfl) Tryd.func6 joined
    (of_decide_eq_true (by kernel_rfl)) (by unfold Func.isWrapper; rw [if_neg (of_decide_eq_false (by kernel_rfl))]; exact ⟨rfl, rfl⟩)
    (fun os started H enc _ => lifted os started H enc)
theorem card : Rows.FnExactFixedByWordCardSaid :=
  Claim7.holds_tied_plain_at .later [] [.sentinel] true _ true
    over (fun _ h => by cases h) (by kernel_rfl) (fun _ h => by cases h) fnExactFixedByWord_row_tie rfl ⟨rfl, rfl⟩ (by kernel_rfl) rfl
    (fun f fn hf hfn => by
      obtain rfl : f = 6 := Option.some.inj ((show Tryd.prog.funcNamed "loop.example/g01359/laws.FnExactFixedByWord" = some 6 by kernel_rfl).symm.trans hf) |>.symm
      obtain rfl : fn = Tryd.f6 := (Option.some.inj (Tryd.func6.symm.trans hfn)).symm
      exact ⟨by kernel_rfl, fun j t ht => by
        rw [Tryd.params6] at ht
        have hin : t ∈ [22, 23] := by
          have := Array.mem_of_getElem? ht
          simpa using this
        simp only [List.mem_cons, List.not_mem_nil, or_false] at hin
        rcases hin with rfl | rfl
        all_goals exact (show Tryd.prog.wantsStandIn _ = false by kernel_rfl)⟩)
    (by kernel_rfl)
/-- The statement of FnExactFixedByWord. -/
theorem proved : Rows.FnExactFixedByWordCardSaid := card
#print axioms proved
end LFnExactFixedByWord

end Go.Proofs.YthdjajelbpccpaaDoor
