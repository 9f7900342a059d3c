/- The law FnExactImageAlong is true at every input: impl.ImageAlong and spec.ImageAlong give the same points and the same code, in memory of its own, and the lists that came in stay as they were. One condition, tied to the program's text by the card: the package's error lies in its variable as its initialiser lays it. -/
import Derived.Test.YthdjajelbpccpaaDoorMk
import Derived.Test.YthdjajelbpccpaaDoorRfs
import Derived.Test.YthdjajelbpccpaaDoorRowM
import Derived.Test.YthdjajelbpccpaaDoorRowS
import Derived.Test.YthdjajelbpccpaaDoorMark
import Derived.Test.YthdjajelbpccpaaDoorSl
import Derived.Test.YthdjajelbpccpaaDoorErr
import Derived.Test.YthdjajelbpccpaaDoorCards
import Derived.Test.YthdjajelbpccpaaDoorTie
import Derived.SevenTiedAt
namespace Go.Proofs.YthdjajelbpccpaaDoor
open Go.ChangeShapes Go.WideShapes Go.ChangeAt Go.RowKit
namespace LFnExactImageAlong

set_option maxRecDepth 100000 in
set_option maxHeartbeats 4000000 in
theorem ex_any (w : World) (hER : Er w) (a1 : Option Addr) (len1 cap1 : Nat) (L : List MapN) (hw1 : L.length = len1 ∧ InRowM w a1 L ∧ (a1 = none → cap1 = 0) ∧ len1 ≤ maxLen) (a2 : Option Addr) (len2 cap2 : Nat) (W : List Int) (hw2 : W.length = len2 ∧ InRow w a2 W) (a3 : Option Addr) (len3 cap3 : Nat) (S : List Int) (hw3 : S.length = len3 ∧ InRow w a3 S) :
    Calls Tryd.prog 5 #[.slice a1 len1 cap1, .slice a2 len2 cap2, .slice a3 len3 cap3] w fun e w' => e = .returned (.bool true) ∧ Below w.heap.size w w' := by
  have HER := Lib.hid hER
  clear hER
  obtain ⟨rfl, h1, _, h91⟩ := hw1
  have HM1 := Lib.hid h1
  have H91 := Lib.hid h91
  clear h1 h91
  obtain ⟨rfl, h2⟩ := hw2
  have HM2 := Lib.hid h2
  clear h2
  obtain ⟨rfl, h3⟩ := hw3
  have HM3 := Lib.hid h3
  clear h3
  by_cases hl2 : W.length ≤ 1048576
  · have hng2 : ¬ (1048576 < (W.length : Int)) := by omega
    by_cases hl3 : S.length ≤ 1048576
    · have hng3 : ¬ (1048576 < (S.length : Int)) := by omega
      by_cases hl1 : L.length ≤ 1048576
      · have hng1 : ¬ ((1048576 : Int) - (L.length : Int) < 0) := by omega
        have HS := fun w (g1 : Nat) (g2 : Nat) (g3 : Nat) h1 h2 h3 => sIal_any L hl1 W hl2 S hl3 (some ⟨g1, 0, none⟩) L.length (fun e => by cases e) (some ⟨g2, 0, none⟩) W.length (some ⟨g3, 0, none⟩) S.length w h1 h2 h3
        have HI := fun w (g1 : Nat) (g2 : Nat) (g3 : Nat) h1 h2 h3 he => iIal_any L hl1 W hl2 S hl3 (some ⟨g1, 0, none⟩) L.length (fun e => by cases e) (some ⟨g2, 0, none⟩) W.length (some ⟨g3, 0, none⟩) S.length w h1 h2 h3 he
        generalize ialL L W S = R at *
        generalize ialC L W S = C at *
        have HS := Lib.hid HS
        have HI := Lib.hid HI
        go_enter Tryd.func5, Tryd.ntmps5
        go_wp2_with (go_at_call 8; (with_reducible refine (sz_any L.length a1 cap1 hl1 _).mono ?_); rintro e w ⟨rfl, rfl⟩)
        refine (toMS_any L hl1 a1 cap1 _ HM1.out).mono ?_
        rintro e wab ⟨_, rfl, hr, hb, rfl, hgrwab⟩
        obtain ⟨hc, hf⟩ := bcell hb
        have hzwab := hb.size
        have HBwab := Lib.hid hb
        (try simp at hzwab hc hf)
        have hlwab : w.heap.size ≤ wab.heap.size := (by omega)
        (try simp only [World.size_alloc] at hr)
        have Rwab := Lib.hid hr
        clear hb hf hr
        go_wp2_with fail
        refine (toS_any W hl2 a2 cap2 _ (HM2.out.below (by (repeat' (first | (with_reducible exact Below.refl _ _) | (with_reducible refine Below.alloc ?_ ?_ _) | (with_reducible refine Below.setCell ?_ ?_ _) | (with_reducible refine Below.drew ?_) | (with_reducible refine below_drewN ?_ _) | (with_reducible refine Below.trans ?_ (Below.mono (Hid.out (by assumption)) ?_)) | omega | (simp; done) | (simp; omega)))))).mono ?_
        rintro e wac ⟨_, rfl, hr, hb, rfl, hgrwac⟩
        obtain ⟨hc, hf⟩ := bcell hb
        have hzwac := hb.size
        have HBwac := Lib.hid hb
        (try simp at hzwac hc hf)
        have hlwac : w.heap.size ≤ wac.heap.size := (by omega)
        (try simp only [World.size_alloc] at hr)
        have Rwac := Lib.hid hr
        clear hb hf hr
        go_wp2_with fail
        refine (toS_any S hl3 a3 cap3 _ (HM3.out.below (by (repeat' (first | (with_reducible exact Below.refl _ _) | (with_reducible refine Below.alloc ?_ ?_ _) | (with_reducible refine Below.setCell ?_ ?_ _) | (with_reducible refine Below.drew ?_) | (with_reducible refine below_drewN ?_ _) | (with_reducible refine Below.trans ?_ (Below.mono (Hid.out (by assumption)) ?_)) | omega | (simp; done) | (simp; omega)))))).mono ?_
        rintro e wad ⟨_, rfl, hr, hb, rfl, hgrwad⟩
        obtain ⟨hc, hf⟩ := bcell hb
        have hzwad := hb.size
        have HBwad := Lib.hid hb
        (try simp at hzwad hc hf)
        have hlwad : w.heap.size ≤ wad.heap.size := (by omega)
        (try simp only [World.size_alloc] at hr)
        have Rwad := Lib.hid hr
        clear hb hf hr
        have Y0 : Hid (RdM wad _ _ L) := Lib.hid (Rwab.out.below (by (repeat' (first | (with_reducible exact Below.refl _ _) | (with_reducible refine Below.alloc ?_ ?_ _) | (with_reducible refine Below.setCell ?_ ?_ _) | (with_reducible refine Below.drew ?_) | (with_reducible refine below_drewN ?_ _) | (with_reducible refine Below.trans ?_ (Below.mono (Hid.out (by assumption)) ?_)) | omega | (simp; done) | (simp; omega)))))
        have Y1 : Hid (Rd wad _ _ W) := Lib.hid (Rwac.out.below (by (repeat' (first | (with_reducible exact Below.refl _ _) | (with_reducible refine Below.alloc ?_ ?_ _) | (with_reducible refine Below.setCell ?_ ?_ _) | (with_reducible refine Below.drew ?_) | (with_reducible refine below_drewN ?_ _) | (with_reducible refine Below.trans ?_ (Below.mono (Hid.out (by assumption)) ?_)) | omega | (simp; done) | (simp; omega)))))
        go_wp2_with fail
        refine (HS.out _ _ _ _ Y0.out.inRow Y1.out.inRow Rwad.out.inRow).mono ?_
        rintro e wae ⟨awae, cwae, rfl, hr, hb⟩
        obtain ⟨hc, hf⟩ := bcell hb
        have hzwae := hb.size
        have HBwae := Lib.hid hb
        (try simp at hzwae hc hf)
        have hlwae : w.heap.size < wae.heap.size := (by omega)
        have Rwae := Lib.hid hr
        clear hb hf hr
        go_wp2_with fail
        refine (toMS_any L hl1 a1 cap1 _ (HM1.out.below (by (repeat' (first | (with_reducible exact Below.refl _ _) | (with_reducible refine Below.alloc ?_ ?_ _) | (with_reducible refine Below.setCell ?_ ?_ _) | (with_reducible refine Below.drew ?_) | (with_reducible refine below_drewN ?_ _) | (with_reducible refine Below.trans ?_ (Below.mono (Hid.out (by assumption)) ?_)) | omega | (simp; done) | (simp; omega)))))).mono ?_
        rintro e wba ⟨_, rfl, hr, hb, rfl, hgrwba⟩
        obtain ⟨hc, hf⟩ := bcell hb
        have hzwba := hb.size
        have HBwba := Lib.hid hb
        (try simp at hzwba hc hf)
        have hlwba : w.heap.size ≤ wba.heap.size := (by omega)
        (try simp only [World.size_alloc] at hr)
        have Rwba := Lib.hid hr
        clear hb hf hr
        go_wp2_with fail
        refine (toS_any W hl2 a2 cap2 _ (HM2.out.below (by (repeat' (first | (with_reducible exact Below.refl _ _) | (with_reducible refine Below.alloc ?_ ?_ _) | (with_reducible refine Below.setCell ?_ ?_ _) | (with_reducible refine Below.drew ?_) | (with_reducible refine below_drewN ?_ _) | (with_reducible refine Below.trans ?_ (Below.mono (Hid.out (by assumption)) ?_)) | omega | (simp; done) | (simp; omega)))))).mono ?_
        rintro e wbb ⟨_, rfl, hr, hb, rfl, hgrwbb⟩
        obtain ⟨hc, hf⟩ := bcell hb
        have hzwbb := hb.size
        have HBwbb := Lib.hid hb
        (try simp at hzwbb hc hf)
        have hlwbb : w.heap.size ≤ wbb.heap.size := (by omega)
        (try simp only [World.size_alloc] at hr)
        have Rwbb := Lib.hid hr
        clear hb hf hr
        go_wp2_with fail
        refine (toS_any S hl3 a3 cap3 _ (HM3.out.below (by (repeat' (first | (with_reducible exact Below.refl _ _) | (with_reducible refine Below.alloc ?_ ?_ _) | (with_reducible refine Below.setCell ?_ ?_ _) | (with_reducible refine Below.drew ?_) | (with_reducible refine below_drewN ?_ _) | (with_reducible refine Below.trans ?_ (Below.mono (Hid.out (by assumption)) ?_)) | omega | (simp; done) | (simp; omega)))))).mono ?_
        rintro e wbc ⟨_, rfl, hr, hb, rfl, hgrwbc⟩
        obtain ⟨hc, hf⟩ := bcell hb
        have hzwbc := hb.size
        have HBwbc := Lib.hid hb
        (try simp at hzwbc hc hf)
        have hlwbc : w.heap.size ≤ wbc.heap.size := (by omega)
        (try simp only [World.size_alloc] at hr)
        have Rwbc := Lib.hid hr
        clear hb hf hr
        have Y2 : Hid (RdM wbc _ _ L) := Lib.hid (Rwba.out.below (by (repeat' (first | (with_reducible exact Below.refl _ _) | (with_reducible refine Below.alloc ?_ ?_ _) | (with_reducible refine Below.setCell ?_ ?_ _) | (with_reducible refine Below.drew ?_) | (with_reducible refine below_drewN ?_ _) | (with_reducible refine Below.trans ?_ (Below.mono (Hid.out (by assumption)) ?_)) | omega | (simp; done) | (simp; omega)))))
        have Y3 : Hid (Rd wbc _ _ W) := Lib.hid (Rwbb.out.below (by (repeat' (first | (with_reducible exact Below.refl _ _) | (with_reducible refine Below.alloc ?_ ?_ _) | (with_reducible refine Below.setCell ?_ ?_ _) | (with_reducible refine Below.drew ?_) | (with_reducible refine below_drewN ?_ _) | (with_reducible refine Below.trans ?_ (Below.mono (Hid.out (by assumption)) ?_)) | omega | (simp; done) | (simp; omega)))))
        go_wp2_with fail
        refine (HI.out _ _ _ _ Y2.out.inRow Y3.out.inRow Rwbc.out.inRow (HER.out.bel (by (repeat' (first | (with_reducible exact Below.refl _ _) | (with_reducible refine Below.alloc ?_ ?_ _) | (with_reducible refine Below.setCell ?_ ?_ _) | (with_reducible refine Below.drew ?_) | (with_reducible refine below_drewN ?_ _) | (with_reducible refine Below.trans ?_ (Below.mono (Hid.out (by assumption)) ?_)) | omega | (simp; done) | (simp; omega)))))).mono ?_
        rintro e wbd ⟨awbd, cwbd, rfl, hr, hb⟩
        obtain ⟨hc, hf⟩ := bcell hb
        have hzwbd := hb.size
        have HBwbd := Lib.hid hb
        (try simp at hzwbd hc hf)
        have hlwbd : w.heap.size < wbd.heap.size := (by omega)
        have Rwbd := Lib.hid hr
        clear hb hf hr
        have Y4 : Hid (Rd wbd _ awae R) := Lib.hid (Rwae.out.below (by (repeat' (first | (with_reducible exact Below.refl _ _) | (with_reducible refine Below.alloc ?_ ?_ _) | (with_reducible refine Below.setCell ?_ ?_ _) | (with_reducible refine Below.drew ?_) | (with_reducible refine below_drewN ?_ _) | (with_reducible refine Below.trans ?_ (Below.mono (Hid.out (by assumption)) ?_)) | omega | (simp; done) | (simp; omega)))))
        have hlen : R.length ≤ 2000000 := Y4.out.1
        go_wp2_with fail
        refine (eqS_same R awbd awae cwbd cwae _ _ _ (Rwbd.out) (Y4.out)).mono ?_
        rintro e wbe ⟨rfl, hb⟩
        obtain ⟨hc, hf⟩ := bcell hb
        have hzwbe := hb.size
        have HBwbe := Lib.hid hb
        (try simp at hzwbe hc hf)
        have hlwbe : w.heap.size < wbe.heap.size := (by omega)
        clear hb hf
        go_wp2_with fail
        refine (toMS_any L hl1 a1 cap1 _ (HM1.out.below (by (repeat' (first | (with_reducible exact Below.refl _ _) | (with_reducible refine Below.alloc ?_ ?_ _) | (with_reducible refine Below.setCell ?_ ?_ _) | (with_reducible refine Below.drew ?_) | (with_reducible refine below_drewN ?_ _) | (with_reducible refine Below.trans ?_ (Below.mono (Hid.out (by assumption)) ?_)) | omega | (simp; done) | (simp; omega)))))).mono ?_
        rintro e wca ⟨_, rfl, hr, hb, rfl, hgrwca⟩
        obtain ⟨hc, hf⟩ := bcell hb
        have hzwca := hb.size
        have HBwca := Lib.hid hb
        (try simp at hzwca hc hf)
        have hlwca : w.heap.size ≤ wca.heap.size := (by omega)
        (try simp only [World.size_alloc] at hr)
        have Rwca := Lib.hid hr
        clear hb hf hr
        have Y5 : Hid (RdM wca _ _ L) := Lib.hid (Rwba.out.below (by (repeat' (first | (with_reducible exact Below.refl _ _) | (with_reducible refine Below.alloc ?_ ?_ _) | (with_reducible refine Below.setCell ?_ ?_ _) | (with_reducible refine Below.drew ?_) | (with_reducible refine below_drewN ?_ _) | (with_reducible refine Below.trans ?_ (Below.mono (Hid.out (by assumption)) ?_)) | omega | (simp; done) | (simp; omega)))))
        go_wp2_with fail
        refine (eqMS_same L _ _ L.length L.length (by omega) _ Y5.out.inRow Rwca.out.inRow).mono ?_
        rintro e wcb ⟨rfl, hb⟩
        obtain ⟨hc, hf⟩ := bcell hb
        have hzwcb := hb.size
        have HBwcb := Lib.hid hb
        (try simp at hzwcb hc hf)
        have hlwcb : w.heap.size < wcb.heap.size := (by omega)
        clear hb hf
        go_wp2_with fail
        refine (toS_any W hl2 a2 cap2 _ (HM2.out.below (by (repeat' (first | (with_reducible exact Below.refl _ _) | (with_reducible refine Below.alloc ?_ ?_ _) | (with_reducible refine Below.setCell ?_ ?_ _) | (with_reducible refine Below.drew ?_) | (with_reducible refine below_drewN ?_ _) | (with_reducible refine Below.trans ?_ (Below.mono (Hid.out (by assumption)) ?_)) | omega | (simp; done) | (simp; omega)))))).mono ?_
        rintro e wcc ⟨_, rfl, hr, hb, rfl, hgrwcc⟩
        obtain ⟨hc, hf⟩ := bcell hb
        have hzwcc := hb.size
        have HBwcc := Lib.hid hb
        (try simp at hzwcc hc hf)
        have hlwcc : w.heap.size ≤ wcc.heap.size := (by omega)
        (try simp only [World.size_alloc] at hr)
        have Rwcc := Lib.hid hr
        clear hb hf hr
        have Y6 : Hid (Rd wcc _ _ W) := Lib.hid (Rwbb.out.below (by (repeat' (first | (with_reducible exact Below.refl _ _) | (with_reducible refine Below.alloc ?_ ?_ _) | (with_reducible refine Below.setCell ?_ ?_ _) | (with_reducible refine Below.drew ?_) | (with_reducible refine below_drewN ?_ _) | (with_reducible refine Below.trans ?_ (Below.mono (Hid.out (by assumption)) ?_)) | omega | (simp; done) | (simp; omega)))))
        go_wp2_with fail
        refine (eqS_same W _ _ W.length W.length _ _ _ Y6.out Rwcc.out).mono ?_
        rintro e wcd ⟨rfl, hb⟩
        obtain ⟨hc, hf⟩ := bcell hb
        have hzwcd := hb.size
        have HBwcd := Lib.hid hb
        (try simp at hzwcd hc hf)
        have hlwcd : w.heap.size < wcd.heap.size := (by omega)
        clear hb hf
        go_wp2_with fail
        refine (toS_any S hl3 a3 cap3 _ (HM3.out.below (by (repeat' (first | (with_reducible exact Below.refl _ _) | (with_reducible refine Below.alloc ?_ ?_ _) | (with_reducible refine Below.setCell ?_ ?_ _) | (with_reducible refine Below.drew ?_) | (with_reducible refine below_drewN ?_ _) | (with_reducible refine Below.trans ?_ (Below.mono (Hid.out (by assumption)) ?_)) | omega | (simp; done) | (simp; omega)))))).mono ?_
        rintro e wce ⟨_, rfl, hr, hb, rfl, hgrwce⟩
        obtain ⟨hc, hf⟩ := bcell hb
        have hzwce := hb.size
        have HBwce := Lib.hid hb
        (try simp at hzwce hc hf)
        have hlwce : w.heap.size ≤ wce.heap.size := (by omega)
        (try simp only [World.size_alloc] at hr)
        have Rwce := Lib.hid hr
        clear hb hf hr
        have Y7 : Hid (Rd wce _ _ S) := Lib.hid (Rwbc.out.below (by (repeat' (first | (with_reducible exact Below.refl _ _) | (with_reducible refine Below.alloc ?_ ?_ _) | (with_reducible refine Below.setCell ?_ ?_ _) | (with_reducible refine Below.drew ?_) | (with_reducible refine below_drewN ?_ _) | (with_reducible refine Below.trans ?_ (Below.mono (Hid.out (by assumption)) ?_)) | omega | (simp; done) | (simp; omega)))))
        go_wp2_with fail
        refine (eqS_same S _ _ S.length S.length _ _ _ Y7.out Rwce.out).mono ?_
        rintro e wda ⟨rfl, hb⟩
        obtain ⟨hc, hf⟩ := bcell hb
        have hzwda := hb.size
        have HBwda := Lib.hid hb
        (try simp at hzwda hc hf)
        have hlwda : w.heap.size < wda.heap.size := (by omega)
        clear hb hf
        have Y8 : Hid (RdM wda _ _ L) := Lib.hid (Rwba.out.below (by (repeat' (first | (with_reducible exact Below.refl _ _) | (with_reducible refine Below.alloc ?_ ?_ _) | (with_reducible refine Below.setCell ?_ ?_ _) | (with_reducible refine Below.drew ?_) | (with_reducible refine below_drewN ?_ _) | (with_reducible refine Below.trans ?_ (Below.mono (Hid.out (by assumption)) ?_)) | omega | (simp; done) | (simp; omega)))))
        have Y9 : Hid (Rd wda _ awbd R) := Lib.hid (Rwbd.out.below (by (repeat' (first | (with_reducible exact Below.refl _ _) | (with_reducible refine Below.alloc ?_ ?_ _) | (with_reducible refine Below.setCell ?_ ?_ _) | (with_reducible refine Below.drew ?_) | (with_reducible refine below_drewN ?_ _) | (with_reducible refine Below.trans ?_ (Below.mono (Hid.out (by assumption)) ?_)) | omega | (simp; done) | (simp; omega)))))
        have Y10 : Hid (Rd wda _ _ W) := Lib.hid (Rwbb.out.below (by (repeat' (first | (with_reducible exact Below.refl _ _) | (with_reducible refine Below.alloc ?_ ?_ _) | (with_reducible refine Below.setCell ?_ ?_ _) | (with_reducible refine Below.drew ?_) | (with_reducible refine below_drewN ?_ _) | (with_reducible refine Below.trans ?_ (Below.mono (Hid.out (by assumption)) ?_)) | omega | (simp; done) | (simp; omega)))))
        have Y11 : Hid (Rd wda _ _ S) := Lib.hid (Rwbc.out.below (by (repeat' (first | (with_reducible exact Below.refl _ _) | (with_reducible refine Below.alloc ?_ ?_ _) | (with_reducible refine Below.setCell ?_ ?_ _) | (with_reducible refine Below.drew ?_) | (with_reducible refine below_drewN ?_ _) | (with_reducible refine Below.trans ?_ (Below.mono (Hid.out (by assumption)) ?_)) | omega | (simp; done) | (simp; omega)))))
        go_wp2_with fail
        refine (markM_any L _ L.length _ 1 (by omega) (by omega) _ Y8.out).mono ?_
        rintro e wdb ⟨rfl, hr, hbut, hb⟩
        obtain ⟨hc, hf⟩ := bcell hb
        have hzwdb := hb.size
        have HBwdb := Lib.hid hb
        (try simp at hzwdb hc hf)
        have hlwdb : w.heap.size < wdb.heap.size := (by omega)
        have Rwdb := Lib.hid hr
        have BTwdb := Lib.hid hbut
        clear hb hf hr hbut
        have Y12 : Hid (Rd wdb _ awbd R) := Lib.hid (Y9.out.but BTwdb.out (by omega))
        have Y13 : Hid (Rd wdb _ _ W) := Lib.hid (Y10.out.but BTwdb.out (by omega))
        have Y14 : Hid (Rd wdb _ _ S) := Lib.hid (Y11.out.but BTwdb.out (by omega))
        have Y15 : Hid (Rd wdb _ _ W) := Lib.hid (Y13.out.below (by (repeat' (first | (with_reducible exact Below.refl _ _) | (with_reducible refine Below.alloc ?_ ?_ _) | (with_reducible refine Below.setCell ?_ ?_ _) | (with_reducible refine Below.drew ?_) | (with_reducible refine below_drewN ?_ _) | (with_reducible refine Below.trans ?_ (Below.mono (Hid.out (by assumption)) ?_)) | omega | (simp; done) | (simp; omega)))))
        have Y16 : Hid (Rd wdb _ awbd R) := Lib.hid (Y12.out.below (by (repeat' (first | (with_reducible exact Below.refl _ _) | (with_reducible refine Below.alloc ?_ ?_ _) | (with_reducible refine Below.setCell ?_ ?_ _) | (with_reducible refine Below.drew ?_) | (with_reducible refine below_drewN ?_ _) | (with_reducible refine Below.trans ?_ (Below.mono (Hid.out (by assumption)) ?_)) | omega | (simp; done) | (simp; omega)))))
        have Y17 : Hid (Rd wdb _ _ S) := Lib.hid (Y14.out.below (by (repeat' (first | (with_reducible exact Below.refl _ _) | (with_reducible refine Below.alloc ?_ ?_ _) | (with_reducible refine Below.setCell ?_ ?_ _) | (with_reducible refine Below.drew ?_) | (with_reducible refine below_drewN ?_ _) | (with_reducible refine Below.trans ?_ (Below.mono (Hid.out (by assumption)) ?_)) | omega | (simp; done) | (simp; omega)))))
        go_wp2_with fail
        refine (markS_any W _ W.length _ (1 + 6 * (L.length : Int)) (by omega) (by omega) _ Y15.out).mono ?_
        rintro e wdc ⟨rfl, hr, hbut, hb⟩
        obtain ⟨hc, hf⟩ := bcell hb
        have hzwdc := hb.size
        have HBwdc := Lib.hid hb
        (try simp at hzwdc hc hf)
        have hlwdc : w.heap.size < wdc.heap.size := (by omega)
        have Rwdc := Lib.hid hr
        have BTwdc := Lib.hid hbut
        clear hb hf hr hbut
        have Y18 : Hid (Rd wdc _ awbd R) := Lib.hid (Y16.out.but BTwdc.out (by omega))
        have Y19 : Hid (Rd wdc _ _ S) := Lib.hid (Y17.out.but BTwdc.out (by omega))
        have Y20 : Hid (Rd wdc _ _ S) := Lib.hid (Y19.out.below (by (repeat' (first | (with_reducible exact Below.refl _ _) | (with_reducible refine Below.alloc ?_ ?_ _) | (with_reducible refine Below.setCell ?_ ?_ _) | (with_reducible refine Below.drew ?_) | (with_reducible refine below_drewN ?_ _) | (with_reducible refine Below.trans ?_ (Below.mono (Hid.out (by assumption)) ?_)) | omega | (simp; done) | (simp; omega)))))
        have Y21 : Hid (Rd wdc _ awbd R) := Lib.hid (Y18.out.below (by (repeat' (first | (with_reducible exact Below.refl _ _) | (with_reducible refine Below.alloc ?_ ?_ _) | (with_reducible refine Below.setCell ?_ ?_ _) | (with_reducible refine Below.drew ?_) | (with_reducible refine below_drewN ?_ _) | (with_reducible refine Below.trans ?_ (Below.mono (Hid.out (by assumption)) ?_)) | omega | (simp; done) | (simp; omega)))))
        go_wp2_with fail
        refine (markS_any S _ S.length _ (1 + 6 * (L.length : Int) + (W.length : Int)) (by omega) (by omega) _ Y20.out).mono ?_
        rintro e wdd ⟨rfl, hr, hbut, hb⟩
        obtain ⟨hc, hf⟩ := bcell hb
        have hzwdd := hb.size
        have HBwdd := Lib.hid hb
        (try simp at hzwdd hc hf)
        have hlwdd : w.heap.size < wdd.heap.size := (by omega)
        have Rwdd := Lib.hid hr
        have BTwdd := Lib.hid hbut
        clear hb hf hr hbut
        have Y22 : Hid (Rd wdd _ awbd R) := Lib.hid (Y21.out.but BTwdd.out (by omega))
        have hq0 : (1 + 6 * (L.length : Int) + (W.length : Int) + (S.length : Int) < 0) = False := by simp; omega
        have Y23 : Hid (Rd wdd _ awae R) := Lib.hid (Rwae.out.below (by (repeat' (first | (with_reducible exact Below.refl _ _) | (with_reducible refine Below.alloc ?_ ?_ _) | (with_reducible refine Below.setCell ?_ ?_ _) | (with_reducible refine Below.drew ?_) | (with_reducible refine below_drewN ?_ _) | (with_reducible refine Below.trans ?_ (Below.mono (Hid.out (by assumption)) ?_)) | omega | (simp; done) | (simp; omega)))))
        have Y24 : Hid (Rd wdd _ awbd R) := Lib.hid (Y22.out.below (by (repeat' (first | (with_reducible exact Below.refl _ _) | (with_reducible refine Below.alloc ?_ ?_ _) | (with_reducible refine Below.setCell ?_ ?_ _) | (with_reducible refine Below.drew ?_) | (with_reducible refine below_drewN ?_ _) | (with_reducible refine Below.trans ?_ (Below.mono (Hid.out (by assumption)) ?_)) | omega | (simp; done) | (simp; omega)))))
        go_wp2_with fail
        refine (eqS_same R awbd awae cwbd cwae _ _ _ (Y24.out) (Y23.out)).mono ?_
        rintro e wde ⟨rfl, hb⟩
        obtain ⟨hc, hf⟩ := bcell hb
        have hzwde := hb.size
        have HBwde := Lib.hid hb
        (try simp at hzwde hc hf)
        have hlwde : w.heap.size < wde.heap.size := (by omega)
        clear hb hf
        have Y25 : Hid (Rd wde _ awbd R) := Lib.hid (Y24.out.below (by (repeat' (first | (with_reducible exact Below.refl _ _) | (with_reducible refine Below.alloc ?_ ?_ _) | (with_reducible refine Below.setCell ?_ ?_ _) | (with_reducible refine Below.drew ?_) | (with_reducible refine below_drewN ?_ _) | (with_reducible refine Below.trans ?_ (Below.mono (Hid.out (by assumption)) ?_)) | omega | (simp; done) | (simp; omega)))))
        go_wp2_with fail
        refine (markS_any R awbd cwbd _ 1 (by decide) (by decide) _ Y25.out).mono ?_
        rintro e wea ⟨rfl, hr, hbut, hb⟩
        obtain ⟨hc, hf⟩ := bcell hb
        have hzwea := hb.size
        have HBwea := Lib.hid hb
        (try simp at hzwea hc hf)
        have hlwea : w.heap.size < wea.heap.size := (by omega)
        have Rwea := Lib.hid hr
        have BTwea := Lib.hid hbut
        clear hb hf hr hbut
        go_wp2_with fail
        refine (heldS_any R.length awbd cwbd _ 1 (by decide) (by decide) _ Rwea.out).mono ?_
        rintro e web ⟨rfl, hb⟩
        obtain ⟨hc, hf⟩ := bcell hb
        have hzweb := hb.size
        have HBweb := Lib.hid hb
        (try simp at hzweb hc hf)
        have hlweb : w.heap.size < web.heap.size := (by omega)
        clear hb hf
        have hq : (1 + (R.length : Int) < 0) = False := by simp; omega
        go_wp2_with fail
        refine (toMS_any L hl1 a1 cap1 _ (HM1.out.below (by (repeat' (first | (with_reducible exact Below.refl _ _) | (with_reducible refine Below.alloc ?_ ?_ _) | (with_reducible refine Below.setCell ?_ ?_ _) | (with_reducible refine Below.drew ?_) | (with_reducible refine below_drewN ?_ _) | (with_reducible refine Below.trans ?_ (Below.mono (Hid.out (by assumption)) ?_)) | omega | (simp; done) | (simp; omega)))))).mono ?_
        rintro e wec ⟨_, rfl, hr, hb, rfl, hgrwec⟩
        obtain ⟨hc, hf⟩ := bcell hb
        have hzwec := hb.size
        have HBwec := Lib.hid hb
        (try simp at hzwec hc hf)
        have hlwec : w.heap.size ≤ wec.heap.size := (by omega)
        (try simp only [World.size_alloc] at hr)
        have Rwec := Lib.hid hr
        clear hb hf hr
        go_wp2_with fail
        refine (toS_any W hl2 a2 cap2 _ (HM2.out.below (by (repeat' (first | (with_reducible exact Below.refl _ _) | (with_reducible refine Below.alloc ?_ ?_ _) | (with_reducible refine Below.setCell ?_ ?_ _) | (with_reducible refine Below.drew ?_) | (with_reducible refine below_drewN ?_ _) | (with_reducible refine Below.trans ?_ (Below.mono (Hid.out (by assumption)) ?_)) | omega | (simp; done) | (simp; omega)))))).mono ?_
        rintro e wed ⟨_, rfl, hr, hb, rfl, hgrwed⟩
        obtain ⟨hc, hf⟩ := bcell hb
        have hzwed := hb.size
        have HBwed := Lib.hid hb
        (try simp at hzwed hc hf)
        have hlwed : w.heap.size ≤ wed.heap.size := (by omega)
        (try simp only [World.size_alloc] at hr)
        have Rwed := Lib.hid hr
        clear hb hf hr
        go_wp2_with fail
        refine (toS_any S hl3 a3 cap3 _ (HM3.out.below (by (repeat' (first | (with_reducible exact Below.refl _ _) | (with_reducible refine Below.alloc ?_ ?_ _) | (with_reducible refine Below.setCell ?_ ?_ _) | (with_reducible refine Below.drew ?_) | (with_reducible refine below_drewN ?_ _) | (with_reducible refine Below.trans ?_ (Below.mono (Hid.out (by assumption)) ?_)) | omega | (simp; done) | (simp; omega)))))).mono ?_
        rintro e wee ⟨_, rfl, hr, hb, rfl, hgrwee⟩
        obtain ⟨hc, hf⟩ := bcell hb
        have hzwee := hb.size
        have HBwee := Lib.hid hb
        (try simp at hzwee hc hf)
        have hlwee : w.heap.size ≤ wee.heap.size := (by omega)
        (try simp only [World.size_alloc] at hr)
        have Rwee := Lib.hid hr
        clear hb hf hr
        have Y26 : Hid (RdM wee _ _ L) := Lib.hid (Rwec.out.below (by (repeat' (first | (with_reducible exact Below.refl _ _) | (with_reducible refine Below.alloc ?_ ?_ _) | (with_reducible refine Below.setCell ?_ ?_ _) | (with_reducible refine Below.drew ?_) | (with_reducible refine below_drewN ?_ _) | (with_reducible refine Below.trans ?_ (Below.mono (Hid.out (by assumption)) ?_)) | omega | (simp; done) | (simp; omega)))))
        have Y27 : Hid (Rd wee _ _ W) := Lib.hid (Rwed.out.below (by (repeat' (first | (with_reducible exact Below.refl _ _) | (with_reducible refine Below.alloc ?_ ?_ _) | (with_reducible refine Below.setCell ?_ ?_ _) | (with_reducible refine Below.drew ?_) | (with_reducible refine below_drewN ?_ _) | (with_reducible refine Below.trans ?_ (Below.mono (Hid.out (by assumption)) ?_)) | omega | (simp; done) | (simp; omega)))))
        go_wp2_with fail
        refine (HI.out _ _ _ _ Y26.out.inRow Y27.out.inRow Rwee.out.inRow (HER.out.bel (by (repeat' (first | (with_reducible exact Below.refl _ _) | (with_reducible refine Below.alloc ?_ ?_ _) | (with_reducible refine Below.setCell ?_ ?_ _) | (with_reducible refine Below.drew ?_) | (with_reducible refine below_drewN ?_ _) | (with_reducible refine Below.trans ?_ (Below.mono (Hid.out (by assumption)) ?_)) | omega | (simp; done) | (simp; omega)))))).mono ?_
        rintro e wfa ⟨awfa, cwfa, rfl, hr, hb⟩
        obtain ⟨hc, hf⟩ := bcell hb
        have hzwfa := hb.size
        have HBwfa := Lib.hid hb
        (try simp at hzwfa hc hf)
        have hlwfa : w.heap.size < wfa.heap.size := (by omega)
        have Rwfa := Lib.hid hr
        clear hb hf hr
        have Y28 : Hid (Rd wfa _ awae R) := Lib.hid (Rwae.out.below (by (repeat' (first | (with_reducible exact Below.refl _ _) | (with_reducible refine Below.alloc ?_ ?_ _) | (with_reducible refine Below.setCell ?_ ?_ _) | (with_reducible refine Below.drew ?_) | (with_reducible refine below_drewN ?_ _) | (with_reducible refine Below.trans ?_ (Below.mono (Hid.out (by assumption)) ?_)) | omega | (simp; done) | (simp; omega)))))
        go_wp2_with fail
        refine (eqS_same R awfa awae cwfa cwae _ _ _ (Rwfa.out) (Y28.out)).mono ?_
        rintro e wfb ⟨rfl, hb⟩
        obtain ⟨hc, hf⟩ := bcell hb
        have hzwfb := hb.size
        have HBwfb := Lib.hid hb
        (try simp at hzwfb hc hf)
        have hlwfb : w.heap.size < wfb.heap.size := (by omega)
        clear hb hf
        have Y29 : Hid (Rd wfb _ awbd (mk R.length 1)) := Lib.hid (Rwea.out.below (by (repeat' (first | (with_reducible exact Below.refl _ _) | (with_reducible refine Below.alloc ?_ ?_ _) | (with_reducible refine Below.setCell ?_ ?_ _) | (with_reducible refine Below.drew ?_) | (with_reducible refine below_drewN ?_ _) | (with_reducible refine Below.trans ?_ (Below.mono (Hid.out (by assumption)) ?_)) | omega | (simp; done) | (simp; omega)))))
        go_wp2_with fail
        refine (heldS_any R.length awbd cwbd _ 1 (by decide) (by decide) _ Y29.out).mono ?_
        rintro e wfc ⟨rfl, hb⟩
        obtain ⟨hc, hf⟩ := bcell hb
        have hzwfc := hb.size
        have HBwfc := Lib.hid hb
        (try simp at hzwfc hc hf)
        have hlwfc : w.heap.size < wfc.heap.size := (by omega)
        clear hb hf
        go_wp2_with fail
        go_ret
        refine ⟨rfl, ?_⟩
        (repeat' (first | (with_reducible exact Below.refl _ _) | (with_reducible refine Below.alloc ?_ ?_ _) | (with_reducible refine Below.setCell ?_ ?_ _) | (with_reducible refine Below.drew ?_) | (with_reducible refine below_drewN ?_ _) | (with_reducible refine Below.trans ?_ (Below.mono (Hid.out (by assumption)) ?_)) | omega | (simp; done) | (simp; omega)))
      · have hbig : 1048576 < L.length := by omega
        go_enter Tryd.func5, Tryd.ntmps5
        go_wp2_with (go_at_call 8; (with_reducible refine (sz_big L.length a1 cap1 hbig H91.out _).mono ?_); rintro e w ⟨rfl, rfl⟩)
        go_ret
        exact ⟨rfl, Below.refl _ _⟩
    · have hbig : 1048576 < (S.length : Int) := by omega
      go_enter Tryd.func5, Tryd.ntmps5
      go_wp2_with fail
      go_ret
      exact ⟨rfl, Below.refl _ _⟩
  · have hbig : 1048576 < (W.length : Int) := by omega
    go_enter Tryd.func5, Tryd.ntmps5
    go_wp2_with fail
    go_ret
    exact ⟨rfl, Below.refl _ _⟩

end LFnExactImageAlong

namespace LFnExactImageAlong
set_option maxRecDepth 100000 in
theorem lifted (os : Os) (started : os.Started) (H : Type) (enc : TypeId × Value → H) :
    ReturnsInHanded {} Tryd.checked os 5 .any (fun w args => (Rows.fnExactImageAlongSpec.pre enc Tryd.prog Tryd.f5 [] false w args ∧ laidMet Tryd.prog lay w) ∧ sizedMet enc Tryd.prog Tryd.f5 (OpenSpec.ofChange Rows.fnExactImageAlongSpec) false w args)
      (Rows.fnExactImageAlongSpec.post enc Tryd.prog Tryd.f5 false true false false) := by
  refine returnsInHanded_of_change_and (C := Tryd.checked) (X := fun w _ => laidMet Tryd.prog lay w) (fun _ _ _ hh h => h.of_heap hh) own started (by kernel_rfl) Tryd.func5
    (ChangeSpec.witness_at (enc := enc) (C := Tryd.checked) (os := os) (X := fun w _ => laidMet Tryd.prog lay w) false (laidWorld os) #[.slice none 0 0, .slice none 0 0, .slice none 0 0] 8 rfl (by kernel_rfl) (by kernel_rfl) (by kernel_rfl) (by kernel_rfl) (by kernel_rfl) (laidWorld_met os _)) ?_
  intro W base args ds gs before hval0 hW _ _ hL _
  have hval : ∀ (j : Nat) t v, Tryd.f5.params[j]? = some t → args[j]? = some v → Value.okWide Tryd.prog W .any base t v := hval0
  have hW' := hW
  obtain ⟨p, q, hA0, hV, rfl, hfz, hnd⟩ := hW
  have hA : DataW.TrodAll enc Tryd.prog W 0 (fun _ => true) true Tryd.f5.params.toList args.toList ds p := hA0
  rw [Tryd.params5] at hA hval
  obtain ⟨v0, vs0, d0, ds0, p0, q0, hargs, rfl, rfl, h0, r0⟩ := trodAll_cons hA
  obtain ⟨v1, vs1, d1, ds1, p1, q1, rfl, rfl, rfl, h1, r1⟩ := trodAll_cons r0
  obtain ⟨v2, vs2, d2, ds2, p2, q2, rfl, rfl, rfl, h2, r2⟩ := trodAll_cons r1
  obtain ⟨rfl, rfl, rfl⟩ := trodAll_nil r2
  obtain rfl : args = #[v0, v1, v2] := by cases args; simp_all
  obtain ⟨a9, hv9⟩ := er_of_laid hL
  have hV9 : DataW.TrodVars enc Tryd.prog W (fun _ => true) ["loop.example/g01359/impl.errNoWord"] gs q := hV
  obtain ⟨rfl, rfl⟩ := hV9.unique (vars_read1 enc gE gEType Tryd.underlying96 hv9 trivial _)
  have k0 := h0
  have lt0 : ∀ x ∈ p0, x.block < W.heap.size := by obtain ⟨m, hm⟩ := k0; exact DataW.trod_lt m _ _ _ hm
  obtain ⟨a0, len0, cap0, rfl⟩ := okWide_slice Tryd.underlying22 (hval 0 22 v0 rfl rfl)
  obtain ⟨z0, w0⟩ := open_rowM h0
  have k1 := h1
  have lt1 : ∀ x ∈ p1, x.block < W.heap.size := by obtain ⟨m, hm⟩ := k1; exact DataW.trod_lt m _ _ _ hm
  obtain ⟨a1, len1, cap1, rfl⟩ := okWide_slice Tryd.underlying23 (hval 1 23 v1 rfl rfl)
  obtain ⟨z1, w1⟩ := open_row h1
  have k2 := h2
  have lt2 : ∀ x ∈ p2, x.block < W.heap.size := by obtain ⟨m, hm⟩ := k2; exact DataW.trod_lt m _ _ _ hm
  obtain ⟨a2, len2, cap2, rfl⟩ := okWide_slice Tryd.underlying23 (hval 2 23 v2 rfl rfl)
  obtain ⟨z2, w2⟩ := open_row h2
  clear hA0 hval0
  refine (ex_any W (er_var hv9) a0 len0 cap0 z0 w0 a1 len1 cap1 z1 w1 a2 len2 cap2 z2 w2).mono fun e W' ⟨he, bel⟩ => ?_
  subst he
  exact ⟨_, rfl, _, _, _, [], _, [.cell 0 0], hW', trodAll_mk1 (shut_bool Tryd.underlying4 _), (trodAll_cons_mk (Below.trod laidOut (by kernel_rfl) (of_decide_eq_true (by kernel_rfl)) k0 bel lt0) (trodAll_cons_mk (Below.trod laidOut (by kernel_rfl) (of_decide_eq_true (by kernel_rfl)) k1 bel lt1) (trodAll_cons_mk (Below.trod laidOut (by kernel_rfl) (of_decide_eq_true (by kernel_rfl)) k2 bel lt2) trodAll_mk0))), vars_read1 enc gE gEType Tryd.underlying96 (var_below hv9 bel) trivial _, bel.frame _, fun h => by cases h⟩
theorem joined : joinedFacts Tryd.pinned.checked.prog 5 Tryd.f5 Rows.fnExactImageAlongSpec Rows.fnExactImageAlongRow = true := by
  unfold joinedFacts
  simp only [Bool.and_eq_true]
  repeat' apply And.intro
  iterate 25 kernel_rfl
  exact mk_enter
  exact mk_lifts
  exact mk_make
  iterate 4 kernel_rfl
theorem over : Rows.fnExactImageAlongRow.holds Tryd.pinned (OpenSpec.ofChange Rows.fnExactImageAlongSpec) :=
  OpenClaim.holds_of_wide 5 Tryd.f5 rfl rfl rfl rfl rfl rfl rfl ⟨rfl, rfl, rfl, rfl, rfl⟩ rfl rfl rfl rfl rfl (by kernel_rfl) Tryd.func5 joined
    (of_decide_eq_true (by kernel_rfl)) (by unfold Func.isWrapper; rw [if_neg (of_decide_eq_false (by kernel_rfl))]; exact ⟨rfl, rfl⟩)
    (fun os started H enc _ => lifted os started H enc)
theorem card : Rows.FnExactImageAlongCardSaid :=
  Claim7.holds_tied_plain_at .later [] [.sentinel] true _ true
    over (fun _ h => by cases h) (by kernel_rfl) (fun _ h => by cases h) fnExactImageAlong_row_tie rfl ⟨rfl, rfl⟩ (by kernel_rfl) rfl
    (fun f fn hf hfn => by
      obtain rfl : f = 5 := Option.some.inj ((show Tryd.prog.funcNamed "loop.example/g01359/laws.FnExactImageAlong" = some 5 by kernel_rfl).symm.trans hf) |>.symm
      obtain rfl : fn = Tryd.f5 := (Option.some.inj (Tryd.func5.symm.trans hfn)).symm
      exact ⟨by kernel_rfl, fun j t ht => by
        rw [Tryd.params5] at ht
        have hin : t ∈ [22, 23, 23] := by
          have := Array.mem_of_getElem? ht
          simpa using this
        simp only [List.mem_cons, List.not_mem_nil, or_false] at hin
        rcases hin with rfl | rfl | rfl
        all_goals exact (show Tryd.prog.wantsStandIn _ = false by kernel_rfl)⟩)
    (by kernel_rfl)
/-- The statement of FnExactImageAlong. -/
theorem proved : Rows.FnExactImageAlongCardSaid := card
#print axioms proved
end LFnExactImageAlong

end Go.Proofs.YthdjajelbpccpaaDoor
