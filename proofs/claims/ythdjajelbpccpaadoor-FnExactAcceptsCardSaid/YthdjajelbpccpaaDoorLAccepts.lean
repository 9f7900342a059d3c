/- The law FnExactAccepts is true at every input: impl.Accepts and spec.Accepts give the same answer and the same code, and the acceptor and the word that came in stay as they were. One condition, tied to the program's text by the card: the package's error lies in its variable as its initialiser lays it. -/
import Derived.Test.YthdjajelbpccpaaDoorMk
import Derived.Test.YthdjajelbpccpaaDoorAcp
import Derived.Test.YthdjajelbpccpaaDoorAcs
import Derived.Test.YthdjajelbpccpaaDoorRowM
import Derived.Test.YthdjajelbpccpaaDoorRowS
import Derived.Test.YthdjajelbpccpaaDoorMark
import Derived.Test.YthdjajelbpccpaaDoorSl
import Derived.Test.YthdjajelbpccpaaDoorErr
import Derived.Test.YthdjajelbpccpaaDoorCards
import Derived.Test.YthdjajelbpccpaaDoorTie
import Derived.SevenTiedAt
namespace Go.Proofs.YthdjajelbpccpaaDoor
open Go.ChangeShapes Go.WideShapes Go.ChangeAt Go.RowKit
namespace LFnExactAccepts

set_option maxRecDepth 100000 in
set_option maxHeartbeats 8000000 in
theorem ex_any (w : World) (hER : Er w) (a1 : Option Addr) (L : List MapN) (c1 : Nat) (F : Int) (b1 : Option Addr) (S : List Int) (d1 : Nat) (hw1 : InAcc w a1 b1 c1 L S) (_ : (Lit.int .i64 F).wf = true) (_ : ∀ x ∈ S, (Lit.int .i64 x).wf = true) (a2 : Option Addr) (len2 cap2 : Nat) (X : List Int) (hw2 : X.length = len2 ∧ InRow w a2 X) :
    Calls Tryd.prog 7 #[.agg #[.slice a1 L.length c1, .int .i64 F, .slice b1 S.length d1], .slice a2 len2 cap2] w fun e w' => e = .returned (.bool true) ∧ Below w.heap.size w w' := by
  have HER := Lib.hid hER
  clear hER
  obtain ⟨h11, h21, _, h41, h51⟩ := hw1
  obtain ⟨rfl, h12⟩ := hw2
  obtain ⟨wb, hwb⟩ : ∃ wb, wb = w.alloc (.cells #[.slice a1 L.length c1, .int .i64 F, .slice b1 S.length d1] 42) := ⟨_, rfl⟩
  have HBX1wb : Hid (wb.heap[w.heap.size]? = some (.cells #[.slice a1 L.length c1, .int .i64 F, .slice b1 S.length d1] 42 (0, 0))) := Lib.hid (by rw [hwb]; exact (halloc_at _ _ _ (by simp)))
  have hwz : w.heap.size + 1 ≤ wb.heap.size := by rw [hwb]; simp
  have HWB : Hid (Below w.heap.size w wb) := Lib.hid (by rw [hwb]; exact (Below.refl _ _).alloc (Nat.le_refl _) _)
  have HM1wb := Lib.hid (h11.below HWB.out)
  have HL1wb := Lib.hid (h21.below HWB.out)
  clear h11 h21
  have HW2wb := Lib.hid (h12.below HWB.out)
  clear h12
  by_cases hl2 : X.length ≤ 1048576
  · have hbg2 : ¬ ((1048576 : Int) < (X.length : Int)) := by omega
    by_cases hz1 : (L.length : Int) + S.length ≤ 1048576
    · have hng1 : ¬ (1048576 - (L.length : Int) - (S.length : Int) < 0) := by omega
      have HSZ1 := Lib.hid fun w => szA_ok L.length S.length a1 b1 c1 d1 F (1048576) (by omega) hz1 w
      have HCP1 := Lib.hid fun wx a b c d h1 h2 => toA_any L (by omega) F S (by omega) a b c d wx h1 h2
      obtain ⟨P, C, hV⟩ : ∃ P C, acpV L F S X = .tuple #[.bool P, .int .i64 C] := ⟨_, _, rfl⟩
      have HS := fun w (g11 g12 : Nat) (g2 : Nat) h11 h12 h2 => sAcp_any L (by omega) F S (by omega) X hl2 (some ⟨g11, 0, none⟩) (some ⟨g12, 0, none⟩) L.length S.length (fun e => by cases e) (some ⟨g2, 0, none⟩) X.length w h11 h12 h2
      have HI := fun w (g11 g12 : Nat) (g2 : Nat) he h11 h12 h2 => iAcp_any L (by omega) F S (by omega) X hl2 (some ⟨g11, 0, none⟩) (some ⟨g12, 0, none⟩) L.length S.length (fun e => by cases e) (some ⟨g2, 0, none⟩) X.length w he h11 h12 h2
      rw [hV] at HS HI
      clear hV
      have HS := Lib.hid HS
      have HI := Lib.hid HI
      go_enter Tryd.func7, Tryd.ntmps7
      go_wp2_with fail
      rw [← hwb]
      clear hwb
      have f1wb0 := Joins.cell_of_block HBX1wb.out 0
      have f1wb1 := Joins.cell_of_block HBX1wb.out 1
      have f1wb2 := Joins.cell_of_block HBX1wb.out 2
      simp only [List.getElem?_toArray, List.getElem?_cons_zero, List.getElem?_cons_succ] at f1wb0 f1wb1 f1wb2
      refine (HSZ1.out _).mono ?_
      rintro e waq ⟨rfl, hb⟩
      have hzwaq := hb.size
      (try simp at hzwaq)
      have hswaq : wb.heap.size ≤ waq.heap.size := (by have := hb.size; (try simp at this); omega)
      have HBwaq := Lib.hid hb
      clear hb
      have HBX1waq : Hid (waq.heap[w.heap.size]? = some (.cells #[.slice a1 L.length c1, .int .i64 F, .slice b1 S.length d1] 42 (0, 0))) := Lib.hid (by (repeat' (first | omega | (rw [hdrew]) | (with_reducible assumption) | (with_reducible exact Hid.out (by assumption)) | (with_reducible rfl) | ((with_reducible refine halloc_at _ _ _ ?_) <;> (first | (with_reducible rfl) | omega | (simp; done))) | (with_reducible refine chain6 ?_) | (with_reducible refine Eq.trans (hset_ne _ _ _ _ ?_) ?_) | (with_reducible refine Eq.trans (halloc_lt _ _ _ ?_) ?_) | (with_reducible refine Eq.trans (Below.block (Hid.out (by assumption)) _ ?_) ?_) | (simp; done) | (simp; omega))))
      have f1waq0 := Joins.cell_of_block HBX1waq.out 0
      have f1waq1 := Joins.cell_of_block HBX1waq.out 1
      have f1waq2 := Joins.cell_of_block HBX1waq.out 2
      simp only [List.getElem?_toArray, List.getElem?_cons_zero, List.getElem?_cons_succ] at f1waq0 f1waq1 f1waq2
      go_wp2_with fail
      refine (HCP1.out _ a1 b1 c1 d1 (HM1wb.out.below (by (repeat' (first | (with_reducible exact Below.refl _ _) | (with_reducible refine Below.alloc ?_ ?_ _) | (with_reducible refine Below.setCell ?_ ?_ _) | (with_reducible refine Below.drew ?_) | (with_reducible refine below_drewN ?_ _) | (with_reducible refine Below.trans ?_ (Below.mono (Hid.out (by assumption)) ?_)) | omega | (simp; done) | (simp; omega))))) (HL1wb.out.below (by (repeat' (first | (with_reducible exact Below.refl _ _) | (with_reducible refine Below.alloc ?_ ?_ _) | (with_reducible refine Below.setCell ?_ ?_ _) | (with_reducible refine Below.drew ?_) | (with_reducible refine below_drewN ?_ _) | (with_reducible refine Below.trans ?_ (Below.mono (Hid.out (by assumption)) ?_)) | omega | (simp; done) | (simp; omega)))))).mono ?_
      rintro e war ⟨gwar1, gwar2, rfl, hcop, hb⟩
      have HCwar := Lib.hid hcop
      have hlowar := hcop.lo
      have hltwar := hcop.lt
      have hhiwar := hcop.hi
      (try simp at hlowar)
      clear hcop
      have hzwar := hb.size
      (try simp at hzwar)
      have hswar : wb.heap.size ≤ war.heap.size := (by have := hb.size; (try simp at this); omega)
      have HBwar := Lib.hid hb
      clear hb
      have HBX1war : Hid (war.heap[w.heap.size]? = some (.cells #[.slice a1 L.length c1, .int .i64 F, .slice b1 S.length d1] 42 (0, 0))) := Lib.hid (by (repeat' (first | omega | (rw [hdrew]) | (with_reducible assumption) | (with_reducible exact Hid.out (by assumption)) | (with_reducible rfl) | ((with_reducible refine halloc_at _ _ _ ?_) <;> (first | (with_reducible rfl) | omega | (simp; done))) | (with_reducible refine chain6 ?_) | (with_reducible refine Eq.trans (hset_ne _ _ _ _ ?_) ?_) | (with_reducible refine Eq.trans (halloc_lt _ _ _ ?_) ?_) | (with_reducible refine Eq.trans (Below.block (Hid.out (by assumption)) _ ?_) ?_) | (simp; done) | (simp; omega))))
      have f1war0 := Joins.cell_of_block HBX1war.out 0
      have f1war1 := Joins.cell_of_block HBX1war.out 1
      have f1war2 := Joins.cell_of_block HBX1war.out 2
      simp only [List.getElem?_toArray, List.getElem?_cons_zero, List.getElem?_cons_succ] at f1war0 f1war1 f1war2
      go_wp2_with fail
      refine (toS_any X hl2 a2 cap2 _ (HW2wb.out.below (by (repeat' (first | (with_reducible exact Below.refl _ _) | (with_reducible refine Below.alloc ?_ ?_ _) | (with_reducible refine Below.setCell ?_ ?_ _) | (with_reducible refine Below.drew ?_) | (with_reducible refine below_drewN ?_ _) | (with_reducible refine Below.trans ?_ (Below.mono (Hid.out (by assumption)) ?_)) | omega | (simp; done) | (simp; omega)))))).mono ?_
      rintro e was ⟨_, rfl, hr, hb, rfl, hgrwas⟩
      (try simp only [World.size_alloc, World.size_setCell] at hr)
      have HRwas := Lib.hid hr
      clear hr
      have hzwas := hb.size
      (try simp at hzwas)
      have hswas : wb.heap.size ≤ was.heap.size := (by have := hb.size; (try simp at this); omega)
      have HBwas := Lib.hid hb
      clear hb
      have HBX1was : Hid (was.heap[w.heap.size]? = some (.cells #[.slice a1 L.length c1, .int .i64 F, .slice b1 S.length d1] 42 (0, 0))) := Lib.hid (by (repeat' (first | omega | (rw [hdrew]) | (with_reducible assumption) | (with_reducible exact Hid.out (by assumption)) | (with_reducible rfl) | ((with_reducible refine halloc_at _ _ _ ?_) <;> (first | (with_reducible rfl) | omega | (simp; done))) | (with_reducible refine chain6 ?_) | (with_reducible refine Eq.trans (hset_ne _ _ _ _ ?_) ?_) | (with_reducible refine Eq.trans (halloc_lt _ _ _ ?_) ?_) | (with_reducible refine Eq.trans (Below.block (Hid.out (by assumption)) _ ?_) ?_) | (simp; done) | (simp; omega))))
      have f1was0 := Joins.cell_of_block HBX1was.out 0
      have f1was1 := Joins.cell_of_block HBX1was.out 1
      have f1was2 := Joins.cell_of_block HBX1was.out 2
      simp only [List.getElem?_toArray, List.getElem?_cons_zero, List.getElem?_cons_succ] at f1was0 f1was1 f1was2
      go_wp2_with fail
      refine (HS.out _ _ _ _ ((HCwar.out.below (by (repeat' (first | (with_reducible exact Below.refl _ _) | (with_reducible refine Below.alloc ?_ ?_ _) | (with_reducible refine Below.setCell ?_ ?_ _) | (with_reducible refine Below.drew ?_) | (with_reducible refine below_drewN ?_ _) | (with_reducible refine Below.trans ?_ (Below.mono (Hid.out (by assumption)) ?_)) | omega | (simp; done) | (simp; omega))))).maps.inRow) ((HCwar.out.below (by (repeat' (first | (with_reducible exact Below.refl _ _) | (with_reducible refine Below.alloc ?_ ?_ _) | (with_reducible refine Below.setCell ?_ ?_ _) | (with_reducible refine Below.drew ?_) | (with_reducible refine below_drewN ?_ _) | (with_reducible refine Below.trans ?_ (Below.mono (Hid.out (by assumption)) ?_)) | omega | (simp; done) | (simp; omega))))).last.inRow) ((HRwas.out.below (by (repeat' (first | (with_reducible exact Below.refl _ _) | (with_reducible refine Below.alloc ?_ ?_ _) | (with_reducible refine Below.setCell ?_ ?_ _) | (with_reducible refine Below.drew ?_) | (with_reducible refine below_drewN ?_ _) | (with_reducible refine Below.trans ?_ (Below.mono (Hid.out (by assumption)) ?_)) | omega | (simp; done) | (simp; omega))))).inRow)).mono ?_
      rintro e wat ⟨rfl, hb⟩
      have hzwat := hb.size
      (try simp at hzwat)
      have hswat : wb.heap.size ≤ wat.heap.size := (by have := hb.size; (try simp at this); omega)
      have HBwat := Lib.hid hb
      clear hb
      have HBX1wat : Hid (wat.heap[w.heap.size]? = some (.cells #[.slice a1 L.length c1, .int .i64 F, .slice b1 S.length d1] 42 (0, 0))) := Lib.hid (by (repeat' (first | omega | (rw [hdrew]) | (with_reducible assumption) | (with_reducible exact Hid.out (by assumption)) | (with_reducible rfl) | ((with_reducible refine halloc_at _ _ _ ?_) <;> (first | (with_reducible rfl) | omega | (simp; done))) | (with_reducible refine chain6 ?_) | (with_reducible refine Eq.trans (hset_ne _ _ _ _ ?_) ?_) | (with_reducible refine Eq.trans (halloc_lt _ _ _ ?_) ?_) | (with_reducible refine Eq.trans (Below.block (Hid.out (by assumption)) _ ?_) ?_) | (simp; done) | (simp; omega))))
      have f1wat0 := Joins.cell_of_block HBX1wat.out 0
      have f1wat1 := Joins.cell_of_block HBX1wat.out 1
      have f1wat2 := Joins.cell_of_block HBX1wat.out 2
      simp only [List.getElem?_toArray, List.getElem?_cons_zero, List.getElem?_cons_succ] at f1wat0 f1wat1 f1wat2
      go_wp2_with fail
      refine (HCP1.out _ a1 b1 c1 d1 (HM1wb.out.below (by (repeat' (first | (with_reducible exact Below.refl _ _) | (with_reducible refine Below.alloc ?_ ?_ _) | (with_reducible refine Below.setCell ?_ ?_ _) | (with_reducible refine Below.drew ?_) | (with_reducible refine below_drewN ?_ _) | (with_reducible refine Below.trans ?_ (Below.mono (Hid.out (by assumption)) ?_)) | omega | (simp; done) | (simp; omega))))) (HL1wb.out.below (by (repeat' (first | (with_reducible exact Below.refl _ _) | (with_reducible refine Below.alloc ?_ ?_ _) | (with_reducible refine Below.setCell ?_ ?_ _) | (with_reducible refine Below.drew ?_) | (with_reducible refine below_drewN ?_ _) | (with_reducible refine Below.trans ?_ (Below.mono (Hid.out (by assumption)) ?_)) | omega | (simp; done) | (simp; omega)))))).mono ?_
      rintro e wbp ⟨gwbp1, gwbp2, rfl, hcop, hb⟩
      have HCwbp := Lib.hid hcop
      have hlowbp := hcop.lo
      have hltwbp := hcop.lt
      have hhiwbp := hcop.hi
      (try simp at hlowbp)
      clear hcop
      have hzwbp := hb.size
      (try simp at hzwbp)
      have hswbp : wb.heap.size ≤ wbp.heap.size := (by have := hb.size; (try simp at this); omega)
      have HBwbp := Lib.hid hb
      clear hb
      have HBX1wbp : Hid (wbp.heap[w.heap.size]? = some (.cells #[.slice a1 L.length c1, .int .i64 F, .slice b1 S.length d1] 42 (0, 0))) := Lib.hid (by (repeat' (first | omega | (rw [hdrew]) | (with_reducible assumption) | (with_reducible exact Hid.out (by assumption)) | (with_reducible rfl) | ((with_reducible refine halloc_at _ _ _ ?_) <;> (first | (with_reducible rfl) | omega | (simp; done))) | (with_reducible refine chain6 ?_) | (with_reducible refine Eq.trans (hset_ne _ _ _ _ ?_) ?_) | (with_reducible refine Eq.trans (halloc_lt _ _ _ ?_) ?_) | (with_reducible refine Eq.trans (Below.block (Hid.out (by assumption)) _ ?_) ?_) | (simp; done) | (simp; omega))))
      have f1wbp0 := Joins.cell_of_block HBX1wbp.out 0
      have f1wbp1 := Joins.cell_of_block HBX1wbp.out 1
      have f1wbp2 := Joins.cell_of_block HBX1wbp.out 2
      simp only [List.getElem?_toArray, List.getElem?_cons_zero, List.getElem?_cons_succ] at f1wbp0 f1wbp1 f1wbp2
      go_wp2_with fail
      refine (toS_any X hl2 a2 cap2 _ (HW2wb.out.below (by (repeat' (first | (with_reducible exact Below.refl _ _) | (with_reducible refine Below.alloc ?_ ?_ _) | (with_reducible refine Below.setCell ?_ ?_ _) | (with_reducible refine Below.drew ?_) | (with_reducible refine below_drewN ?_ _) | (with_reducible refine Below.trans ?_ (Below.mono (Hid.out (by assumption)) ?_)) | omega | (simp; done) | (simp; omega)))))).mono ?_
      rintro e wbq ⟨_, rfl, hr, hb, rfl, hgrwbq⟩
      (try simp only [World.size_alloc, World.size_setCell] at hr)
      have HRwbq := Lib.hid hr
      clear hr
      have hzwbq := hb.size
      (try simp at hzwbq)
      have hswbq : wb.heap.size ≤ wbq.heap.size := (by have := hb.size; (try simp at this); omega)
      have HBwbq := Lib.hid hb
      clear hb
      have HBX1wbq : Hid (wbq.heap[w.heap.size]? = some (.cells #[.slice a1 L.length c1, .int .i64 F, .slice b1 S.length d1] 42 (0, 0))) := Lib.hid (by (repeat' (first | omega | (rw [hdrew]) | (with_reducible assumption) | (with_reducible exact Hid.out (by assumption)) | (with_reducible rfl) | ((with_reducible refine halloc_at _ _ _ ?_) <;> (first | (with_reducible rfl) | omega | (simp; done))) | (with_reducible refine chain6 ?_) | (with_reducible refine Eq.trans (hset_ne _ _ _ _ ?_) ?_) | (with_reducible refine Eq.trans (halloc_lt _ _ _ ?_) ?_) | (with_reducible refine Eq.trans (Below.block (Hid.out (by assumption)) _ ?_) ?_) | (simp; done) | (simp; omega))))
      have HXX1wbq : Hid (wbq.heap[wbp.heap.size]? = some (.cells #[.slice (some ⟨gwbp1, 0, none⟩) L.length L.length, .int .i64 F, .slice (some ⟨gwbp2, 0, none⟩) S.length S.length] 47 (0, 0))) := Lib.hid (by (repeat' (first | omega | (rw [hdrew]) | (with_reducible assumption) | (with_reducible exact Hid.out (by assumption)) | (with_reducible rfl) | ((with_reducible refine halloc_at _ _ _ ?_) <;> (first | (with_reducible rfl) | omega | (simp; done))) | (with_reducible refine chain6 ?_) | (with_reducible refine Eq.trans (hset_ne _ _ _ _ ?_) ?_) | (with_reducible refine Eq.trans (halloc_lt _ _ _ ?_) ?_) | (with_reducible refine Eq.trans (Below.block (Hid.out (by assumption)) _ ?_) ?_) | (simp; done) | (simp; omega))))
      have hx1wbq : wbp.heap.size < wbq.heap.size := (Array.getElem?_eq_some_iff.1 HXX1wbq.out).1
      have f1wbq0 := Joins.cell_of_block HBX1wbq.out 0
      have f1wbq1 := Joins.cell_of_block HBX1wbq.out 1
      have f1wbq2 := Joins.cell_of_block HBX1wbq.out 2
      simp only [List.getElem?_toArray, List.getElem?_cons_zero, List.getElem?_cons_succ] at f1wbq0 f1wbq1 f1wbq2
      have x1wbq0 := Joins.cell_of_block HXX1wbq.out 0
      have x1wbq1 := Joins.cell_of_block HXX1wbq.out 1
      have x1wbq2 := Joins.cell_of_block HXX1wbq.out 2
      simp only [List.getElem?_toArray, List.getElem?_cons_zero, List.getElem?_cons_succ] at x1wbq0 x1wbq1 x1wbq2
      go_wp2_with fail
      refine (HI.out _ _ _ _ (HER.out.bel (by (repeat' (first | (with_reducible exact Below.refl _ _) | (with_reducible refine Below.alloc ?_ ?_ _) | (with_reducible refine Below.setCell ?_ ?_ _) | (with_reducible refine Below.drew ?_) | (with_reducible refine below_drewN ?_ _) | (with_reducible refine Below.trans ?_ (Below.mono (Hid.out (by assumption)) ?_)) | omega | (simp; done) | (simp; omega))))) ((HCwbp.out.below (by (repeat' (first | (with_reducible exact Below.refl _ _) | (with_reducible refine Below.alloc ?_ ?_ _) | (with_reducible refine Below.setCell ?_ ?_ _) | (with_reducible refine Below.drew ?_) | (with_reducible refine below_drewN ?_ _) | (with_reducible refine Below.trans ?_ (Below.mono (Hid.out (by assumption)) ?_)) | omega | (simp; done) | (simp; omega))))).maps.inRow) ((HCwbp.out.below (by (repeat' (first | (with_reducible exact Below.refl _ _) | (with_reducible refine Below.alloc ?_ ?_ _) | (with_reducible refine Below.setCell ?_ ?_ _) | (with_reducible refine Below.drew ?_) | (with_reducible refine below_drewN ?_ _) | (with_reducible refine Below.trans ?_ (Below.mono (Hid.out (by assumption)) ?_)) | omega | (simp; done) | (simp; omega))))).last.inRow) ((HRwbq.out.below (by (repeat' (first | (with_reducible exact Below.refl _ _) | (with_reducible refine Below.alloc ?_ ?_ _) | (with_reducible refine Below.setCell ?_ ?_ _) | (with_reducible refine Below.drew ?_) | (with_reducible refine below_drewN ?_ _) | (with_reducible refine Below.trans ?_ (Below.mono (Hid.out (by assumption)) ?_)) | omega | (simp; done) | (simp; omega))))).inRow)).mono ?_
      rintro e wbr ⟨rfl, hb⟩
      have hzwbr := hb.size
      (try simp at hzwbr)
      have hswbr : wb.heap.size ≤ wbr.heap.size := (by have := hb.size; (try simp at this); omega)
      have HBwbr := Lib.hid hb
      clear hb
      have HBX1wbr : Hid (wbr.heap[w.heap.size]? = some (.cells #[.slice a1 L.length c1, .int .i64 F, .slice b1 S.length d1] 42 (0, 0))) := Lib.hid (by (repeat' (first | omega | (rw [hdrew]) | (with_reducible assumption) | (with_reducible exact Hid.out (by assumption)) | (with_reducible rfl) | ((with_reducible refine halloc_at _ _ _ ?_) <;> (first | (with_reducible rfl) | omega | (simp; done))) | (with_reducible refine chain6 ?_) | (with_reducible refine Eq.trans (hset_ne _ _ _ _ ?_) ?_) | (with_reducible refine Eq.trans (halloc_lt _ _ _ ?_) ?_) | (with_reducible refine Eq.trans (Below.block (Hid.out (by assumption)) _ ?_) ?_) | (simp; done) | (simp; omega))))
      have HXX1wbr : Hid (wbr.heap[wbp.heap.size]? = some (.cells #[.slice (some ⟨gwbp1, 0, none⟩) L.length L.length, .int .i64 F, .slice (some ⟨gwbp2, 0, none⟩) S.length S.length] 47 (0, 0))) := Lib.hid (by (repeat' (first | omega | (rw [hdrew]) | (with_reducible assumption) | (with_reducible exact Hid.out (by assumption)) | (with_reducible rfl) | ((with_reducible refine halloc_at _ _ _ ?_) <;> (first | (with_reducible rfl) | omega | (simp; done))) | (with_reducible refine chain6 ?_) | (with_reducible refine Eq.trans (hset_ne _ _ _ _ ?_) ?_) | (with_reducible refine Eq.trans (halloc_lt _ _ _ ?_) ?_) | (with_reducible refine Eq.trans (Below.block (Hid.out (by assumption)) _ ?_) ?_) | (simp; done) | (simp; omega))))
      have hx1wbr : wbp.heap.size < wbr.heap.size := (Array.getElem?_eq_some_iff.1 HXX1wbr.out).1
      have f1wbr0 := Joins.cell_of_block HBX1wbr.out 0
      have f1wbr1 := Joins.cell_of_block HBX1wbr.out 1
      have f1wbr2 := Joins.cell_of_block HBX1wbr.out 2
      simp only [List.getElem?_toArray, List.getElem?_cons_zero, List.getElem?_cons_succ] at f1wbr0 f1wbr1 f1wbr2
      have x1wbr0 := Joins.cell_of_block HXX1wbr.out 0
      have x1wbr1 := Joins.cell_of_block HXX1wbr.out 1
      have x1wbr2 := Joins.cell_of_block HXX1wbr.out 2
      simp only [List.getElem?_toArray, List.getElem?_cons_zero, List.getElem?_cons_succ] at x1wbr0 x1wbr1 x1wbr2
      have hgwbr : wbp.heap.size < wbr.heap.size := (by have := HBwbr.out.size; (try simp at this); omega)
      go_wp2_with fail
      obtain ⟨wg1, hwg⟩ : ∃ z : World, z = wbr := ⟨_, rfl⟩
      have HQ := Lib.hid (HCwbp.out.below (w' := wbr) (by (repeat' (first | (with_reducible exact Below.refl _ _) | (with_reducible refine Below.alloc ?_ ?_ _) | (with_reducible refine Below.setCell ?_ ?_ _) | (with_reducible refine Below.drew ?_) | (with_reducible refine below_drewN ?_ _) | (with_reducible refine Below.trans ?_ (Below.mono (Hid.out (by assumption)) ?_)) | omega | (simp; done) | (simp; omega)))))
      have r0 : ∀ z, Below wbr.heap.size wbr z → z.cell? ⟨w.heap.size, 0, none⟩ = _ := fun z h => (h.cell (p := ⟨w.heap.size, 0, none⟩) (show w.heap.size < _ by omega)).trans f1wbr0
      have r1 : ∀ z, Below wbr.heap.size wbr z → z.cell? ⟨w.heap.size, 1, none⟩ = _ := fun z h => (h.cell (p := ⟨w.heap.size, 1, none⟩) (show w.heap.size < _ by omega)).trans f1wbr1
      have r2 : ∀ z, Below wbr.heap.size wbr z → z.cell? ⟨w.heap.size, 2, none⟩ = _ := fun z h => (h.cell (p := ⟨w.heap.size, 2, none⟩) (show w.heap.size < _ by omega)).trans f1wbr2
      have s0 : ∀ z, Below wbr.heap.size wbr z → z.cell? ⟨wbp.heap.size, 0, none⟩ = _ := fun z h => (h.cell (p := ⟨wbp.heap.size, 0, none⟩) (show wbp.heap.size < _ by omega)).trans x1wbr0
      have s1 : ∀ z, Below wbr.heap.size wbr z → z.cell? ⟨wbp.heap.size, 1, none⟩ = _ := fun z h => (h.cell (p := ⟨wbp.heap.size, 1, none⟩) (show wbp.heap.size < _ by omega)).trans x1wbr1
      have s2 : ∀ z, Below wbr.heap.size wbr z → z.cell? ⟨wbp.heap.size, 2, none⟩ = _ := fun z h => (h.cell (p := ⟨wbp.heap.size, 2, none⟩) (show wbp.heap.size < _ by omega)).trans x1wbr2
      clear hwg
      have HMI := Lib.hid fun z (_ : Hid (Below wbr.heap.size wbr z)) => HM1wb.out.below (w' := z) (by (repeat' (first | (with_reducible exact Below.refl _ _) | (with_reducible refine Below.alloc ?_ ?_ _) | (with_reducible refine Below.setCell ?_ ?_ _) | (with_reducible refine Below.drew ?_) | (with_reducible refine below_drewN ?_ _) | (with_reducible refine Below.trans ?_ (Below.mono (Hid.out (by assumption)) ?_)) | omega | (simp; done) | (simp; omega))))
      have HLI := Lib.hid fun z (_ : Hid (Below wbr.heap.size wbr z)) => HL1wb.out.below (w' := z) (by (repeat' (first | (with_reducible exact Below.refl _ _) | (with_reducible refine Below.alloc ?_ ?_ _) | (with_reducible refine Below.setCell ?_ ?_ _) | (with_reducible refine Below.drew ?_) | (with_reducible refine below_drewN ?_ _) | (with_reducible refine Below.trans ?_ (Below.mono (Hid.out (by assumption)) ?_)) | omega | (simp; done) | (simp; omega))))
      go_region_held3 (fun w' => Below wbr.heap.size wbr w') (first | (with_reducible assumption) | ((repeat' (first | (with_reducible exact Below.refl _ _) | (with_reducible refine Below.alloc ?_ ?_ _) | (with_reducible refine Below.setCell ?_ ?_ _) | (with_reducible refine Below.drew ?_) | (with_reducible refine below_drewN ?_ _) | (with_reducible refine Below.trans ?_ (Below.mono (Hid.out (by assumption)) ?_)) | omega | (simp; done) | (simp; omega))); done)) (first
        | (go_at_call 26; (with_reducible refine (HCP1.out _ a1 b1 c1 d1 (HMI.out _ (Lib.hid (by (repeat' (first | (with_reducible exact Below.refl _ _) | (with_reducible refine Below.alloc ?_ ?_ _) | (with_reducible refine Below.setCell ?_ ?_ _) | (with_reducible refine Below.drew ?_) | (with_reducible refine below_drewN ?_ _) | (with_reducible refine Below.trans ?_ (Below.mono (Hid.out (by assumption)) ?_)) | omega | (simp; done) | (simp; omega)))))) (HLI.out _ (Lib.hid (by (repeat' (first | (with_reducible exact Below.refl _ _) | (with_reducible refine Below.alloc ?_ ?_ _) | (with_reducible refine Below.setCell ?_ ?_ _) | (with_reducible refine Below.drew ?_) | (with_reducible refine below_drewN ?_ _) | (with_reducible refine Below.trans ?_ (Below.mono (Hid.out (by assumption)) ?_)) | omega | (simp; done) | (simp; omega))))))).mono ?_); rintro e wbs ⟨g3, g4, rfl, hcop, hb⟩; have HCY := Lib.hid hcop; have hy1 := hcop.lo; have hzwbs := hb.size; (try simp at hy1 hzwbs); have HBwbs := Lib.hid hb; clear hb hcop)
        | (go_at_call 28; (with_reducible refine (eqA_same L F S (by omega) _ _ _ _ _ _ _ _ _ _ _ ((HQ.out.below (by (repeat' (first | (with_reducible exact Below.refl _ _) | (with_reducible refine Below.alloc ?_ ?_ _) | (with_reducible refine Below.setCell ?_ ?_ _) | (with_reducible refine Below.drew ?_) | (with_reducible refine below_drewN ?_ _) | (with_reducible refine Below.trans ?_ (Below.mono (Hid.out (by assumption)) ?_)) | omega | (simp; done) | (simp; omega))))).maps.inRow) ((HCY.out.below (by (repeat' (first | (with_reducible exact Below.refl _ _) | (with_reducible refine Below.alloc ?_ ?_ _) | (with_reducible refine Below.setCell ?_ ?_ _) | (with_reducible refine Below.drew ?_) | (with_reducible refine below_drewN ?_ _) | (with_reducible refine Below.trans ?_ (Below.mono (Hid.out (by assumption)) ?_)) | omega | (simp; done) | (simp; omega))))).maps.inRow) (HQ.out.below (by (repeat' (first | (with_reducible exact Below.refl _ _) | (with_reducible refine Below.alloc ?_ ?_ _) | (with_reducible refine Below.setCell ?_ ?_ _) | (with_reducible refine Below.drew ?_) | (with_reducible refine below_drewN ?_ _) | (with_reducible refine Below.trans ?_ (Below.mono (Hid.out (by assumption)) ?_)) | omega | (simp; done) | (simp; omega))))).last (HCY.out.below (by (repeat' (first | (with_reducible exact Below.refl _ _) | (with_reducible refine Below.alloc ?_ ?_ _) | (with_reducible refine Below.setCell ?_ ?_ _) | (with_reducible refine Below.drew ?_) | (with_reducible refine below_drewN ?_ _) | (with_reducible refine Below.trans ?_ (Below.mono (Hid.out (by assumption)) ?_)) | omega | (simp; done) | (simp; omega))))).last).mono ?_); rintro e wbt ⟨rfl, hb⟩; have hzwbt := hb.size; (try simp at hzwbt); have HBwbt := Lib.hid hb; clear hb))
      clear r0 r1 r2 s0 s1 s2
      have hswbt : wb.heap.size ≤ wbt.heap.size := (by (try simp at hzwbs hzwbt); omega)
      have HBX1wbt : Hid (wbt.heap[w.heap.size]? = some (.cells #[.slice a1 L.length c1, .int .i64 F, .slice b1 S.length d1] 42 (0, 0))) := Lib.hid (by (repeat' (first | omega | (rw [hdrew]) | (with_reducible assumption) | (with_reducible exact Hid.out (by assumption)) | (with_reducible rfl) | ((with_reducible refine halloc_at _ _ _ ?_) <;> (first | (with_reducible rfl) | omega | (simp; done))) | (with_reducible refine chain6 ?_) | (with_reducible refine Eq.trans (hset_ne _ _ _ _ ?_) ?_) | (with_reducible refine Eq.trans (halloc_lt _ _ _ ?_) ?_) | (with_reducible refine Eq.trans (Below.block (Hid.out (by assumption)) _ ?_) ?_) | (simp; done) | (simp; omega))))
      have HXX1wbt : Hid (wbt.heap[wbp.heap.size]? = some (.cells #[.slice (some ⟨gwbp1, 0, none⟩) L.length L.length, .int .i64 F, .slice (some ⟨gwbp2, 0, none⟩) S.length S.length] 47 (0, 0))) := Lib.hid (by (repeat' (first | omega | (rw [hdrew]) | (with_reducible assumption) | (with_reducible exact Hid.out (by assumption)) | (with_reducible rfl) | ((with_reducible refine halloc_at _ _ _ ?_) <;> (first | (with_reducible rfl) | omega | (simp; done))) | (with_reducible refine chain6 ?_) | (with_reducible refine Eq.trans (hset_ne _ _ _ _ ?_) ?_) | (with_reducible refine Eq.trans (halloc_lt _ _ _ ?_) ?_) | (with_reducible refine Eq.trans (Below.block (Hid.out (by assumption)) _ ?_) ?_) | (simp; done) | (simp; omega))))
      have hx1wbt : wbp.heap.size < wbt.heap.size := (Array.getElem?_eq_some_iff.1 HXX1wbt.out).1
      have f1wbt0 := Joins.cell_of_block HBX1wbt.out 0
      have f1wbt1 := Joins.cell_of_block HBX1wbt.out 1
      have f1wbt2 := Joins.cell_of_block HBX1wbt.out 2
      simp only [List.getElem?_toArray, List.getElem?_cons_zero, List.getElem?_cons_succ] at f1wbt0 f1wbt1 f1wbt2
      have x1wbt0 := Joins.cell_of_block HXX1wbt.out 0
      have x1wbt1 := Joins.cell_of_block HXX1wbt.out 1
      have x1wbt2 := Joins.cell_of_block HXX1wbt.out 2
      simp only [List.getElem?_toArray, List.getElem?_cons_zero, List.getElem?_cons_succ] at x1wbt0 x1wbt1 x1wbt2
      go_wp2_with fail
      refine (toS_any X hl2 a2 cap2 _ (HW2wb.out.below (by (repeat' (first | (with_reducible exact Below.refl _ _) | (with_reducible refine Below.alloc ?_ ?_ _) | (with_reducible refine Below.setCell ?_ ?_ _) | (with_reducible refine Below.drew ?_) | (with_reducible refine below_drewN ?_ _) | (with_reducible refine Below.trans ?_ (Below.mono (Hid.out (by assumption)) ?_)) | omega | (simp; done) | (simp; omega)))))).mono ?_
      rintro e wcp ⟨_, rfl, hr, hb, rfl, hgrwcp⟩
      (try simp only [World.size_alloc, World.size_setCell] at hr)
      have HRwcp := Lib.hid hr
      clear hr
      have hzwcp := hb.size
      (try simp at hzwcp)
      have hswcp : wb.heap.size ≤ wcp.heap.size := (by have := hb.size; (try simp at this); omega)
      have HBwcp := Lib.hid hb
      clear hb
      have HBX1wcp : Hid (wcp.heap[w.heap.size]? = some (.cells #[.slice a1 L.length c1, .int .i64 F, .slice b1 S.length d1] 42 (0, 0))) := Lib.hid (by (repeat' (first | omega | (rw [hdrew]) | (with_reducible assumption) | (with_reducible exact Hid.out (by assumption)) | (with_reducible rfl) | ((with_reducible refine halloc_at _ _ _ ?_) <;> (first | (with_reducible rfl) | omega | (simp; done))) | (with_reducible refine chain6 ?_) | (with_reducible refine Eq.trans (hset_ne _ _ _ _ ?_) ?_) | (with_reducible refine Eq.trans (halloc_lt _ _ _ ?_) ?_) | (with_reducible refine Eq.trans (Below.block (Hid.out (by assumption)) _ ?_) ?_) | (simp; done) | (simp; omega))))
      have HXX1wcp : Hid (wcp.heap[wbp.heap.size]? = some (.cells #[.slice (some ⟨gwbp1, 0, none⟩) L.length L.length, .int .i64 F, .slice (some ⟨gwbp2, 0, none⟩) S.length S.length] 47 (0, 0))) := Lib.hid (by (repeat' (first | omega | (rw [hdrew]) | (with_reducible assumption) | (with_reducible exact Hid.out (by assumption)) | (with_reducible rfl) | ((with_reducible refine halloc_at _ _ _ ?_) <;> (first | (with_reducible rfl) | omega | (simp; done))) | (with_reducible refine chain6 ?_) | (with_reducible refine Eq.trans (hset_ne _ _ _ _ ?_) ?_) | (with_reducible refine Eq.trans (halloc_lt _ _ _ ?_) ?_) | (with_reducible refine Eq.trans (Below.block (Hid.out (by assumption)) _ ?_) ?_) | (simp; done) | (simp; omega))))
      have hx1wcp : wbp.heap.size < wcp.heap.size := (Array.getElem?_eq_some_iff.1 HXX1wcp.out).1
      have f1wcp0 := Joins.cell_of_block HBX1wcp.out 0
      have f1wcp1 := Joins.cell_of_block HBX1wcp.out 1
      have f1wcp2 := Joins.cell_of_block HBX1wcp.out 2
      simp only [List.getElem?_toArray, List.getElem?_cons_zero, List.getElem?_cons_succ] at f1wcp0 f1wcp1 f1wcp2
      have x1wcp0 := Joins.cell_of_block HXX1wcp.out 0
      have x1wcp1 := Joins.cell_of_block HXX1wcp.out 1
      have x1wcp2 := Joins.cell_of_block HXX1wcp.out 2
      simp only [List.getElem?_toArray, List.getElem?_cons_zero, List.getElem?_cons_succ] at x1wcp0 x1wcp1 x1wcp2
      go_wp2_with fail
      refine (eqS_same X _ _ X.length X.length _ _ _ (HRwbq.out.below (by (repeat' (first | (with_reducible exact Below.refl _ _) | (with_reducible refine Below.alloc ?_ ?_ _) | (with_reducible refine Below.setCell ?_ ?_ _) | (with_reducible refine Below.drew ?_) | (with_reducible refine below_drewN ?_ _) | (with_reducible refine Below.trans ?_ (Below.mono (Hid.out (by assumption)) ?_)) | omega | (simp; done) | (simp; omega))))) (HRwcp.out.below (by (repeat' (first | (with_reducible exact Below.refl _ _) | (with_reducible refine Below.alloc ?_ ?_ _) | (with_reducible refine Below.setCell ?_ ?_ _) | (with_reducible refine Below.drew ?_) | (with_reducible refine below_drewN ?_ _) | (with_reducible refine Below.trans ?_ (Below.mono (Hid.out (by assumption)) ?_)) | omega | (simp; done) | (simp; omega)))))).mono ?_
      rintro e wcq ⟨rfl, hb⟩
      have hzwcq := hb.size
      (try simp at hzwcq)
      have hswcq : wb.heap.size ≤ wcq.heap.size := (by have := hb.size; (try simp at this); omega)
      have HBwcq := Lib.hid hb
      clear hb
      have HBX1wcq : Hid (wcq.heap[w.heap.size]? = some (.cells #[.slice a1 L.length c1, .int .i64 F, .slice b1 S.length d1] 42 (0, 0))) := Lib.hid (by (repeat' (first | omega | (rw [hdrew]) | (with_reducible assumption) | (with_reducible exact Hid.out (by assumption)) | (with_reducible rfl) | ((with_reducible refine halloc_at _ _ _ ?_) <;> (first | (with_reducible rfl) | omega | (simp; done))) | (with_reducible refine chain6 ?_) | (with_reducible refine Eq.trans (hset_ne _ _ _ _ ?_) ?_) | (with_reducible refine Eq.trans (halloc_lt _ _ _ ?_) ?_) | (with_reducible refine Eq.trans (Below.block (Hid.out (by assumption)) _ ?_) ?_) | (simp; done) | (simp; omega))))
      have HXX1wcq : Hid (wcq.heap[wbp.heap.size]? = some (.cells #[.slice (some ⟨gwbp1, 0, none⟩) L.length L.length, .int .i64 F, .slice (some ⟨gwbp2, 0, none⟩) S.length S.length] 47 (0, 0))) := Lib.hid (by (repeat' (first | omega | (rw [hdrew]) | (with_reducible assumption) | (with_reducible exact Hid.out (by assumption)) | (with_reducible rfl) | ((with_reducible refine halloc_at _ _ _ ?_) <;> (first | (with_reducible rfl) | omega | (simp; done))) | (with_reducible refine chain6 ?_) | (with_reducible refine Eq.trans (hset_ne _ _ _ _ ?_) ?_) | (with_reducible refine Eq.trans (halloc_lt _ _ _ ?_) ?_) | (with_reducible refine Eq.trans (Below.block (Hid.out (by assumption)) _ ?_) ?_) | (simp; done) | (simp; omega))))
      have hx1wcq : wbp.heap.size < wcq.heap.size := (Array.getElem?_eq_some_iff.1 HXX1wcq.out).1
      have f1wcq0 := Joins.cell_of_block HBX1wcq.out 0
      have f1wcq1 := Joins.cell_of_block HBX1wcq.out 1
      have f1wcq2 := Joins.cell_of_block HBX1wcq.out 2
      simp only [List.getElem?_toArray, List.getElem?_cons_zero, List.getElem?_cons_succ] at f1wcq0 f1wcq1 f1wcq2
      have x1wcq0 := Joins.cell_of_block HXX1wcq.out 0
      have x1wcq1 := Joins.cell_of_block HXX1wcq.out 1
      have x1wcq2 := Joins.cell_of_block HXX1wcq.out 2
      simp only [List.getElem?_toArray, List.getElem?_cons_zero, List.getElem?_cons_succ] at x1wcq0 x1wcq1 x1wcq2
      go_wp2_with fail
      go_ret
      refine ⟨rfl, ?_⟩
      have hall := HWB.out
      (repeat' (first | (with_reducible exact Below.refl _ _) | (with_reducible refine Below.alloc ?_ ?_ _) | (with_reducible refine Below.setCell ?_ ?_ _) | (with_reducible refine Below.drew ?_) | (with_reducible refine below_drewN ?_ _) | (with_reducible refine Below.trans ?_ (Below.mono (Hid.out (by assumption)) ?_)) | omega | (simp; done) | (simp; omega)))
    · have HNO := Lib.hid fun w => szA_no L.length S.length h41 h51 a1 b1 c1 d1 F (1048576) (by omega) (by omega) (by omega) w
      go_enter Tryd.func7, Tryd.ntmps7
      go_wp2_with fail
      rw [← hwb]
      refine (HNO.out _).mono ?_
      rintro e wz ⟨rfl, hb⟩
      have HZB := Lib.hid (HWB.out.trans (hb.mono (by omega)))
      clear hb
      go_wp2_with fail
      go_ret
      exact ⟨rfl, HZB.out⟩
  · have hbig : (1048576 : Int) < (X.length : Int) := by omega
    go_enter Tryd.func7, Tryd.ntmps7
    go_wp2_with fail
    rw [← hwb]
    go_ret
    exact ⟨rfl, HWB.out⟩

end LFnExactAccepts

namespace LFnExactAccepts
set_option maxRecDepth 100000 in
theorem lifted (os : Os) (started : os.Started) (H : Type) (enc : TypeId × Value → H) :
    ReturnsInHanded {} Tryd.checked os 7 .any (fun w args => (Rows.fnExactAcceptsSpec.pre enc Tryd.prog Tryd.f7 [] false w args ∧ laidMet Tryd.prog lay w) ∧ sizedMet enc Tryd.prog Tryd.f7 (OpenSpec.ofChange Rows.fnExactAcceptsSpec) false w args)
      (Rows.fnExactAcceptsSpec.post enc Tryd.prog Tryd.f7 false true false false) := by
  refine returnsInHanded_of_change_and (C := Tryd.checked) (X := fun w _ => laidMet Tryd.prog lay w) (fun _ _ _ hh h => h.of_heap hh) own started (by kernel_rfl) Tryd.func7
    (ChangeSpec.witness_at (enc := enc) (C := Tryd.checked) (os := os) (X := fun w _ => laidMet Tryd.prog lay w) false (laidWorld os) #[.agg #[.slice none 0 0, .int .i64 0, .slice none 0 0], .slice none 0 0] 8 rfl (by kernel_rfl) (by kernel_rfl) (by kernel_rfl) (by kernel_rfl) (by kernel_rfl) (laidWorld_met os _)) ?_
  intro W base args ds gs before hval0 hW _ _ hL _
  have hval : ∀ (j : Nat) t v, Tryd.f7.params[j]? = some t → args[j]? = some v → Value.okWide Tryd.prog W .any base t v := hval0
  have hW' := hW
  obtain ⟨p, q, hA0, hV, rfl, hfz, hnd⟩ := hW
  have hA : DataW.TrodAll enc Tryd.prog W 0 (fun _ => true) true Tryd.f7.params.toList args.toList ds p := hA0
  rw [Tryd.params7] at hA hval
  obtain ⟨v0, vs0, d0, ds0, p0, q0, hargs, rfl, rfl, h0, r0⟩ := trodAll_cons hA
  obtain ⟨v1, vs1, d1, ds1, p1, q1, rfl, rfl, rfl, h1, r1⟩ := trodAll_cons r0
  obtain ⟨rfl, rfl, rfl⟩ := trodAll_nil r1
  obtain rfl : args = #[v0, v1] := by cases args; simp_all
  obtain ⟨a9, hv9⟩ := er_of_laid hL
  have hV9 : DataW.TrodVars enc Tryd.prog W (fun _ => true) ["loop.example/g01359/impl.errNoWord"] gs q := hV
  obtain ⟨rfl, rfl⟩ := hV9.unique (vars_read1 enc gE gEType Tryd.underlying96 hv9 trivial _)
  have k0 := h0
  have lt0 : ∀ x ∈ p0, x.block < W.heap.size := by obtain ⟨m, hm⟩ := k0; exact DataW.trod_lt m _ _ _ hm
  obtain ⟨a0, L0, c0, f0, b0, s0, e0, rfl, w0, x0, y0⟩ := open_acc (hval 0 42 v0 rfl rfl) h0
  have k1 := h1
  have lt1 : ∀ x ∈ p1, x.block < W.heap.size := by obtain ⟨m, hm⟩ := k1; exact DataW.trod_lt m _ _ _ hm
  obtain ⟨a1, len1, cap1, rfl⟩ := okWide_slice Tryd.underlying23 (hval 1 23 v1 rfl rfl)
  obtain ⟨z1, w1⟩ := open_row h1
  clear hA0 hval0
  refine (ex_any W (er_var hv9) a0 L0 c0 f0 b0 s0 e0 w0 x0 y0 a1 len1 cap1 z1 w1).mono fun e W' ⟨he, bel⟩ => ?_
  subst he
  exact ⟨_, rfl, _, _, _, [], _, [.cell 0 0], hW', trodAll_mk1 (shut_bool Tryd.underlying4 _), (trodAll_cons_mk (Below.trod laidOut (by kernel_rfl) (of_decide_eq_true (by kernel_rfl)) k0 bel lt0) (trodAll_cons_mk (Below.trod laidOut (by kernel_rfl) (of_decide_eq_true (by kernel_rfl)) k1 bel lt1) trodAll_mk0)), vars_read1 enc gE gEType Tryd.underlying96 (var_below hv9 bel) trivial _, bel.frame _, fun h => by cases h⟩
theorem joined : joinedFacts Tryd.pinned.checked.prog 7 Tryd.f7 Rows.fnExactAcceptsSpec Rows.fnExactAcceptsRow = true := by
  unfold joinedFacts
  simp only [Bool.and_eq_true]
  repeat' apply And.intro
  iterate 25 kernel_rfl
  exact mk_enter
  exact mk_lifts
  exact mk_make
  iterate 4 kernel_rfl
theorem over : Rows.fnExactAcceptsRow.holds Tryd.pinned (OpenSpec.ofChange Rows.fnExactAcceptsSpec) :=
  OpenClaim.holds_of_wide 7 Tryd.f7 rfl rfl rfl rfl rfl rfl rfl ⟨rfl, rfl, rfl, rfl, rfl⟩ rfl rfl rfl rfl rfl (by kernel_rfl) Tryd.func7 joined
    (of_decide_eq_true (by kernel_rfl)) (by unfold Func.isWrapper; rw [if_neg (of_decide_eq_false (by kernel_rfl))]; exact ⟨rfl, rfl⟩)
    (fun os started H enc _ => lifted os started H enc)
theorem card : Rows.FnExactAcceptsCardSaid :=
  Claim7.holds_tied_plain_at .later [] [.sentinel] true _ true
    over (fun _ h => by cases h) (by kernel_rfl) (fun _ h => by cases h) fnExactAccepts_row_tie rfl ⟨rfl, rfl⟩ (by kernel_rfl) rfl
    (fun f fn hf hfn => by
      obtain rfl : f = 7 := Option.some.inj ((show Tryd.prog.funcNamed "loop.example/g01359/laws.FnExactAccepts" = some 7 by kernel_rfl).symm.trans hf) |>.symm
      obtain rfl : fn = Tryd.f7 := (Option.some.inj (Tryd.func7.symm.trans hfn)).symm
      exact ⟨by kernel_rfl, fun j t ht => by
        rw [Tryd.params7] at ht
        have hin : t ∈ [42, 23] := by
          have := Array.mem_of_getElem? ht
          simpa using this
        simp only [List.mem_cons, List.not_mem_nil, or_false] at hin
        rcases hin with rfl | rfl
        all_goals exact (show Tryd.prog.wantsStandIn _ = false by kernel_rfl)⟩)
    (by kernel_rfl)
/-- The statement of FnExactAccepts. -/
theorem proved : Rows.FnExactAcceptsCardSaid := card
#print axioms proved
end LFnExactAccepts

end Go.Proofs.YthdjajelbpccpaaDoor
