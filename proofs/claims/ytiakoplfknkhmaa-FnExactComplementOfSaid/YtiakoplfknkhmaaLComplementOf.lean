/- The law FnExactComplementOf is true at every input: impl.ComplementOf and spec.ComplementOf give the same truth and the same code, and the acceptor that came in stays as it was. No conditions. -/
import Derived.Test.YtiakoplfknkhmaaMk
import Derived.Test.YtiakoplfknkhmaaCim7
import Derived.Deep.DeepCutAuto
import Derived.Test.YtiakoplfknkhmaaAcs
namespace Go.Proofs.Ytiakoplfknkhmaa
open Go.ChangeShapes Go.WideShapes Go.ChangeAt Go.RowKit
namespace LFnExactComplementOf

set_option maxRecDepth 100000 in
set_option maxHeartbeats 8000000 in
theorem ex_any (w : World) (a1 : Option Addr) (L : List MapN) (c1 : Nat) (F : Int) (b1 : Option Addr) (S : List Int) (d1 : Nat) (hw1 : InAcc w a1 b1 c1 L S) (_ : (Lit.int .i64 F).wf = true) (_ : ∀ x ∈ S, (Lit.int .i64 x).wf = true) :
    Calls Try.prog 10 #[.agg #[.slice a1 L.length c1, .int .i64 F, .slice b1 S.length d1]] w fun e w' => e = .returned (.bool true) ∧ Below w.heap.size w w' := by
  obtain ⟨h11, h21, _, h41, h51⟩ := hw1
  obtain ⟨wb, hwb⟩ : ∃ wb, wb = w.alloc (.cells #[.slice a1 L.length c1, .int .i64 F, .slice b1 S.length d1] 25) := ⟨_, rfl⟩
  have HBX1wb : Hid (wb.heap[w.heap.size]? = some (.cells #[.slice a1 L.length c1, .int .i64 F, .slice b1 S.length d1] 25 (0, 0))) := Lib.hid (by rw [hwb]; exact (halloc_at _ _ _ (by simp)))
  have hwz : w.heap.size + 1 ≤ wb.heap.size := by rw [hwb]; simp
  have HWB : Hid (Below w.heap.size w wb) := Lib.hid (by rw [hwb]; exact (Below.refl _ _).alloc (Nat.le_refl _) _)
  have HM1wb := Lib.hid (h11.below HWB.out)
  have HL1wb := Lib.hid (h21.below HWB.out)
  clear h11 h21
  by_cases hz1 : (L.length : Int) + S.length ≤ 1048576
  · have hng1 : ¬ (1048576 - (L.length : Int) - (S.length : Int) < 0) := by omega
    have HSZ1 := Lib.hid fun w => szA_ok L.length S.length a1 b1 c1 d1 F (1048576) (by omega) hz1 w
    have HCP1 := Lib.hid fun wx a b c d h1 h2 => toA_any L (by omega) F S (by omega) a b c d wx h1 h2
    have HS := fun w (g11 g12 : Nat) h11 h12 => sCm_any L (by omega) F S (by omega) (some ⟨g11, 0, none⟩) (some ⟨g12, 0, none⟩) L.length S.length (fun e => by cases e) w h11 h12
    have HI := fun w (g11 g12 : Nat) h11 h12 => iCm_any L (by omega) F S (by omega) (some ⟨g11, 0, none⟩) (some ⟨g12, 0, none⟩) L.length S.length (fun e => by cases e) w h11 h12
    obtain ⟨RL, hRL⟩ : ∃ RL, RL = cmL L F S := ⟨_, rfl⟩
    obtain ⟨RS, hRS⟩ : ∃ RS, RS = cmS L F S := ⟨_, rfl⟩
    obtain ⟨RF, hRF⟩ : ∃ RF, RF = cmF L F S := ⟨_, rfl⟩
    rw [← hRL, ← hRS, ← hRF] at HS HI
    clear hRL hRS hRF
    generalize cmC L F S = C at *
    have HS := Lib.hid HS
    have HI := Lib.hid HI
    go_enter Try.func10, Try.ntmps10
    go_wp2_with fail
    rw [← hwb]
    clear hwb
    have f1wb0 := Joins.cell_of_block HBX1wb.out 0
    have f1wb1 := Joins.cell_of_block HBX1wb.out 1
    have f1wb2 := Joins.cell_of_block HBX1wb.out 2
    simp only [List.getElem?_toArray, List.getElem?_cons_zero, List.getElem?_cons_succ] at f1wb0 f1wb1 f1wb2
    refine (HSZ1.out _).mono ?_
    rintro e waq ⟨rfl, hb⟩
    have hzwaq := hb.size
    (try simp at hzwaq)
    have hswaq : wb.heap.size ≤ waq.heap.size := (by have := hb.size; (try simp at this); omega)
    have HBwaq := Lib.hid hb
    clear hb
    have HBX1waq : Hid (waq.heap[w.heap.size]? = some (.cells #[.slice a1 L.length c1, .int .i64 F, .slice b1 S.length d1] 25 (0, 0))) := Lib.hid (by (repeat' (first | omega | (rw [hdrew]) | (with_reducible assumption) | (with_reducible exact Hid.out (by assumption)) | (with_reducible rfl) | ((with_reducible refine halloc_at _ _ _ ?_) <;> (first | (with_reducible rfl) | omega | (simp; done))) | (with_reducible refine chain6 ?_) | (with_reducible refine Eq.trans (hset_ne _ _ _ _ ?_) ?_) | (with_reducible refine Eq.trans (halloc_lt _ _ _ ?_) ?_) | (with_reducible refine Eq.trans (Below.block (Hid.out (by assumption)) _ ?_) ?_) | (simp; done) | (simp; omega))))
    have f1waq0 := Joins.cell_of_block HBX1waq.out 0
    have f1waq1 := Joins.cell_of_block HBX1waq.out 1
    have f1waq2 := Joins.cell_of_block HBX1waq.out 2
    simp only [List.getElem?_toArray, List.getElem?_cons_zero, List.getElem?_cons_succ] at f1waq0 f1waq1 f1waq2
    go_wp2_with fail
    refine (HCP1.out _ a1 b1 c1 d1 (HM1wb.out.below (by (repeat' (first | (with_reducible exact Below.refl _ _) | (with_reducible refine Below.alloc ?_ ?_ _) | (with_reducible refine Below.setCell ?_ ?_ _) | (with_reducible refine Below.drew ?_) | (with_reducible refine below_drewN ?_ _) | (with_reducible refine Below.trans ?_ (Below.mono (Hid.out (by assumption)) ?_)) | omega | (simp; done) | (simp; omega))))) (HL1wb.out.below (by (repeat' (first | (with_reducible exact Below.refl _ _) | (with_reducible refine Below.alloc ?_ ?_ _) | (with_reducible refine Below.setCell ?_ ?_ _) | (with_reducible refine Below.drew ?_) | (with_reducible refine below_drewN ?_ _) | (with_reducible refine Below.trans ?_ (Below.mono (Hid.out (by assumption)) ?_)) | omega | (simp; done) | (simp; omega)))))).mono ?_
    rintro e war ⟨gwar1, gwar2, rfl, hcop, hb⟩
    have HCwar := Lib.hid hcop
    have hlowar := hcop.lo
    have hltwar := hcop.lt
    have hhiwar := hcop.hi
    (try simp at hlowar)
    clear hcop
    have hzwar := hb.size
    (try simp at hzwar)
    have hswar : wb.heap.size ≤ war.heap.size := (by have := hb.size; (try simp at this); omega)
    have HBwar := Lib.hid hb
    clear hb
    have HBX1war : Hid (war.heap[w.heap.size]? = some (.cells #[.slice a1 L.length c1, .int .i64 F, .slice b1 S.length d1] 25 (0, 0))) := Lib.hid (by (repeat' (first | omega | (rw [hdrew]) | (with_reducible assumption) | (with_reducible exact Hid.out (by assumption)) | (with_reducible rfl) | ((with_reducible refine halloc_at _ _ _ ?_) <;> (first | (with_reducible rfl) | omega | (simp; done))) | (with_reducible refine chain6 ?_) | (with_reducible refine Eq.trans (hset_ne _ _ _ _ ?_) ?_) | (with_reducible refine Eq.trans (halloc_lt _ _ _ ?_) ?_) | (with_reducible refine Eq.trans (Below.block (Hid.out (by assumption)) _ ?_) ?_) | (simp; done) | (simp; omega))))
    have f1war0 := Joins.cell_of_block HBX1war.out 0
    have f1war1 := Joins.cell_of_block HBX1war.out 1
    have f1war2 := Joins.cell_of_block HBX1war.out 2
    simp only [List.getElem?_toArray, List.getElem?_cons_zero, List.getElem?_cons_succ] at f1war0 f1war1 f1war2
    go_wp2_with fail
    refine (HS.out _ _ _ ((HCwar.out.below (by (repeat' (first | (with_reducible exact Below.refl _ _) | (with_reducible refine Below.alloc ?_ ?_ _) | (with_reducible refine Below.setCell ?_ ?_ _) | (with_reducible refine Below.drew ?_) | (with_reducible refine below_drewN ?_ _) | (with_reducible refine Below.trans ?_ (Below.mono (Hid.out (by assumption)) ?_)) | omega | (simp; done) | (simp; omega))))).maps.inRow) ((HCwar.out.below (by (repeat' (first | (with_reducible exact Below.refl _ _) | (with_reducible refine Below.alloc ?_ ?_ _) | (with_reducible refine Below.setCell ?_ ?_ _) | (with_reducible refine Below.drew ?_) | (with_reducible refine below_drewN ?_ _) | (with_reducible refine Below.trans ?_ (Below.mono (Hid.out (by assumption)) ?_)) | omega | (simp; done) | (simp; omega))))).last.inRow)).mono ?_
    rintro e was ⟨awas, cwas, bwas, dwas, rfl, hres, hb⟩
    have HRwas := Lib.hid hres
    clear hres
    have hzwas := hb.size
    (try simp at hzwas)
    have hswas : wb.heap.size ≤ was.heap.size := (by have := hb.size; (try simp at this); omega)
    have HBwas := Lib.hid hb
    clear hb
    have HBX1was : Hid (was.heap[w.heap.size]? = some (.cells #[.slice a1 L.length c1, .int .i64 F, .slice b1 S.length d1] 25 (0, 0))) := Lib.hid (by (repeat' (first | omega | (rw [hdrew]) | (with_reducible assumption) | (with_reducible exact Hid.out (by assumption)) | (with_reducible rfl) | ((with_reducible refine halloc_at _ _ _ ?_) <;> (first | (with_reducible rfl) | omega | (simp; done))) | (with_reducible refine chain6 ?_) | (with_reducible refine Eq.trans (hset_ne _ _ _ _ ?_) ?_) | (with_reducible refine Eq.trans (halloc_lt _ _ _ ?_) ?_) | (with_reducible refine Eq.trans (Below.block (Hid.out (by assumption)) _ ?_) ?_) | (simp; done) | (simp; omega))))
    have f1was0 := Joins.cell_of_block HBX1was.out 0
    have f1was1 := Joins.cell_of_block HBX1was.out 1
    have f1was2 := Joins.cell_of_block HBX1was.out 2
    simp only [List.getElem?_toArray, List.getElem?_cons_zero, List.getElem?_cons_succ] at f1was0 f1was1 f1was2
    go_upto_region 6 with fail
    obtain ⟨wat, hX⟩ : ∃ z : World, z = was.alloc (.cells #[.slice awas RL.length cwas, .int .i64 RF, .slice bwas RS.length dwas] 30) := ⟨_, rfl⟩
    have hb : Below was.heap.size was wat := by rw [hX]; exact (Below.refl _ _).alloc (Nat.le_refl _) _
    have HXX8wat : Hid (wat.heap[was.heap.size]? = some (.cells #[.slice awas RL.length cwas, .int .i64 RF, .slice bwas RS.length dwas] 30 (0, 0))) := Lib.hid (by rw [hX]; exact halloc_at _ _ _ rfl)
    have hx8wat : was.heap.size < wat.heap.size := (Array.getElem?_eq_some_iff.1 HXX8wat.out).1
    rw [← hX]
    clear hX
    have hzwat := hb.size
    have hswat : wb.heap.size ≤ wat.heap.size := by omega
    have HBwat := Lib.hid hb
    clear hb
    have x8wat0 := Joins.cell_of_block HXX8wat.out 0
    have x8wat1 := Joins.cell_of_block HXX8wat.out 1
    have x8wat2 := Joins.cell_of_block HXX8wat.out 2
    simp only [List.getElem?_toArray, List.getElem?_cons_zero, List.getElem?_cons_succ] at x8wat0 x8wat1 x8wat2
    have HBX1wat : Hid (wat.heap[w.heap.size]? = some (.cells #[.slice a1 L.length c1, .int .i64 F, .slice b1 S.length d1] 25 (0, 0))) := Lib.hid (by (repeat' (first | omega | (rw [hdrew]) | (with_reducible assumption) | (with_reducible exact Hid.out (by assumption)) | (with_reducible rfl) | ((with_reducible refine halloc_at _ _ _ ?_) <;> (first | (with_reducible rfl) | omega | (simp; done))) | (with_reducible refine chain6 ?_) | (with_reducible refine Eq.trans (hset_ne _ _ _ _ ?_) ?_) | (with_reducible refine Eq.trans (halloc_lt _ _ _ ?_) ?_) | (with_reducible refine Eq.trans (Below.block (Hid.out (by assumption)) _ ?_) ?_) | (simp; done) | (simp; omega))))
    have f1wat0 := Joins.cell_of_block HBX1wat.out 0
    have f1wat1 := Joins.cell_of_block HBX1wat.out 1
    have f1wat2 := Joins.cell_of_block HBX1wat.out 2
    simp only [List.getElem?_toArray, List.getElem?_cons_zero, List.getElem?_cons_succ] at f1wat0 f1wat1 f1wat2
    go_wp2_with fail
    refine (HCP1.out _ a1 b1 c1 d1 (HM1wb.out.below (by (repeat' (first | (with_reducible exact Below.refl _ _) | (with_reducible refine Below.alloc ?_ ?_ _) | (with_reducible refine Below.setCell ?_ ?_ _) | (with_reducible refine Below.drew ?_) | (with_reducible refine below_drewN ?_ _) | (with_reducible refine Below.trans ?_ (Below.mono (Hid.out (by assumption)) ?_)) | omega | (simp; done) | (simp; omega))))) (HL1wb.out.below (by (repeat' (first | (with_reducible exact Below.refl _ _) | (with_reducible refine Below.alloc ?_ ?_ _) | (with_reducible refine Below.setCell ?_ ?_ _) | (with_reducible refine Below.drew ?_) | (with_reducible refine below_drewN ?_ _) | (with_reducible refine Below.trans ?_ (Below.mono (Hid.out (by assumption)) ?_)) | omega | (simp; done) | (simp; omega)))))).mono ?_
    rintro e wbp ⟨gwbp1, gwbp2, rfl, hcop, hb⟩
    have HCwbp := Lib.hid hcop
    have hlowbp := hcop.lo
    have hltwbp := hcop.lt
    have hhiwbp := hcop.hi
    (try simp at hlowbp)
    clear hcop
    have hzwbp := hb.size
    (try simp at hzwbp)
    have hswbp : wb.heap.size ≤ wbp.heap.size := (by have := hb.size; (try simp at this); omega)
    have HBwbp := Lib.hid hb
    clear hb
    have HBX1wbp : Hid (wbp.heap[w.heap.size]? = some (.cells #[.slice a1 L.length c1, .int .i64 F, .slice b1 S.length d1] 25 (0, 0))) := Lib.hid (by (repeat' (first | omega | (rw [hdrew]) | (with_reducible assumption) | (with_reducible exact Hid.out (by assumption)) | (with_reducible rfl) | ((with_reducible refine halloc_at _ _ _ ?_) <;> (first | (with_reducible rfl) | omega | (simp; done))) | (with_reducible refine chain6 ?_) | (with_reducible refine Eq.trans (hset_ne _ _ _ _ ?_) ?_) | (with_reducible refine Eq.trans (halloc_lt _ _ _ ?_) ?_) | (with_reducible refine Eq.trans (Below.block (Hid.out (by assumption)) _ ?_) ?_) | (simp; done) | (simp; omega))))
    have HXX8wbp : Hid (wbp.heap[was.heap.size]? = some (.cells #[.slice awas RL.length cwas, .int .i64 RF, .slice bwas RS.length dwas] 30 (0, 0))) := Lib.hid (by (repeat' (first | omega | (rw [hdrew]) | (with_reducible assumption) | (with_reducible exact Hid.out (by assumption)) | (with_reducible rfl) | ((with_reducible refine halloc_at _ _ _ ?_) <;> (first | (with_reducible rfl) | omega | (simp; done))) | (with_reducible refine chain6 ?_) | (with_reducible refine Eq.trans (hset_ne _ _ _ _ ?_) ?_) | (with_reducible refine Eq.trans (halloc_lt _ _ _ ?_) ?_) | (with_reducible refine Eq.trans (Below.block (Hid.out (by assumption)) _ ?_) ?_) | (simp; done) | (simp; omega))))
    have hx8wbp : was.heap.size < wbp.heap.size := (Array.getElem?_eq_some_iff.1 HXX8wbp.out).1
    have f1wbp0 := Joins.cell_of_block HBX1wbp.out 0
    have f1wbp1 := Joins.cell_of_block HBX1wbp.out 1
    have f1wbp2 := Joins.cell_of_block HBX1wbp.out 2
    simp only [List.getElem?_toArray, List.getElem?_cons_zero, List.getElem?_cons_succ] at f1wbp0 f1wbp1 f1wbp2
    have x8wbp0 := Joins.cell_of_block HXX8wbp.out 0
    have x8wbp1 := Joins.cell_of_block HXX8wbp.out 1
    have x8wbp2 := Joins.cell_of_block HXX8wbp.out 2
    simp only [List.getElem?_toArray, List.getElem?_cons_zero, List.getElem?_cons_succ] at x8wbp0 x8wbp1 x8wbp2
    go_upto_region 7 with fail
    obtain ⟨wbq, hX⟩ : ∃ z : World, z = wbp.alloc (.cells #[.slice (some ⟨gwbp1, 0, none⟩) L.length L.length, .int .i64 F, .slice (some ⟨gwbp2, 0, none⟩) S.length S.length] 30) := ⟨_, rfl⟩
    have hb : Below wbp.heap.size wbp wbq := by rw [hX]; exact (Below.refl _ _).alloc (Nat.le_refl _) _
    have HXX1wbq : Hid (wbq.heap[wbp.heap.size]? = some (.cells #[.slice (some ⟨gwbp1, 0, none⟩) L.length L.length, .int .i64 F, .slice (some ⟨gwbp2, 0, none⟩) S.length S.length] 30 (0, 0))) := Lib.hid (by rw [hX]; exact halloc_at _ _ _ rfl)
    have hx1wbq : wbp.heap.size < wbq.heap.size := (Array.getElem?_eq_some_iff.1 HXX1wbq.out).1
    rw [← hX]
    clear hX
    have hzwbq := hb.size
    have hswbq : wb.heap.size ≤ wbq.heap.size := by omega
    have HBwbq := Lib.hid hb
    clear hb
    have x1wbq0 := Joins.cell_of_block HXX1wbq.out 0
    have x1wbq1 := Joins.cell_of_block HXX1wbq.out 1
    have x1wbq2 := Joins.cell_of_block HXX1wbq.out 2
    simp only [List.getElem?_toArray, List.getElem?_cons_zero, List.getElem?_cons_succ] at x1wbq0 x1wbq1 x1wbq2
    have HBX1wbq : Hid (wbq.heap[w.heap.size]? = some (.cells #[.slice a1 L.length c1, .int .i64 F, .slice b1 S.length d1] 25 (0, 0))) := Lib.hid (by (repeat' (first | omega | (rw [hdrew]) | (with_reducible assumption) | (with_reducible exact Hid.out (by assumption)) | (with_reducible rfl) | ((with_reducible refine halloc_at _ _ _ ?_) <;> (first | (with_reducible rfl) | omega | (simp; done))) | (with_reducible refine chain6 ?_) | (with_reducible refine Eq.trans (hset_ne _ _ _ _ ?_) ?_) | (with_reducible refine Eq.trans (halloc_lt _ _ _ ?_) ?_) | (with_reducible refine Eq.trans (Below.block (Hid.out (by assumption)) _ ?_) ?_) | (simp; done) | (simp; omega))))
    have HXX8wbq : Hid (wbq.heap[was.heap.size]? = some (.cells #[.slice awas RL.length cwas, .int .i64 RF, .slice bwas RS.length dwas] 30 (0, 0))) := Lib.hid (by (repeat' (first | omega | (rw [hdrew]) | (with_reducible assumption) | (with_reducible exact Hid.out (by assumption)) | (with_reducible rfl) | ((with_reducible refine halloc_at _ _ _ ?_) <;> (first | (with_reducible rfl) | omega | (simp; done))) | (with_reducible refine chain6 ?_) | (with_reducible refine Eq.trans (hset_ne _ _ _ _ ?_) ?_) | (with_reducible refine Eq.trans (halloc_lt _ _ _ ?_) ?_) | (with_reducible refine Eq.trans (Below.block (Hid.out (by assumption)) _ ?_) ?_) | (simp; done) | (simp; omega))))
    have hx8wbq : was.heap.size < wbq.heap.size := (Array.getElem?_eq_some_iff.1 HXX8wbq.out).1
    have f1wbq0 := Joins.cell_of_block HBX1wbq.out 0
    have f1wbq1 := Joins.cell_of_block HBX1wbq.out 1
    have f1wbq2 := Joins.cell_of_block HBX1wbq.out 2
    simp only [List.getElem?_toArray, List.getElem?_cons_zero, List.getElem?_cons_succ] at f1wbq0 f1wbq1 f1wbq2
    have x8wbq0 := Joins.cell_of_block HXX8wbq.out 0
    have x8wbq1 := Joins.cell_of_block HXX8wbq.out 1
    have x8wbq2 := Joins.cell_of_block HXX8wbq.out 2
    simp only [List.getElem?_toArray, List.getElem?_cons_zero, List.getElem?_cons_succ] at x8wbq0 x8wbq1 x8wbq2
    go_wp2_with fail
    refine (HI.out _ _ _ ((HCwbp.out.below (by (repeat' (first | (with_reducible exact Below.refl _ _) | (with_reducible refine Below.alloc ?_ ?_ _) | (with_reducible refine Below.setCell ?_ ?_ _) | (with_reducible refine Below.drew ?_) | (with_reducible refine below_drewN ?_ _) | (with_reducible refine Below.trans ?_ (Below.mono (Hid.out (by assumption)) ?_)) | omega | (simp; done) | (simp; omega))))).maps.inRow) ((HCwbp.out.below (by (repeat' (first | (with_reducible exact Below.refl _ _) | (with_reducible refine Below.alloc ?_ ?_ _) | (with_reducible refine Below.setCell ?_ ?_ _) | (with_reducible refine Below.drew ?_) | (with_reducible refine below_drewN ?_ _) | (with_reducible refine Below.trans ?_ (Below.mono (Hid.out (by assumption)) ?_)) | omega | (simp; done) | (simp; omega))))).last.inRow)).mono ?_
    rintro e wbr ⟨awbr, cwbr, bwbr, dwbr, rfl, hres, hb⟩
    have HRwbr := Lib.hid hres
    clear hres
    have hzwbr := hb.size
    (try simp at hzwbr)
    have hswbr : wb.heap.size ≤ wbr.heap.size := (by have := hb.size; (try simp at this); omega)
    have HBwbr := Lib.hid hb
    clear hb
    have HBX1wbr : Hid (wbr.heap[w.heap.size]? = some (.cells #[.slice a1 L.length c1, .int .i64 F, .slice b1 S.length d1] 25 (0, 0))) := Lib.hid (by (repeat' (first | omega | (rw [hdrew]) | (with_reducible assumption) | (with_reducible exact Hid.out (by assumption)) | (with_reducible rfl) | ((with_reducible refine halloc_at _ _ _ ?_) <;> (first | (with_reducible rfl) | omega | (simp; done))) | (with_reducible refine chain6 ?_) | (with_reducible refine Eq.trans (hset_ne _ _ _ _ ?_) ?_) | (with_reducible refine Eq.trans (halloc_lt _ _ _ ?_) ?_) | (with_reducible refine Eq.trans (Below.block (Hid.out (by assumption)) _ ?_) ?_) | (simp; done) | (simp; omega))))
    have HXX8wbr : Hid (wbr.heap[was.heap.size]? = some (.cells #[.slice awas RL.length cwas, .int .i64 RF, .slice bwas RS.length dwas] 30 (0, 0))) := Lib.hid (by (repeat' (first | omega | (rw [hdrew]) | (with_reducible assumption) | (with_reducible exact Hid.out (by assumption)) | (with_reducible rfl) | ((with_reducible refine halloc_at _ _ _ ?_) <;> (first | (with_reducible rfl) | omega | (simp; done))) | (with_reducible refine chain6 ?_) | (with_reducible refine Eq.trans (hset_ne _ _ _ _ ?_) ?_) | (with_reducible refine Eq.trans (halloc_lt _ _ _ ?_) ?_) | (with_reducible refine Eq.trans (Below.block (Hid.out (by assumption)) _ ?_) ?_) | (simp; done) | (simp; omega))))
    have hx8wbr : was.heap.size < wbr.heap.size := (Array.getElem?_eq_some_iff.1 HXX8wbr.out).1
    have HXX1wbr : Hid (wbr.heap[wbp.heap.size]? = some (.cells #[.slice (some ⟨gwbp1, 0, none⟩) L.length L.length, .int .i64 F, .slice (some ⟨gwbp2, 0, none⟩) S.length S.length] 30 (0, 0))) := Lib.hid (by (repeat' (first | omega | (rw [hdrew]) | (with_reducible assumption) | (with_reducible exact Hid.out (by assumption)) | (with_reducible rfl) | ((with_reducible refine halloc_at _ _ _ ?_) <;> (first | (with_reducible rfl) | omega | (simp; done))) | (with_reducible refine chain6 ?_) | (with_reducible refine Eq.trans (hset_ne _ _ _ _ ?_) ?_) | (with_reducible refine Eq.trans (halloc_lt _ _ _ ?_) ?_) | (with_reducible refine Eq.trans (Below.block (Hid.out (by assumption)) _ ?_) ?_) | (simp; done) | (simp; omega))))
    have hx1wbr : wbp.heap.size < wbr.heap.size := (Array.getElem?_eq_some_iff.1 HXX1wbr.out).1
    have f1wbr0 := Joins.cell_of_block HBX1wbr.out 0
    have f1wbr1 := Joins.cell_of_block HBX1wbr.out 1
    have f1wbr2 := Joins.cell_of_block HBX1wbr.out 2
    simp only [List.getElem?_toArray, List.getElem?_cons_zero, List.getElem?_cons_succ] at f1wbr0 f1wbr1 f1wbr2
    have x8wbr0 := Joins.cell_of_block HXX8wbr.out 0
    have x8wbr1 := Joins.cell_of_block HXX8wbr.out 1
    have x8wbr2 := Joins.cell_of_block HXX8wbr.out 2
    simp only [List.getElem?_toArray, List.getElem?_cons_zero, List.getElem?_cons_succ] at x8wbr0 x8wbr1 x8wbr2
    have x1wbr0 := Joins.cell_of_block HXX1wbr.out 0
    have x1wbr1 := Joins.cell_of_block HXX1wbr.out 1
    have x1wbr2 := Joins.cell_of_block HXX1wbr.out 2
    simp only [List.getElem?_toArray, List.getElem?_cons_zero, List.getElem?_cons_succ] at x1wbr0 x1wbr1 x1wbr2
    have hgwbr : wbp.heap.size < wbr.heap.size := (by have := HBwbr.out.size; (try simp at this); omega)
    go_upto_region 8 with fail
    obtain ⟨wbs, hX⟩ : ∃ z : World, z = wbr.alloc (.cells #[.slice awbr RL.length cwbr, .int .i64 RF, .slice bwbr RS.length dwbr] 30) := ⟨_, rfl⟩
    have hb : Below wbr.heap.size wbr wbs := by rw [hX]; exact (Below.refl _ _).alloc (Nat.le_refl _) _
    have HXX9wbs : Hid (wbs.heap[wbr.heap.size]? = some (.cells #[.slice awbr RL.length cwbr, .int .i64 RF, .slice bwbr RS.length dwbr] 30 (0, 0))) := Lib.hid (by rw [hX]; exact halloc_at _ _ _ rfl)
    have hx9wbs : wbr.heap.size < wbs.heap.size := (Array.getElem?_eq_some_iff.1 HXX9wbs.out).1
    rw [← hX]
    clear hX
    have hzwbs := hb.size
    have hswbs : wb.heap.size ≤ wbs.heap.size := by omega
    have HBwbs := Lib.hid hb
    clear hb
    have x9wbs0 := Joins.cell_of_block HXX9wbs.out 0
    have x9wbs1 := Joins.cell_of_block HXX9wbs.out 1
    have x9wbs2 := Joins.cell_of_block HXX9wbs.out 2
    simp only [List.getElem?_toArray, List.getElem?_cons_zero, List.getElem?_cons_succ] at x9wbs0 x9wbs1 x9wbs2
    have HBX1wbs : Hid (wbs.heap[w.heap.size]? = some (.cells #[.slice a1 L.length c1, .int .i64 F, .slice b1 S.length d1] 25 (0, 0))) := Lib.hid (by (repeat' (first | omega | (rw [hdrew]) | (with_reducible assumption) | (with_reducible exact Hid.out (by assumption)) | (with_reducible rfl) | ((with_reducible refine halloc_at _ _ _ ?_) <;> (first | (with_reducible rfl) | omega | (simp; done))) | (with_reducible refine chain6 ?_) | (with_reducible refine Eq.trans (hset_ne _ _ _ _ ?_) ?_) | (with_reducible refine Eq.trans (halloc_lt _ _ _ ?_) ?_) | (with_reducible refine Eq.trans (Below.block (Hid.out (by assumption)) _ ?_) ?_) | (simp; done) | (simp; omega))))
    have HXX8wbs : Hid (wbs.heap[was.heap.size]? = some (.cells #[.slice awas RL.length cwas, .int .i64 RF, .slice bwas RS.length dwas] 30 (0, 0))) := Lib.hid (by (repeat' (first | omega | (rw [hdrew]) | (with_reducible assumption) | (with_reducible exact Hid.out (by assumption)) | (with_reducible rfl) | ((with_reducible refine halloc_at _ _ _ ?_) <;> (first | (with_reducible rfl) | omega | (simp; done))) | (with_reducible refine chain6 ?_) | (with_reducible refine Eq.trans (hset_ne _ _ _ _ ?_) ?_) | (with_reducible refine Eq.trans (halloc_lt _ _ _ ?_) ?_) | (with_reducible refine Eq.trans (Below.block (Hid.out (by assumption)) _ ?_) ?_) | (simp; done) | (simp; omega))))
    have hx8wbs : was.heap.size < wbs.heap.size := (Array.getElem?_eq_some_iff.1 HXX8wbs.out).1
    have HXX1wbs : Hid (wbs.heap[wbp.heap.size]? = some (.cells #[.slice (some ⟨gwbp1, 0, none⟩) L.length L.length, .int .i64 F, .slice (some ⟨gwbp2, 0, none⟩) S.length S.length] 30 (0, 0))) := Lib.hid (by (repeat' (first | omega | (rw [hdrew]) | (with_reducible assumption) | (with_reducible exact Hid.out (by assumption)) | (with_reducible rfl) | ((with_reducible refine halloc_at _ _ _ ?_) <;> (first | (with_reducible rfl) | omega | (simp; done))) | (with_reducible refine chain6 ?_) | (with_reducible refine Eq.trans (hset_ne _ _ _ _ ?_) ?_) | (with_reducible refine Eq.trans (halloc_lt _ _ _ ?_) ?_) | (with_reducible refine Eq.trans (Below.block (Hid.out (by assumption)) _ ?_) ?_) | (simp; done) | (simp; omega))))
    have hx1wbs : wbp.heap.size < wbs.heap.size := (Array.getElem?_eq_some_iff.1 HXX1wbs.out).1
    have f1wbs0 := Joins.cell_of_block HBX1wbs.out 0
    have f1wbs1 := Joins.cell_of_block HBX1wbs.out 1
    have f1wbs2 := Joins.cell_of_block HBX1wbs.out 2
    simp only [List.getElem?_toArray, List.getElem?_cons_zero, List.getElem?_cons_succ] at f1wbs0 f1wbs1 f1wbs2
    have x8wbs0 := Joins.cell_of_block HXX8wbs.out 0
    have x8wbs1 := Joins.cell_of_block HXX8wbs.out 1
    have x8wbs2 := Joins.cell_of_block HXX8wbs.out 2
    simp only [List.getElem?_toArray, List.getElem?_cons_zero, List.getElem?_cons_succ] at x8wbs0 x8wbs1 x8wbs2
    have x1wbs0 := Joins.cell_of_block HXX1wbs.out 0
    have x1wbs1 := Joins.cell_of_block HXX1wbs.out 1
    have x1wbs2 := Joins.cell_of_block HXX1wbs.out 2
    simp only [List.getElem?_toArray, List.getElem?_cons_zero, List.getElem?_cons_succ] at x1wbs0 x1wbs1 x1wbs2
    have HRM : Hid (RL.length ≤ 2000000) := Lib.hid HRwbr.out.maps.1
    have HRN : Hid (RS.length ≤ 2000000) := Lib.hid HRwbr.out.last.1
    go_wp2_with fail
    refine (eqA_same RL RF RS HRM.out _ _ _ _ _ _ _ _ _ _ _ ((HRwbr.out.below (by (repeat' (first | (with_reducible exact Below.refl _ _) | (with_reducible refine Below.alloc ?_ ?_ _) | (with_reducible refine Below.setCell ?_ ?_ _) | (with_reducible refine Below.drew ?_) | (with_reducible refine below_drewN ?_ _) | (with_reducible refine Below.trans ?_ (Below.mono (Hid.out (by assumption)) ?_)) | omega | (simp; done) | (simp; omega))))).maps.inRow) ((HRwas.out.below (by (repeat' (first | (with_reducible exact Below.refl _ _) | (with_reducible refine Below.alloc ?_ ?_ _) | (with_reducible refine Below.setCell ?_ ?_ _) | (with_reducible refine Below.drew ?_) | (with_reducible refine below_drewN ?_ _) | (with_reducible refine Below.trans ?_ (Below.mono (Hid.out (by assumption)) ?_)) | omega | (simp; done) | (simp; omega))))).maps.inRow) (HRwbr.out.below (by (repeat' (first | (with_reducible exact Below.refl _ _) | (with_reducible refine Below.alloc ?_ ?_ _) | (with_reducible refine Below.setCell ?_ ?_ _) | (with_reducible refine Below.drew ?_) | (with_reducible refine below_drewN ?_ _) | (with_reducible refine Below.trans ?_ (Below.mono (Hid.out (by assumption)) ?_)) | omega | (simp; done) | (simp; omega))))).last (HRwas.out.below (by (repeat' (first | (with_reducible exact Below.refl _ _) | (with_reducible refine Below.alloc ?_ ?_ _) | (with_reducible refine Below.setCell ?_ ?_ _) | (with_reducible refine Below.drew ?_) | (with_reducible refine below_drewN ?_ _) | (with_reducible refine Below.trans ?_ (Below.mono (Hid.out (by assumption)) ?_)) | omega | (simp; done) | (simp; omega))))).last).mono ?_
    rintro e wbt ⟨rfl, hb⟩
    have hzwbt := hb.size
    (try simp at hzwbt)
    have hswbt : wb.heap.size ≤ wbt.heap.size := (by have := hb.size; (try simp at this); omega)
    have HBwbt := Lib.hid hb
    clear hb
    have HBX1wbt : Hid (wbt.heap[w.heap.size]? = some (.cells #[.slice a1 L.length c1, .int .i64 F, .slice b1 S.length d1] 25 (0, 0))) := Lib.hid (by (repeat' (first | omega | (rw [hdrew]) | (with_reducible assumption) | (with_reducible exact Hid.out (by assumption)) | (with_reducible rfl) | ((with_reducible refine halloc_at _ _ _ ?_) <;> (first | (with_reducible rfl) | omega | (simp; done))) | (with_reducible refine chain6 ?_) | (with_reducible refine Eq.trans (hset_ne _ _ _ _ ?_) ?_) | (with_reducible refine Eq.trans (halloc_lt _ _ _ ?_) ?_) | (with_reducible refine Eq.trans (Below.block (Hid.out (by assumption)) _ ?_) ?_) | (simp; done) | (simp; omega))))
    have HXX8wbt : Hid (wbt.heap[was.heap.size]? = some (.cells #[.slice awas RL.length cwas, .int .i64 RF, .slice bwas RS.length dwas] 30 (0, 0))) := Lib.hid (by (repeat' (first | omega | (rw [hdrew]) | (with_reducible assumption) | (with_reducible exact Hid.out (by assumption)) | (with_reducible rfl) | ((with_reducible refine halloc_at _ _ _ ?_) <;> (first | (with_reducible rfl) | omega | (simp; done))) | (with_reducible refine chain6 ?_) | (with_reducible refine Eq.trans (hset_ne _ _ _ _ ?_) ?_) | (with_reducible refine Eq.trans (halloc_lt _ _ _ ?_) ?_) | (with_reducible refine Eq.trans (Below.block (Hid.out (by assumption)) _ ?_) ?_) | (simp; done) | (simp; omega))))
    have hx8wbt : was.heap.size < wbt.heap.size := (Array.getElem?_eq_some_iff.1 HXX8wbt.out).1
    have HXX1wbt : Hid (wbt.heap[wbp.heap.size]? = some (.cells #[.slice (some ⟨gwbp1, 0, none⟩) L.length L.length, .int .i64 F, .slice (some ⟨gwbp2, 0, none⟩) S.length S.length] 30 (0, 0))) := Lib.hid (by (repeat' (first | omega | (rw [hdrew]) | (with_reducible assumption) | (with_reducible exact Hid.out (by assumption)) | (with_reducible rfl) | ((with_reducible refine halloc_at _ _ _ ?_) <;> (first | (with_reducible rfl) | omega | (simp; done))) | (with_reducible refine chain6 ?_) | (with_reducible refine Eq.trans (hset_ne _ _ _ _ ?_) ?_) | (with_reducible refine Eq.trans (halloc_lt _ _ _ ?_) ?_) | (with_reducible refine Eq.trans (Below.block (Hid.out (by assumption)) _ ?_) ?_) | (simp; done) | (simp; omega))))
    have hx1wbt : wbp.heap.size < wbt.heap.size := (Array.getElem?_eq_some_iff.1 HXX1wbt.out).1
    have HXX9wbt : Hid (wbt.heap[wbr.heap.size]? = some (.cells #[.slice awbr RL.length cwbr, .int .i64 RF, .slice bwbr RS.length dwbr] 30 (0, 0))) := Lib.hid (by (repeat' (first | omega | (rw [hdrew]) | (with_reducible assumption) | (with_reducible exact Hid.out (by assumption)) | (with_reducible rfl) | ((with_reducible refine halloc_at _ _ _ ?_) <;> (first | (with_reducible rfl) | omega | (simp; done))) | (with_reducible refine chain6 ?_) | (with_reducible refine Eq.trans (hset_ne _ _ _ _ ?_) ?_) | (with_reducible refine Eq.trans (halloc_lt _ _ _ ?_) ?_) | (with_reducible refine Eq.trans (Below.block (Hid.out (by assumption)) _ ?_) ?_) | (simp; done) | (simp; omega))))
    have hx9wbt : wbr.heap.size < wbt.heap.size := (Array.getElem?_eq_some_iff.1 HXX9wbt.out).1
    have f1wbt0 := Joins.cell_of_block HBX1wbt.out 0
    have f1wbt1 := Joins.cell_of_block HBX1wbt.out 1
    have f1wbt2 := Joins.cell_of_block HBX1wbt.out 2
    simp only [List.getElem?_toArray, List.getElem?_cons_zero, List.getElem?_cons_succ] at f1wbt0 f1wbt1 f1wbt2
    have x8wbt0 := Joins.cell_of_block HXX8wbt.out 0
    have x8wbt1 := Joins.cell_of_block HXX8wbt.out 1
    have x8wbt2 := Joins.cell_of_block HXX8wbt.out 2
    simp only [List.getElem?_toArray, List.getElem?_cons_zero, List.getElem?_cons_succ] at x8wbt0 x8wbt1 x8wbt2
    have x1wbt0 := Joins.cell_of_block HXX1wbt.out 0
    have x1wbt1 := Joins.cell_of_block HXX1wbt.out 1
    have x1wbt2 := Joins.cell_of_block HXX1wbt.out 2
    simp only [List.getElem?_toArray, List.getElem?_cons_zero, List.getElem?_cons_succ] at x1wbt0 x1wbt1 x1wbt2
    have x9wbt0 := Joins.cell_of_block HXX9wbt.out 0
    have x9wbt1 := Joins.cell_of_block HXX9wbt.out 1
    have x9wbt2 := Joins.cell_of_block HXX9wbt.out 2
    simp only [List.getElem?_toArray, List.getElem?_cons_zero, List.getElem?_cons_succ] at x9wbt0 x9wbt1 x9wbt2
    go_wp2_with fail
    obtain ⟨wg1, hwg⟩ : ∃ z : World, z = wbt := ⟨_, rfl⟩
    have HQ := Lib.hid (HCwbp.out.below (w' := wbt) (by (repeat' (first | (with_reducible exact Below.refl _ _) | (with_reducible refine Below.alloc ?_ ?_ _) | (with_reducible refine Below.setCell ?_ ?_ _) | (with_reducible refine Below.drew ?_) | (with_reducible refine below_drewN ?_ _) | (with_reducible refine Below.trans ?_ (Below.mono (Hid.out (by assumption)) ?_)) | omega | (simp; done) | (simp; omega)))))
    have r0 : ∀ z, Below wbt.heap.size wbt z → z.cell? ⟨w.heap.size, 0, none⟩ = _ := fun z h => (h.cell (p := ⟨w.heap.size, 0, none⟩) (show w.heap.size < _ by omega)).trans f1wbt0
    have r1 : ∀ z, Below wbt.heap.size wbt z → z.cell? ⟨w.heap.size, 1, none⟩ = _ := fun z h => (h.cell (p := ⟨w.heap.size, 1, none⟩) (show w.heap.size < _ by omega)).trans f1wbt1
    have r2 : ∀ z, Below wbt.heap.size wbt z → z.cell? ⟨w.heap.size, 2, none⟩ = _ := fun z h => (h.cell (p := ⟨w.heap.size, 2, none⟩) (show w.heap.size < _ by omega)).trans f1wbt2
    have s0 : ∀ z, Below wbt.heap.size wbt z → z.cell? ⟨wbp.heap.size, 0, none⟩ = _ := fun z h => (h.cell (p := ⟨wbp.heap.size, 0, none⟩) (show wbp.heap.size < _ by omega)).trans x1wbt0
    have s1 : ∀ z, Below wbt.heap.size wbt z → z.cell? ⟨wbp.heap.size, 1, none⟩ = _ := fun z h => (h.cell (p := ⟨wbp.heap.size, 1, none⟩) (show wbp.heap.size < _ by omega)).trans x1wbt1
    have s2 : ∀ z, Below wbt.heap.size wbt z → z.cell? ⟨wbp.heap.size, 2, none⟩ = _ := fun z h => (h.cell (p := ⟨wbp.heap.size, 2, none⟩) (show wbp.heap.size < _ by omega)).trans x1wbt2
    clear hwg
    have HMI := Lib.hid fun z (_ : Hid (Below wbt.heap.size wbt z)) => HM1wb.out.below (w' := z) (by (repeat' (first | (with_reducible exact Below.refl _ _) | (with_reducible refine Below.alloc ?_ ?_ _) | (with_reducible refine Below.setCell ?_ ?_ _) | (with_reducible refine Below.drew ?_) | (with_reducible refine below_drewN ?_ _) | (with_reducible refine Below.trans ?_ (Below.mono (Hid.out (by assumption)) ?_)) | omega | (simp; done) | (simp; omega))))
    have HLI := Lib.hid fun z (_ : Hid (Below wbt.heap.size wbt z)) => HL1wb.out.below (w' := z) (by (repeat' (first | (with_reducible exact Below.refl _ _) | (with_reducible refine Below.alloc ?_ ?_ _) | (with_reducible refine Below.setCell ?_ ?_ _) | (with_reducible refine Below.drew ?_) | (with_reducible refine below_drewN ?_ _) | (with_reducible refine Below.trans ?_ (Below.mono (Hid.out (by assumption)) ?_)) | omega | (simp; done) | (simp; omega))))
    go_region_held3 (fun w' => Below wbt.heap.size wbt w') (first | (with_reducible assumption) | ((repeat' (first | (with_reducible exact Below.refl _ _) | (with_reducible refine Below.alloc ?_ ?_ _) | (with_reducible refine Below.setCell ?_ ?_ _) | (with_reducible refine Below.drew ?_) | (with_reducible refine below_drewN ?_ _) | (with_reducible refine Below.trans ?_ (Below.mono (Hid.out (by assumption)) ?_)) | omega | (simp; done) | (simp; omega))); done)) (first
      | (go_at_call 13; (with_reducible refine (HCP1.out _ a1 b1 c1 d1 (HMI.out _ (Lib.hid (by (repeat' (first | (with_reducible exact Below.refl _ _) | (with_reducible refine Below.alloc ?_ ?_ _) | (with_reducible refine Below.setCell ?_ ?_ _) | (with_reducible refine Below.drew ?_) | (with_reducible refine below_drewN ?_ _) | (with_reducible refine Below.trans ?_ (Below.mono (Hid.out (by assumption)) ?_)) | omega | (simp; done) | (simp; omega)))))) (HLI.out _ (Lib.hid (by (repeat' (first | (with_reducible exact Below.refl _ _) | (with_reducible refine Below.alloc ?_ ?_ _) | (with_reducible refine Below.setCell ?_ ?_ _) | (with_reducible refine Below.drew ?_) | (with_reducible refine below_drewN ?_ _) | (with_reducible refine Below.trans ?_ (Below.mono (Hid.out (by assumption)) ?_)) | omega | (simp; done) | (simp; omega))))))).mono ?_); rintro e wcp ⟨g3, g4, rfl, hcop, hb⟩; have HCY := Lib.hid hcop; have hy1 := hcop.lo; have hzwcp := hb.size; (try simp at hy1 hzwcp); have HBwcp := Lib.hid hb; clear hb hcop)
      | (go_at_call 15; (with_reducible refine (eqA_same L F S (by omega) _ _ _ _ _ _ _ _ _ _ _ ((HQ.out.below (by (repeat' (first | (with_reducible exact Below.refl _ _) | (with_reducible refine Below.alloc ?_ ?_ _) | (with_reducible refine Below.setCell ?_ ?_ _) | (with_reducible refine Below.drew ?_) | (with_reducible refine below_drewN ?_ _) | (with_reducible refine Below.trans ?_ (Below.mono (Hid.out (by assumption)) ?_)) | omega | (simp; done) | (simp; omega))))).maps.inRow) ((HCY.out.below (by (repeat' (first | (with_reducible exact Below.refl _ _) | (with_reducible refine Below.alloc ?_ ?_ _) | (with_reducible refine Below.setCell ?_ ?_ _) | (with_reducible refine Below.drew ?_) | (with_reducible refine below_drewN ?_ _) | (with_reducible refine Below.trans ?_ (Below.mono (Hid.out (by assumption)) ?_)) | omega | (simp; done) | (simp; omega))))).maps.inRow) (HQ.out.below (by (repeat' (first | (with_reducible exact Below.refl _ _) | (with_reducible refine Below.alloc ?_ ?_ _) | (with_reducible refine Below.setCell ?_ ?_ _) | (with_reducible refine Below.drew ?_) | (with_reducible refine below_drewN ?_ _) | (with_reducible refine Below.trans ?_ (Below.mono (Hid.out (by assumption)) ?_)) | omega | (simp; done) | (simp; omega))))).last (HCY.out.below (by (repeat' (first | (with_reducible exact Below.refl _ _) | (with_reducible refine Below.alloc ?_ ?_ _) | (with_reducible refine Below.setCell ?_ ?_ _) | (with_reducible refine Below.drew ?_) | (with_reducible refine below_drewN ?_ _) | (with_reducible refine Below.trans ?_ (Below.mono (Hid.out (by assumption)) ?_)) | omega | (simp; done) | (simp; omega))))).last).mono ?_); rintro e wcq ⟨rfl, hb⟩; have hzwcq := hb.size; (try simp at hzwcq); have HBwcq := Lib.hid hb; clear hb))
    clear r0 r1 r2 s0 s1 s2
    have hswcq : wb.heap.size ≤ wcq.heap.size := (by (try simp at hzwcp hzwcq); omega)
    have HBX1wcq : Hid (wcq.heap[w.heap.size]? = some (.cells #[.slice a1 L.length c1, .int .i64 F, .slice b1 S.length d1] 25 (0, 0))) := Lib.hid (by (repeat' (first | omega | (rw [hdrew]) | (with_reducible assumption) | (with_reducible exact Hid.out (by assumption)) | (with_reducible rfl) | ((with_reducible refine halloc_at _ _ _ ?_) <;> (first | (with_reducible rfl) | omega | (simp; done))) | (with_reducible refine chain6 ?_) | (with_reducible refine Eq.trans (hset_ne _ _ _ _ ?_) ?_) | (with_reducible refine Eq.trans (halloc_lt _ _ _ ?_) ?_) | (with_reducible refine Eq.trans (Below.block (Hid.out (by assumption)) _ ?_) ?_) | (simp; done) | (simp; omega))))
    have HXX8wcq : Hid (wcq.heap[was.heap.size]? = some (.cells #[.slice awas RL.length cwas, .int .i64 RF, .slice bwas RS.length dwas] 30 (0, 0))) := Lib.hid (by (repeat' (first | omega | (rw [hdrew]) | (with_reducible assumption) | (with_reducible exact Hid.out (by assumption)) | (with_reducible rfl) | ((with_reducible refine halloc_at _ _ _ ?_) <;> (first | (with_reducible rfl) | omega | (simp; done))) | (with_reducible refine chain6 ?_) | (with_reducible refine Eq.trans (hset_ne _ _ _ _ ?_) ?_) | (with_reducible refine Eq.trans (halloc_lt _ _ _ ?_) ?_) | (with_reducible refine Eq.trans (Below.block (Hid.out (by assumption)) _ ?_) ?_) | (simp; done) | (simp; omega))))
    have hx8wcq : was.heap.size < wcq.heap.size := (Array.getElem?_eq_some_iff.1 HXX8wcq.out).1
    have HXX1wcq : Hid (wcq.heap[wbp.heap.size]? = some (.cells #[.slice (some ⟨gwbp1, 0, none⟩) L.length L.length, .int .i64 F, .slice (some ⟨gwbp2, 0, none⟩) S.length S.length] 30 (0, 0))) := Lib.hid (by (repeat' (first | omega | (rw [hdrew]) | (with_reducible assumption) | (with_reducible exact Hid.out (by assumption)) | (with_reducible rfl) | ((with_reducible refine halloc_at _ _ _ ?_) <;> (first | (with_reducible rfl) | omega | (simp; done))) | (with_reducible refine chain6 ?_) | (with_reducible refine Eq.trans (hset_ne _ _ _ _ ?_) ?_) | (with_reducible refine Eq.trans (halloc_lt _ _ _ ?_) ?_) | (with_reducible refine Eq.trans (Below.block (Hid.out (by assumption)) _ ?_) ?_) | (simp; done) | (simp; omega))))
    have hx1wcq : wbp.heap.size < wcq.heap.size := (Array.getElem?_eq_some_iff.1 HXX1wcq.out).1
    have HXX9wcq : Hid (wcq.heap[wbr.heap.size]? = some (.cells #[.slice awbr RL.length cwbr, .int .i64 RF, .slice bwbr RS.length dwbr] 30 (0, 0))) := Lib.hid (by (repeat' (first | omega | (rw [hdrew]) | (with_reducible assumption) | (with_reducible exact Hid.out (by assumption)) | (with_reducible rfl) | ((with_reducible refine halloc_at _ _ _ ?_) <;> (first | (with_reducible rfl) | omega | (simp; done))) | (with_reducible refine chain6 ?_) | (with_reducible refine Eq.trans (hset_ne _ _ _ _ ?_) ?_) | (with_reducible refine Eq.trans (halloc_lt _ _ _ ?_) ?_) | (with_reducible refine Eq.trans (Below.block (Hid.out (by assumption)) _ ?_) ?_) | (simp; done) | (simp; omega))))
    have hx9wcq : wbr.heap.size < wcq.heap.size := (Array.getElem?_eq_some_iff.1 HXX9wcq.out).1
    have f1wcq0 := Joins.cell_of_block HBX1wcq.out 0
    have f1wcq1 := Joins.cell_of_block HBX1wcq.out 1
    have f1wcq2 := Joins.cell_of_block HBX1wcq.out 2
    simp only [List.getElem?_toArray, List.getElem?_cons_zero, List.getElem?_cons_succ] at f1wcq0 f1wcq1 f1wcq2
    have x8wcq0 := Joins.cell_of_block HXX8wcq.out 0
    have x8wcq1 := Joins.cell_of_block HXX8wcq.out 1
    have x8wcq2 := Joins.cell_of_block HXX8wcq.out 2
    simp only [List.getElem?_toArray, List.getElem?_cons_zero, List.getElem?_cons_succ] at x8wcq0 x8wcq1 x8wcq2
    have x1wcq0 := Joins.cell_of_block HXX1wcq.out 0
    have x1wcq1 := Joins.cell_of_block HXX1wcq.out 1
    have x1wcq2 := Joins.cell_of_block HXX1wcq.out 2
    simp only [List.getElem?_toArray, List.getElem?_cons_zero, List.getElem?_cons_succ] at x1wcq0 x1wcq1 x1wcq2
    have x9wcq0 := Joins.cell_of_block HXX9wcq.out 0
    have x9wcq1 := Joins.cell_of_block HXX9wcq.out 1
    have x9wcq2 := Joins.cell_of_block HXX9wcq.out 2
    simp only [List.getElem?_toArray, List.getElem?_cons_zero, List.getElem?_cons_succ] at x9wcq0 x9wcq1 x9wcq2
    go_wp2_with fail
    have HQwcr := Lib.hid (HCwbp.out.below (w' := wcq) (by (repeat' (first | (with_reducible exact Below.refl _ _) | (with_reducible refine Below.alloc ?_ ?_ _) | (with_reducible refine Below.setCell ?_ ?_ _) | (with_reducible refine Below.drew ?_) | (with_reducible refine below_drewN ?_ _) | (with_reducible refine Below.trans ?_ (Below.mono (Hid.out (by assumption)) ?_)) | omega | (simp; done) | (simp; omega)))))
    have HGwcr := Lib.hid ((HRwbr.out.below (w' := wcq) (by (repeat' (first | (with_reducible exact Below.refl _ _) | (with_reducible refine Below.alloc ?_ ?_ _) | (with_reducible refine Below.setCell ?_ ?_ _) | (with_reducible refine Below.drew ?_) | (with_reducible refine below_drewN ?_ _) | (with_reducible refine Below.trans ?_ (Below.mono (Hid.out (by assumption)) ?_)) | omega | (simp; done) | (simp; omega))))).mono (show gwbp2 + 1 ≤ _ by (first | omega | (simp; omega) | (simp; done))))
    refine (markA_any L F S _ _ L.length S.length _ _ (1) (by omega) (by omega) (by omega) (by omega) _ (fun k e => by injection e with e; injection e with e; exact ⟨by (have := HQwcr.out.hi; have := HQwcr.out.lt; omega), fun e2 => by injection e2 with e2; injection e2 with e2; have := HQwcr.out.lt; omega⟩) HQwcr.out.maps HQwcr.out.last).mono ?_
    rintro e wcr ⟨rfl, _, _, ht⟩
    have hnrwcr : ∀ k, gwbp2 + 1 ≤ k → ¬ (some ⟨gwbp1, 0, none⟩ = (some ⟨k, 0, none⟩ : Option Addr) ∨ some ⟨gwbp2, 0, none⟩ = (some ⟨k, 0, none⟩ : Option Addr)) := fun k hk h => by rcases h with h | h <;> (injection h with h; injection h with h; omega)
    have hb : Below gwbp1 wcq wcr := ht.bel (fun k hk h => by rcases h with h | h <;> (injection h with h; injection h with h; omega))
    have HRwcr := Lib.hid (HGwcr.out.turn ht (fun k hk => hnrwcr k (by omega)))
    have HXX8wcr : Hid (wcr.heap[was.heap.size]? = some (.cells #[.slice awas RL.length cwas, .int .i64 RF, .slice bwas RS.length dwas] 30 (0, 0))) := Lib.hid (ht.at_ (by (repeat' (first | omega | (rw [hdrew]) | (with_reducible assumption) | (with_reducible exact Hid.out (by assumption)) | (with_reducible rfl) | ((with_reducible refine halloc_at _ _ _ ?_) <;> (first | (with_reducible rfl) | omega | (simp; done))) | (with_reducible refine chain6 ?_) | (with_reducible refine Eq.trans (hset_ne _ _ _ _ ?_) ?_) | (with_reducible refine Eq.trans (halloc_lt _ _ _ ?_) ?_) | (with_reducible refine Eq.trans (Below.block (Hid.out (by assumption)) _ ?_) ?_) | (simp; done) | (simp; omega)))) (fun h => by rcases h with h | h <;> (injection h with h; injection h with h; omega)))
    have HXX9wcr : Hid (wcr.heap[wbr.heap.size]? = some (.cells #[.slice awbr RL.length cwbr, .int .i64 RF, .slice bwbr RS.length dwbr] 30 (0, 0))) := Lib.hid (ht.at_ (by (repeat' (first | omega | (rw [hdrew]) | (with_reducible assumption) | (with_reducible exact Hid.out (by assumption)) | (with_reducible rfl) | ((with_reducible refine halloc_at _ _ _ ?_) <;> (first | (with_reducible rfl) | omega | (simp; done))) | (with_reducible refine chain6 ?_) | (with_reducible refine Eq.trans (hset_ne _ _ _ _ ?_) ?_) | (with_reducible refine Eq.trans (halloc_lt _ _ _ ?_) ?_) | (with_reducible refine Eq.trans (Below.block (Hid.out (by assumption)) _ ?_) ?_) | (simp; done) | (simp; omega)))) (hnrwcr _ (by (try simp); omega)))
    have hswcr : wb.heap.size ≤ wcr.heap.size := (by have := ht.size; (try simp at this); omega)
    have hzwcr := ht.size
    (try simp at hzwcr)
    have HBwcr := Lib.hid hb
    clear hb ht hnrwcr HQwcr HGwcr
    have HBX1wcr : Hid (wcr.heap[w.heap.size]? = some (.cells #[.slice a1 L.length c1, .int .i64 F, .slice b1 S.length d1] 25 (0, 0))) := Lib.hid (by (repeat' (first | omega | (rw [hdrew]) | (with_reducible assumption) | (with_reducible exact Hid.out (by assumption)) | (with_reducible rfl) | ((with_reducible refine halloc_at _ _ _ ?_) <;> (first | (with_reducible rfl) | omega | (simp; done))) | (with_reducible refine chain6 ?_) | (with_reducible refine Eq.trans (hset_ne _ _ _ _ ?_) ?_) | (with_reducible refine Eq.trans (halloc_lt _ _ _ ?_) ?_) | (with_reducible refine Eq.trans (Below.block (Hid.out (by assumption)) _ ?_) ?_) | (simp; done) | (simp; omega))))
    have f1wcr0 := Joins.cell_of_block HBX1wcr.out 0
    have f1wcr1 := Joins.cell_of_block HBX1wcr.out 1
    have f1wcr2 := Joins.cell_of_block HBX1wcr.out 2
    simp only [List.getElem?_toArray, List.getElem?_cons_zero, List.getElem?_cons_succ] at f1wcr0 f1wcr1 f1wcr2
    have x8wcr0 := Joins.cell_of_block HXX8wcr.out 0
    have x8wcr1 := Joins.cell_of_block HXX8wcr.out 1
    have x8wcr2 := Joins.cell_of_block HXX8wcr.out 2
    simp only [List.getElem?_toArray, List.getElem?_cons_zero, List.getElem?_cons_succ] at x8wcr0 x8wcr1 x8wcr2
    have x9wcr0 := Joins.cell_of_block HXX9wcr.out 0
    have x9wcr1 := Joins.cell_of_block HXX9wcr.out 1
    have x9wcr2 := Joins.cell_of_block HXX9wcr.out 2
    simp only [List.getElem?_toArray, List.getElem?_cons_zero, List.getElem?_cons_succ] at x9wcr0 x9wcr1 x9wcr2
    have hqwcr : (1 + 6 * (L.length : Int) + (S.length : Int) < 0) = False := by simp; omega
    go_wp2_with fail
    refine (eqA_same RL RF RS HRM.out _ _ _ _ _ _ _ _ _ _ _ ((HRwcr.out.below (by (repeat' (first | (with_reducible exact Below.refl _ _) | (with_reducible refine Below.alloc ?_ ?_ _) | (with_reducible refine Below.setCell ?_ ?_ _) | (with_reducible refine Below.drew ?_) | (with_reducible refine below_drewN ?_ _) | (with_reducible refine Below.trans ?_ (Below.mono (Hid.out (by assumption)) ?_)) | omega | (simp; done) | (simp; omega))))).maps.inRow) ((HRwas.out.below (by (repeat' (first | (with_reducible exact Below.refl _ _) | (with_reducible refine Below.alloc ?_ ?_ _) | (with_reducible refine Below.setCell ?_ ?_ _) | (with_reducible refine Below.drew ?_) | (with_reducible refine below_drewN ?_ _) | (with_reducible refine Below.trans ?_ (Below.mono (Hid.out (by assumption)) ?_)) | omega | (simp; done) | (simp; omega))))).maps.inRow) (HRwcr.out.below (by (repeat' (first | (with_reducible exact Below.refl _ _) | (with_reducible refine Below.alloc ?_ ?_ _) | (with_reducible refine Below.setCell ?_ ?_ _) | (with_reducible refine Below.drew ?_) | (with_reducible refine below_drewN ?_ _) | (with_reducible refine Below.trans ?_ (Below.mono (Hid.out (by assumption)) ?_)) | omega | (simp; done) | (simp; omega))))).last (HRwas.out.below (by (repeat' (first | (with_reducible exact Below.refl _ _) | (with_reducible refine Below.alloc ?_ ?_ _) | (with_reducible refine Below.setCell ?_ ?_ _) | (with_reducible refine Below.drew ?_) | (with_reducible refine below_drewN ?_ _) | (with_reducible refine Below.trans ?_ (Below.mono (Hid.out (by assumption)) ?_)) | omega | (simp; done) | (simp; omega))))).last).mono ?_
    rintro e wcs ⟨rfl, hb⟩
    have hzwcs := hb.size
    (try simp at hzwcs)
    have hswcs : wb.heap.size ≤ wcs.heap.size := (by have := hb.size; (try simp at this); omega)
    have HBwcs := Lib.hid hb
    clear hb
    have HBX1wcs : Hid (wcs.heap[w.heap.size]? = some (.cells #[.slice a1 L.length c1, .int .i64 F, .slice b1 S.length d1] 25 (0, 0))) := Lib.hid (by (repeat' (first | omega | (rw [hdrew]) | (with_reducible assumption) | (with_reducible exact Hid.out (by assumption)) | (with_reducible rfl) | ((with_reducible refine halloc_at _ _ _ ?_) <;> (first | (with_reducible rfl) | omega | (simp; done))) | (with_reducible refine chain6 ?_) | (with_reducible refine Eq.trans (hset_ne _ _ _ _ ?_) ?_) | (with_reducible refine Eq.trans (halloc_lt _ _ _ ?_) ?_) | (with_reducible refine Eq.trans (Below.block (Hid.out (by assumption)) _ ?_) ?_) | (simp; done) | (simp; omega))))
    have HXX8wcs : Hid (wcs.heap[was.heap.size]? = some (.cells #[.slice awas RL.length cwas, .int .i64 RF, .slice bwas RS.length dwas] 30 (0, 0))) := Lib.hid (by (repeat' (first | omega | (rw [hdrew]) | (with_reducible assumption) | (with_reducible exact Hid.out (by assumption)) | (with_reducible rfl) | ((with_reducible refine halloc_at _ _ _ ?_) <;> (first | (with_reducible rfl) | omega | (simp; done))) | (with_reducible refine chain6 ?_) | (with_reducible refine Eq.trans (hset_ne _ _ _ _ ?_) ?_) | (with_reducible refine Eq.trans (halloc_lt _ _ _ ?_) ?_) | (with_reducible refine Eq.trans (Below.block (Hid.out (by assumption)) _ ?_) ?_) | (simp; done) | (simp; omega))))
    have hx8wcs : was.heap.size < wcs.heap.size := (Array.getElem?_eq_some_iff.1 HXX8wcs.out).1
    have HXX9wcs : Hid (wcs.heap[wbr.heap.size]? = some (.cells #[.slice awbr RL.length cwbr, .int .i64 RF, .slice bwbr RS.length dwbr] 30 (0, 0))) := Lib.hid (by (repeat' (first | omega | (rw [hdrew]) | (with_reducible assumption) | (with_reducible exact Hid.out (by assumption)) | (with_reducible rfl) | ((with_reducible refine halloc_at _ _ _ ?_) <;> (first | (with_reducible rfl) | omega | (simp; done))) | (with_reducible refine chain6 ?_) | (with_reducible refine Eq.trans (hset_ne _ _ _ _ ?_) ?_) | (with_reducible refine Eq.trans (halloc_lt _ _ _ ?_) ?_) | (with_reducible refine Eq.trans (Below.block (Hid.out (by assumption)) _ ?_) ?_) | (simp; done) | (simp; omega))))
    have hx9wcs : wbr.heap.size < wcs.heap.size := (Array.getElem?_eq_some_iff.1 HXX9wcs.out).1
    have f1wcs0 := Joins.cell_of_block HBX1wcs.out 0
    have f1wcs1 := Joins.cell_of_block HBX1wcs.out 1
    have f1wcs2 := Joins.cell_of_block HBX1wcs.out 2
    simp only [List.getElem?_toArray, List.getElem?_cons_zero, List.getElem?_cons_succ] at f1wcs0 f1wcs1 f1wcs2
    have x8wcs0 := Joins.cell_of_block HXX8wcs.out 0
    have x8wcs1 := Joins.cell_of_block HXX8wcs.out 1
    have x8wcs2 := Joins.cell_of_block HXX8wcs.out 2
    simp only [List.getElem?_toArray, List.getElem?_cons_zero, List.getElem?_cons_succ] at x8wcs0 x8wcs1 x8wcs2
    have x9wcs0 := Joins.cell_of_block HXX9wcs.out 0
    have x9wcs1 := Joins.cell_of_block HXX9wcs.out 1
    have x9wcs2 := Joins.cell_of_block HXX9wcs.out 2
    simp only [List.getElem?_toArray, List.getElem?_cons_zero, List.getElem?_cons_succ] at x9wcs0 x9wcs1 x9wcs2
    go_wp2_with fail
    have HQwct := Lib.hid (HRwcr.out.below (w' := wcs) (by (repeat' (first | (with_reducible exact Below.refl _ _) | (with_reducible refine Below.alloc ?_ ?_ _) | (with_reducible refine Below.setCell ?_ ?_ _) | (with_reducible refine Below.drew ?_) | (with_reducible refine below_drewN ?_ _) | (with_reducible refine Below.trans ?_ (Below.mono (Hid.out (by assumption)) ?_)) | omega | (simp; done) | (simp; omega)))))
    refine (markA_any RL RF RS awbr bwbr cwbr dwbr _ _ 1 (by decide) (by decide) HRM.out HRN.out _ (fun k e => ⟨(HQwct.out.ne k e).2.1, (HQwct.out.ne k e).2.2⟩) HQwct.out.maps HQwct.out.last).mono ?_
    rintro e wct ⟨rfl, hma, hmb, ht⟩
    have hnq : ∀ k, (k < gwbp2 + 1 ∨ wbr.heap.size ≤ k) → ¬ (awbr = some ⟨k, 0, none⟩ ∨ bwbr = some ⟨k, 0, none⟩) := fun k hk h => by
      have h1 := HRwbr.out.ne k
      have h2 := HRwbr.out.nb k
      rcases h with h | h
      · have := h1 h; (try simp at this); omega
      · have := h2 h; (try simp at this); omega
    have hb : Below (gwbp2 + 1) wcs wct := ht.bel (fun k hk h => hnq k (Or.inl hk) h) (by (try simp); omega)
    have HXX8wct : Hid (wct.heap[was.heap.size]? = some (.cells #[.slice awas RL.length cwas, .int .i64 RF, .slice bwas RS.length dwas] 30 (0, 0))) := Lib.hid (ht.at_ (by (repeat' (first | omega | (rw [hdrew]) | (with_reducible assumption) | (with_reducible exact Hid.out (by assumption)) | (with_reducible rfl) | ((with_reducible refine halloc_at _ _ _ ?_) <;> (first | (with_reducible rfl) | omega | (simp; done))) | (with_reducible refine chain6 ?_) | (with_reducible refine Eq.trans (hset_ne _ _ _ _ ?_) ?_) | (with_reducible refine Eq.trans (halloc_lt _ _ _ ?_) ?_) | (with_reducible refine Eq.trans (Below.block (Hid.out (by assumption)) _ ?_) ?_) | (simp; done) | (simp; omega)))) (hnq _ (by first | (left; omega) | (right; omega))))
    have HXX9wct : Hid (wct.heap[wbr.heap.size]? = some (.cells #[.slice awbr RL.length cwbr, .int .i64 RF, .slice bwbr RS.length dwbr] 30 (0, 0))) := Lib.hid (ht.at_ (by (repeat' (first | omega | (rw [hdrew]) | (with_reducible assumption) | (with_reducible exact Hid.out (by assumption)) | (with_reducible rfl) | ((with_reducible refine halloc_at _ _ _ ?_) <;> (first | (with_reducible rfl) | omega | (simp; done))) | (with_reducible refine chain6 ?_) | (with_reducible refine Eq.trans (hset_ne _ _ _ _ ?_) ?_) | (with_reducible refine Eq.trans (halloc_lt _ _ _ ?_) ?_) | (with_reducible refine Eq.trans (Below.block (Hid.out (by assumption)) _ ?_) ?_) | (simp; done) | (simp; omega)))) (hnq _ (by first | (left; omega) | (right; omega))))
    have HMAwct := Lib.hid hma
    have HMBwct := Lib.hid hmb
    have hswct : wb.heap.size ≤ wct.heap.size := (by have := ht.size; (try simp at this); omega)
    have hzwct := ht.size
    (try simp at hzwct)
    have HBwct := Lib.hid hb
    clear hb ht hma hmb hnq
    have HBX1wct : Hid (wct.heap[w.heap.size]? = some (.cells #[.slice a1 L.length c1, .int .i64 F, .slice b1 S.length d1] 25 (0, 0))) := Lib.hid (by (repeat' (first | omega | (rw [hdrew]) | (with_reducible assumption) | (with_reducible exact Hid.out (by assumption)) | (with_reducible rfl) | ((with_reducible refine halloc_at _ _ _ ?_) <;> (first | (with_reducible rfl) | omega | (simp; done))) | (with_reducible refine chain6 ?_) | (with_reducible refine Eq.trans (hset_ne _ _ _ _ ?_) ?_) | (with_reducible refine Eq.trans (halloc_lt _ _ _ ?_) ?_) | (with_reducible refine Eq.trans (Below.block (Hid.out (by assumption)) _ ?_) ?_) | (simp; done) | (simp; omega))))
    have f1wct0 := Joins.cell_of_block HBX1wct.out 0
    have f1wct1 := Joins.cell_of_block HBX1wct.out 1
    have f1wct2 := Joins.cell_of_block HBX1wct.out 2
    simp only [List.getElem?_toArray, List.getElem?_cons_zero, List.getElem?_cons_succ] at f1wct0 f1wct1 f1wct2
    have hx8wct : was.heap.size < wct.heap.size := (Array.getElem?_eq_some_iff.1 HXX8wct.out).1
    have x8wct0 := Joins.cell_of_block HXX8wct.out 0
    have x8wct1 := Joins.cell_of_block HXX8wct.out 1
    have x8wct2 := Joins.cell_of_block HXX8wct.out 2
    simp only [List.getElem?_toArray, List.getElem?_cons_zero, List.getElem?_cons_succ] at x8wct0 x8wct1 x8wct2
    have hx9wct : wbr.heap.size < wct.heap.size := (Array.getElem?_eq_some_iff.1 HXX9wct.out).1
    have x9wct0 := Joins.cell_of_block HXX9wct.out 0
    have x9wct1 := Joins.cell_of_block HXX9wct.out 1
    have x9wct2 := Joins.cell_of_block HXX9wct.out 2
    simp only [List.getElem?_toArray, List.getElem?_cons_zero, List.getElem?_cons_succ] at x9wct0 x9wct1 x9wct2
    have hqr : (1 + 6 * (RL.length : Int) + (RS.length : Int) < 0) = False := by simp; omega
    go_wp2_with fail
    refine (heldA_any RL.length RS.length RF awbr bwbr cwbr dwbr _ _ 1 (by decide) (by decide) HRM.out HRN.out _ (HMAwct.out.below (by (repeat' (first | (with_reducible exact Below.refl _ _) | (with_reducible refine Below.alloc ?_ ?_ _) | (with_reducible refine Below.setCell ?_ ?_ _) | (with_reducible refine Below.drew ?_) | (with_reducible refine below_drewN ?_ _) | (with_reducible refine Below.trans ?_ (Below.mono (Hid.out (by assumption)) ?_)) | omega | (simp; done) | (simp; omega))))) (HMBwct.out.below (by (repeat' (first | (with_reducible exact Below.refl _ _) | (with_reducible refine Below.alloc ?_ ?_ _) | (with_reducible refine Below.setCell ?_ ?_ _) | (with_reducible refine Below.drew ?_) | (with_reducible refine below_drewN ?_ _) | (with_reducible refine Below.trans ?_ (Below.mono (Hid.out (by assumption)) ?_)) | omega | (simp; done) | (simp; omega)))))).mono ?_
    rintro e wdp ⟨rfl, hb⟩
    have hzwdp := hb.size
    (try simp at hzwdp)
    have hswdp : wb.heap.size ≤ wdp.heap.size := (by have := hb.size; (try simp at this); omega)
    have HBwdp := Lib.hid hb
    clear hb
    have HBX1wdp : Hid (wdp.heap[w.heap.size]? = some (.cells #[.slice a1 L.length c1, .int .i64 F, .slice b1 S.length d1] 25 (0, 0))) := Lib.hid (by (repeat' (first | omega | (rw [hdrew]) | (with_reducible assumption) | (with_reducible exact Hid.out (by assumption)) | (with_reducible rfl) | ((with_reducible refine halloc_at _ _ _ ?_) <;> (first | (with_reducible rfl) | omega | (simp; done))) | (with_reducible refine chain6 ?_) | (with_reducible refine Eq.trans (hset_ne _ _ _ _ ?_) ?_) | (with_reducible refine Eq.trans (halloc_lt _ _ _ ?_) ?_) | (with_reducible refine Eq.trans (Below.block (Hid.out (by assumption)) _ ?_) ?_) | (simp; done) | (simp; omega))))
    have HXX8wdp : Hid (wdp.heap[was.heap.size]? = some (.cells #[.slice awas RL.length cwas, .int .i64 RF, .slice bwas RS.length dwas] 30 (0, 0))) := Lib.hid (by (repeat' (first | omega | (rw [hdrew]) | (with_reducible assumption) | (with_reducible exact Hid.out (by assumption)) | (with_reducible rfl) | ((with_reducible refine halloc_at _ _ _ ?_) <;> (first | (with_reducible rfl) | omega | (simp; done))) | (with_reducible refine chain6 ?_) | (with_reducible refine Eq.trans (hset_ne _ _ _ _ ?_) ?_) | (with_reducible refine Eq.trans (halloc_lt _ _ _ ?_) ?_) | (with_reducible refine Eq.trans (Below.block (Hid.out (by assumption)) _ ?_) ?_) | (simp; done) | (simp; omega))))
    have hx8wdp : was.heap.size < wdp.heap.size := (Array.getElem?_eq_some_iff.1 HXX8wdp.out).1
    have HXX9wdp : Hid (wdp.heap[wbr.heap.size]? = some (.cells #[.slice awbr RL.length cwbr, .int .i64 RF, .slice bwbr RS.length dwbr] 30 (0, 0))) := Lib.hid (by (repeat' (first | omega | (rw [hdrew]) | (with_reducible assumption) | (with_reducible exact Hid.out (by assumption)) | (with_reducible rfl) | ((with_reducible refine halloc_at _ _ _ ?_) <;> (first | (with_reducible rfl) | omega | (simp; done))) | (with_reducible refine chain6 ?_) | (with_reducible refine Eq.trans (hset_ne _ _ _ _ ?_) ?_) | (with_reducible refine Eq.trans (halloc_lt _ _ _ ?_) ?_) | (with_reducible refine Eq.trans (Below.block (Hid.out (by assumption)) _ ?_) ?_) | (simp; done) | (simp; omega))))
    have hx9wdp : wbr.heap.size < wdp.heap.size := (Array.getElem?_eq_some_iff.1 HXX9wdp.out).1
    have f1wdp0 := Joins.cell_of_block HBX1wdp.out 0
    have f1wdp1 := Joins.cell_of_block HBX1wdp.out 1
    have f1wdp2 := Joins.cell_of_block HBX1wdp.out 2
    simp only [List.getElem?_toArray, List.getElem?_cons_zero, List.getElem?_cons_succ] at f1wdp0 f1wdp1 f1wdp2
    have x8wdp0 := Joins.cell_of_block HXX8wdp.out 0
    have x8wdp1 := Joins.cell_of_block HXX8wdp.out 1
    have x8wdp2 := Joins.cell_of_block HXX8wdp.out 2
    simp only [List.getElem?_toArray, List.getElem?_cons_zero, List.getElem?_cons_succ] at x8wdp0 x8wdp1 x8wdp2
    have x9wdp0 := Joins.cell_of_block HXX9wdp.out 0
    have x9wdp1 := Joins.cell_of_block HXX9wdp.out 1
    have x9wdp2 := Joins.cell_of_block HXX9wdp.out 2
    simp only [List.getElem?_toArray, List.getElem?_cons_zero, List.getElem?_cons_succ] at x9wdp0 x9wdp1 x9wdp2
    go_wp2_with fail
    refine (HCP1.out _ a1 b1 c1 d1 (HM1wb.out.below (by (repeat' (first | (with_reducible exact Below.refl _ _) | (with_reducible refine Below.alloc ?_ ?_ _) | (with_reducible refine Below.setCell ?_ ?_ _) | (with_reducible refine Below.drew ?_) | (with_reducible refine below_drewN ?_ _) | (with_reducible refine Below.trans ?_ (Below.mono (Hid.out (by assumption)) ?_)) | omega | (simp; done) | (simp; omega))))) (HL1wb.out.below (by (repeat' (first | (with_reducible exact Below.refl _ _) | (with_reducible refine Below.alloc ?_ ?_ _) | (with_reducible refine Below.setCell ?_ ?_ _) | (with_reducible refine Below.drew ?_) | (with_reducible refine below_drewN ?_ _) | (with_reducible refine Below.trans ?_ (Below.mono (Hid.out (by assumption)) ?_)) | omega | (simp; done) | (simp; omega)))))).mono ?_
    rintro e wdq ⟨gwdq1, gwdq2, rfl, hcop, hb⟩
    have HCwdq := Lib.hid hcop
    have hlowdq := hcop.lo
    have hltwdq := hcop.lt
    have hhiwdq := hcop.hi
    (try simp at hlowdq)
    clear hcop
    have hzwdq := hb.size
    (try simp at hzwdq)
    have hswdq : wb.heap.size ≤ wdq.heap.size := (by have := hb.size; (try simp at this); omega)
    have HBwdq := Lib.hid hb
    clear hb
    have HBX1wdq : Hid (wdq.heap[w.heap.size]? = some (.cells #[.slice a1 L.length c1, .int .i64 F, .slice b1 S.length d1] 25 (0, 0))) := Lib.hid (by (repeat' (first | omega | (rw [hdrew]) | (with_reducible assumption) | (with_reducible exact Hid.out (by assumption)) | (with_reducible rfl) | ((with_reducible refine halloc_at _ _ _ ?_) <;> (first | (with_reducible rfl) | omega | (simp; done))) | (with_reducible refine chain6 ?_) | (with_reducible refine Eq.trans (hset_ne _ _ _ _ ?_) ?_) | (with_reducible refine Eq.trans (halloc_lt _ _ _ ?_) ?_) | (with_reducible refine Eq.trans (Below.block (Hid.out (by assumption)) _ ?_) ?_) | (simp; done) | (simp; omega))))
    have HXX8wdq : Hid (wdq.heap[was.heap.size]? = some (.cells #[.slice awas RL.length cwas, .int .i64 RF, .slice bwas RS.length dwas] 30 (0, 0))) := Lib.hid (by (repeat' (first | omega | (rw [hdrew]) | (with_reducible assumption) | (with_reducible exact Hid.out (by assumption)) | (with_reducible rfl) | ((with_reducible refine halloc_at _ _ _ ?_) <;> (first | (with_reducible rfl) | omega | (simp; done))) | (with_reducible refine chain6 ?_) | (with_reducible refine Eq.trans (hset_ne _ _ _ _ ?_) ?_) | (with_reducible refine Eq.trans (halloc_lt _ _ _ ?_) ?_) | (with_reducible refine Eq.trans (Below.block (Hid.out (by assumption)) _ ?_) ?_) | (simp; done) | (simp; omega))))
    have hx8wdq : was.heap.size < wdq.heap.size := (Array.getElem?_eq_some_iff.1 HXX8wdq.out).1
    have HXX9wdq : Hid (wdq.heap[wbr.heap.size]? = some (.cells #[.slice awbr RL.length cwbr, .int .i64 RF, .slice bwbr RS.length dwbr] 30 (0, 0))) := Lib.hid (by (repeat' (first | omega | (rw [hdrew]) | (with_reducible assumption) | (with_reducible exact Hid.out (by assumption)) | (with_reducible rfl) | ((with_reducible refine halloc_at _ _ _ ?_) <;> (first | (with_reducible rfl) | omega | (simp; done))) | (with_reducible refine chain6 ?_) | (with_reducible refine Eq.trans (hset_ne _ _ _ _ ?_) ?_) | (with_reducible refine Eq.trans (halloc_lt _ _ _ ?_) ?_) | (with_reducible refine Eq.trans (Below.block (Hid.out (by assumption)) _ ?_) ?_) | (simp; done) | (simp; omega))))
    have hx9wdq : wbr.heap.size < wdq.heap.size := (Array.getElem?_eq_some_iff.1 HXX9wdq.out).1
    have f1wdq0 := Joins.cell_of_block HBX1wdq.out 0
    have f1wdq1 := Joins.cell_of_block HBX1wdq.out 1
    have f1wdq2 := Joins.cell_of_block HBX1wdq.out 2
    simp only [List.getElem?_toArray, List.getElem?_cons_zero, List.getElem?_cons_succ] at f1wdq0 f1wdq1 f1wdq2
    have x8wdq0 := Joins.cell_of_block HXX8wdq.out 0
    have x8wdq1 := Joins.cell_of_block HXX8wdq.out 1
    have x8wdq2 := Joins.cell_of_block HXX8wdq.out 2
    simp only [List.getElem?_toArray, List.getElem?_cons_zero, List.getElem?_cons_succ] at x8wdq0 x8wdq1 x8wdq2
    have x9wdq0 := Joins.cell_of_block HXX9wdq.out 0
    have x9wdq1 := Joins.cell_of_block HXX9wdq.out 1
    have x9wdq2 := Joins.cell_of_block HXX9wdq.out 2
    simp only [List.getElem?_toArray, List.getElem?_cons_zero, List.getElem?_cons_succ] at x9wdq0 x9wdq1 x9wdq2
    go_wp2_with fail
    refine (HI.out _ _ _ ((HCwdq.out.below (by (repeat' (first | (with_reducible exact Below.refl _ _) | (with_reducible refine Below.alloc ?_ ?_ _) | (with_reducible refine Below.setCell ?_ ?_ _) | (with_reducible refine Below.drew ?_) | (with_reducible refine below_drewN ?_ _) | (with_reducible refine Below.trans ?_ (Below.mono (Hid.out (by assumption)) ?_)) | omega | (simp; done) | (simp; omega))))).maps.inRow) ((HCwdq.out.below (by (repeat' (first | (with_reducible exact Below.refl _ _) | (with_reducible refine Below.alloc ?_ ?_ _) | (with_reducible refine Below.setCell ?_ ?_ _) | (with_reducible refine Below.drew ?_) | (with_reducible refine below_drewN ?_ _) | (with_reducible refine Below.trans ?_ (Below.mono (Hid.out (by assumption)) ?_)) | omega | (simp; done) | (simp; omega))))).last.inRow)).mono ?_
    rintro e wdr ⟨awdr, cwdr, bwdr, dwdr, rfl, hres, hb⟩
    have HRwdr := Lib.hid hres
    clear hres
    have hzwdr := hb.size
    (try simp at hzwdr)
    have hswdr : wb.heap.size ≤ wdr.heap.size := (by have := hb.size; (try simp at this); omega)
    have HBwdr := Lib.hid hb
    clear hb
    have HBX1wdr : Hid (wdr.heap[w.heap.size]? = some (.cells #[.slice a1 L.length c1, .int .i64 F, .slice b1 S.length d1] 25 (0, 0))) := Lib.hid (by (repeat' (first | omega | (rw [hdrew]) | (with_reducible assumption) | (with_reducible exact Hid.out (by assumption)) | (with_reducible rfl) | ((with_reducible refine halloc_at _ _ _ ?_) <;> (first | (with_reducible rfl) | omega | (simp; done))) | (with_reducible refine chain6 ?_) | (with_reducible refine Eq.trans (hset_ne _ _ _ _ ?_) ?_) | (with_reducible refine Eq.trans (halloc_lt _ _ _ ?_) ?_) | (with_reducible refine Eq.trans (Below.block (Hid.out (by assumption)) _ ?_) ?_) | (simp; done) | (simp; omega))))
    have HXX8wdr : Hid (wdr.heap[was.heap.size]? = some (.cells #[.slice awas RL.length cwas, .int .i64 RF, .slice bwas RS.length dwas] 30 (0, 0))) := Lib.hid (by (repeat' (first | omega | (rw [hdrew]) | (with_reducible assumption) | (with_reducible exact Hid.out (by assumption)) | (with_reducible rfl) | ((with_reducible refine halloc_at _ _ _ ?_) <;> (first | (with_reducible rfl) | omega | (simp; done))) | (with_reducible refine chain6 ?_) | (with_reducible refine Eq.trans (hset_ne _ _ _ _ ?_) ?_) | (with_reducible refine Eq.trans (halloc_lt _ _ _ ?_) ?_) | (with_reducible refine Eq.trans (Below.block (Hid.out (by assumption)) _ ?_) ?_) | (simp; done) | (simp; omega))))
    have hx8wdr : was.heap.size < wdr.heap.size := (Array.getElem?_eq_some_iff.1 HXX8wdr.out).1
    have HXX9wdr : Hid (wdr.heap[wbr.heap.size]? = some (.cells #[.slice awbr RL.length cwbr, .int .i64 RF, .slice bwbr RS.length dwbr] 30 (0, 0))) := Lib.hid (by (repeat' (first | omega | (rw [hdrew]) | (with_reducible assumption) | (with_reducible exact Hid.out (by assumption)) | (with_reducible rfl) | ((with_reducible refine halloc_at _ _ _ ?_) <;> (first | (with_reducible rfl) | omega | (simp; done))) | (with_reducible refine chain6 ?_) | (with_reducible refine Eq.trans (hset_ne _ _ _ _ ?_) ?_) | (with_reducible refine Eq.trans (halloc_lt _ _ _ ?_) ?_) | (with_reducible refine Eq.trans (Below.block (Hid.out (by assumption)) _ ?_) ?_) | (simp; done) | (simp; omega))))
    have hx9wdr : wbr.heap.size < wdr.heap.size := (Array.getElem?_eq_some_iff.1 HXX9wdr.out).1
    have f1wdr0 := Joins.cell_of_block HBX1wdr.out 0
    have f1wdr1 := Joins.cell_of_block HBX1wdr.out 1
    have f1wdr2 := Joins.cell_of_block HBX1wdr.out 2
    simp only [List.getElem?_toArray, List.getElem?_cons_zero, List.getElem?_cons_succ] at f1wdr0 f1wdr1 f1wdr2
    have x8wdr0 := Joins.cell_of_block HXX8wdr.out 0
    have x8wdr1 := Joins.cell_of_block HXX8wdr.out 1
    have x8wdr2 := Joins.cell_of_block HXX8wdr.out 2
    simp only [List.getElem?_toArray, List.getElem?_cons_zero, List.getElem?_cons_succ] at x8wdr0 x8wdr1 x8wdr2
    have x9wdr0 := Joins.cell_of_block HXX9wdr.out 0
    have x9wdr1 := Joins.cell_of_block HXX9wdr.out 1
    have x9wdr2 := Joins.cell_of_block HXX9wdr.out 2
    simp only [List.getElem?_toArray, List.getElem?_cons_zero, List.getElem?_cons_succ] at x9wdr0 x9wdr1 x9wdr2
    go_upto_region 25 with fail
    obtain ⟨wds, hX⟩ : ∃ z : World, z = wdr.alloc (.cells #[.slice awdr RL.length cwdr, .int .i64 RF, .slice bwdr RS.length dwdr] 30) := ⟨_, rfl⟩
    have hb : Below wdr.heap.size wdr wds := by rw [hX]; exact (Below.refl _ _).alloc (Nat.le_refl _) _
    have HXX10wds : Hid (wds.heap[wdr.heap.size]? = some (.cells #[.slice awdr RL.length cwdr, .int .i64 RF, .slice bwdr RS.length dwdr] 30 (0, 0))) := Lib.hid (by rw [hX]; exact halloc_at _ _ _ rfl)
    have hx10wds : wdr.heap.size < wds.heap.size := (Array.getElem?_eq_some_iff.1 HXX10wds.out).1
    rw [← hX]
    clear hX
    have hzwds := hb.size
    have hswds : wb.heap.size ≤ wds.heap.size := by omega
    have HBwds := Lib.hid hb
    clear hb
    have x10wds0 := Joins.cell_of_block HXX10wds.out 0
    have x10wds1 := Joins.cell_of_block HXX10wds.out 1
    have x10wds2 := Joins.cell_of_block HXX10wds.out 2
    simp only [List.getElem?_toArray, List.getElem?_cons_zero, List.getElem?_cons_succ] at x10wds0 x10wds1 x10wds2
    have HBX1wds : Hid (wds.heap[w.heap.size]? = some (.cells #[.slice a1 L.length c1, .int .i64 F, .slice b1 S.length d1] 25 (0, 0))) := Lib.hid (by (repeat' (first | omega | (rw [hdrew]) | (with_reducible assumption) | (with_reducible exact Hid.out (by assumption)) | (with_reducible rfl) | ((with_reducible refine halloc_at _ _ _ ?_) <;> (first | (with_reducible rfl) | omega | (simp; done))) | (with_reducible refine chain6 ?_) | (with_reducible refine Eq.trans (hset_ne _ _ _ _ ?_) ?_) | (with_reducible refine Eq.trans (halloc_lt _ _ _ ?_) ?_) | (with_reducible refine Eq.trans (Below.block (Hid.out (by assumption)) _ ?_) ?_) | (simp; done) | (simp; omega))))
    have HXX8wds : Hid (wds.heap[was.heap.size]? = some (.cells #[.slice awas RL.length cwas, .int .i64 RF, .slice bwas RS.length dwas] 30 (0, 0))) := Lib.hid (by (repeat' (first | omega | (rw [hdrew]) | (with_reducible assumption) | (with_reducible exact Hid.out (by assumption)) | (with_reducible rfl) | ((with_reducible refine halloc_at _ _ _ ?_) <;> (first | (with_reducible rfl) | omega | (simp; done))) | (with_reducible refine chain6 ?_) | (with_reducible refine Eq.trans (hset_ne _ _ _ _ ?_) ?_) | (with_reducible refine Eq.trans (halloc_lt _ _ _ ?_) ?_) | (with_reducible refine Eq.trans (Below.block (Hid.out (by assumption)) _ ?_) ?_) | (simp; done) | (simp; omega))))
    have hx8wds : was.heap.size < wds.heap.size := (Array.getElem?_eq_some_iff.1 HXX8wds.out).1
    have HXX9wds : Hid (wds.heap[wbr.heap.size]? = some (.cells #[.slice awbr RL.length cwbr, .int .i64 RF, .slice bwbr RS.length dwbr] 30 (0, 0))) := Lib.hid (by (repeat' (first | omega | (rw [hdrew]) | (with_reducible assumption) | (with_reducible exact Hid.out (by assumption)) | (with_reducible rfl) | ((with_reducible refine halloc_at _ _ _ ?_) <;> (first | (with_reducible rfl) | omega | (simp; done))) | (with_reducible refine chain6 ?_) | (with_reducible refine Eq.trans (hset_ne _ _ _ _ ?_) ?_) | (with_reducible refine Eq.trans (halloc_lt _ _ _ ?_) ?_) | (with_reducible refine Eq.trans (Below.block (Hid.out (by assumption)) _ ?_) ?_) | (simp; done) | (simp; omega))))
    have hx9wds : wbr.heap.size < wds.heap.size := (Array.getElem?_eq_some_iff.1 HXX9wds.out).1
    have f1wds0 := Joins.cell_of_block HBX1wds.out 0
    have f1wds1 := Joins.cell_of_block HBX1wds.out 1
    have f1wds2 := Joins.cell_of_block HBX1wds.out 2
    simp only [List.getElem?_toArray, List.getElem?_cons_zero, List.getElem?_cons_succ] at f1wds0 f1wds1 f1wds2
    have x8wds0 := Joins.cell_of_block HXX8wds.out 0
    have x8wds1 := Joins.cell_of_block HXX8wds.out 1
    have x8wds2 := Joins.cell_of_block HXX8wds.out 2
    simp only [List.getElem?_toArray, List.getElem?_cons_zero, List.getElem?_cons_succ] at x8wds0 x8wds1 x8wds2
    have x9wds0 := Joins.cell_of_block HXX9wds.out 0
    have x9wds1 := Joins.cell_of_block HXX9wds.out 1
    have x9wds2 := Joins.cell_of_block HXX9wds.out 2
    simp only [List.getElem?_toArray, List.getElem?_cons_zero, List.getElem?_cons_succ] at x9wds0 x9wds1 x9wds2
    go_wp2_with fail
    refine (eqA_same RL RF RS HRM.out _ _ _ _ _ _ _ _ _ _ _ ((HRwdr.out.below (by (repeat' (first | (with_reducible exact Below.refl _ _) | (with_reducible refine Below.alloc ?_ ?_ _) | (with_reducible refine Below.setCell ?_ ?_ _) | (with_reducible refine Below.drew ?_) | (with_reducible refine below_drewN ?_ _) | (with_reducible refine Below.trans ?_ (Below.mono (Hid.out (by assumption)) ?_)) | omega | (simp; done) | (simp; omega))))).maps.inRow) ((HRwas.out.below (by (repeat' (first | (with_reducible exact Below.refl _ _) | (with_reducible refine Below.alloc ?_ ?_ _) | (with_reducible refine Below.setCell ?_ ?_ _) | (with_reducible refine Below.drew ?_) | (with_reducible refine below_drewN ?_ _) | (with_reducible refine Below.trans ?_ (Below.mono (Hid.out (by assumption)) ?_)) | omega | (simp; done) | (simp; omega))))).maps.inRow) (HRwdr.out.below (by (repeat' (first | (with_reducible exact Below.refl _ _) | (with_reducible refine Below.alloc ?_ ?_ _) | (with_reducible refine Below.setCell ?_ ?_ _) | (with_reducible refine Below.drew ?_) | (with_reducible refine below_drewN ?_ _) | (with_reducible refine Below.trans ?_ (Below.mono (Hid.out (by assumption)) ?_)) | omega | (simp; done) | (simp; omega))))).last (HRwas.out.below (by (repeat' (first | (with_reducible exact Below.refl _ _) | (with_reducible refine Below.alloc ?_ ?_ _) | (with_reducible refine Below.setCell ?_ ?_ _) | (with_reducible refine Below.drew ?_) | (with_reducible refine below_drewN ?_ _) | (with_reducible refine Below.trans ?_ (Below.mono (Hid.out (by assumption)) ?_)) | omega | (simp; done) | (simp; omega))))).last).mono ?_
    rintro e wdt ⟨rfl, hb⟩
    have hzwdt := hb.size
    (try simp at hzwdt)
    have hswdt : wb.heap.size ≤ wdt.heap.size := (by have := hb.size; (try simp at this); omega)
    have HBwdt := Lib.hid hb
    clear hb
    have HBX1wdt : Hid (wdt.heap[w.heap.size]? = some (.cells #[.slice a1 L.length c1, .int .i64 F, .slice b1 S.length d1] 25 (0, 0))) := Lib.hid (by (repeat' (first | omega | (rw [hdrew]) | (with_reducible assumption) | (with_reducible exact Hid.out (by assumption)) | (with_reducible rfl) | ((with_reducible refine halloc_at _ _ _ ?_) <;> (first | (with_reducible rfl) | omega | (simp; done))) | (with_reducible refine chain6 ?_) | (with_reducible refine Eq.trans (hset_ne _ _ _ _ ?_) ?_) | (with_reducible refine Eq.trans (halloc_lt _ _ _ ?_) ?_) | (with_reducible refine Eq.trans (Below.block (Hid.out (by assumption)) _ ?_) ?_) | (simp; done) | (simp; omega))))
    have HXX8wdt : Hid (wdt.heap[was.heap.size]? = some (.cells #[.slice awas RL.length cwas, .int .i64 RF, .slice bwas RS.length dwas] 30 (0, 0))) := Lib.hid (by (repeat' (first | omega | (rw [hdrew]) | (with_reducible assumption) | (with_reducible exact Hid.out (by assumption)) | (with_reducible rfl) | ((with_reducible refine halloc_at _ _ _ ?_) <;> (first | (with_reducible rfl) | omega | (simp; done))) | (with_reducible refine chain6 ?_) | (with_reducible refine Eq.trans (hset_ne _ _ _ _ ?_) ?_) | (with_reducible refine Eq.trans (halloc_lt _ _ _ ?_) ?_) | (with_reducible refine Eq.trans (Below.block (Hid.out (by assumption)) _ ?_) ?_) | (simp; done) | (simp; omega))))
    have hx8wdt : was.heap.size < wdt.heap.size := (Array.getElem?_eq_some_iff.1 HXX8wdt.out).1
    have HXX9wdt : Hid (wdt.heap[wbr.heap.size]? = some (.cells #[.slice awbr RL.length cwbr, .int .i64 RF, .slice bwbr RS.length dwbr] 30 (0, 0))) := Lib.hid (by (repeat' (first | omega | (rw [hdrew]) | (with_reducible assumption) | (with_reducible exact Hid.out (by assumption)) | (with_reducible rfl) | ((with_reducible refine halloc_at _ _ _ ?_) <;> (first | (with_reducible rfl) | omega | (simp; done))) | (with_reducible refine chain6 ?_) | (with_reducible refine Eq.trans (hset_ne _ _ _ _ ?_) ?_) | (with_reducible refine Eq.trans (halloc_lt _ _ _ ?_) ?_) | (with_reducible refine Eq.trans (Below.block (Hid.out (by assumption)) _ ?_) ?_) | (simp; done) | (simp; omega))))
    have hx9wdt : wbr.heap.size < wdt.heap.size := (Array.getElem?_eq_some_iff.1 HXX9wdt.out).1
    have HXX10wdt : Hid (wdt.heap[wdr.heap.size]? = some (.cells #[.slice awdr RL.length cwdr, .int .i64 RF, .slice bwdr RS.length dwdr] 30 (0, 0))) := Lib.hid (by (repeat' (first | omega | (rw [hdrew]) | (with_reducible assumption) | (with_reducible exact Hid.out (by assumption)) | (with_reducible rfl) | ((with_reducible refine halloc_at _ _ _ ?_) <;> (first | (with_reducible rfl) | omega | (simp; done))) | (with_reducible refine chain6 ?_) | (with_reducible refine Eq.trans (hset_ne _ _ _ _ ?_) ?_) | (with_reducible refine Eq.trans (halloc_lt _ _ _ ?_) ?_) | (with_reducible refine Eq.trans (Below.block (Hid.out (by assumption)) _ ?_) ?_) | (simp; done) | (simp; omega))))
    have hx10wdt : wdr.heap.size < wdt.heap.size := (Array.getElem?_eq_some_iff.1 HXX10wdt.out).1
    have f1wdt0 := Joins.cell_of_block HBX1wdt.out 0
    have f1wdt1 := Joins.cell_of_block HBX1wdt.out 1
    have f1wdt2 := Joins.cell_of_block HBX1wdt.out 2
    simp only [List.getElem?_toArray, List.getElem?_cons_zero, List.getElem?_cons_succ] at f1wdt0 f1wdt1 f1wdt2
    have x8wdt0 := Joins.cell_of_block HXX8wdt.out 0
    have x8wdt1 := Joins.cell_of_block HXX8wdt.out 1
    have x8wdt2 := Joins.cell_of_block HXX8wdt.out 2
    simp only [List.getElem?_toArray, List.getElem?_cons_zero, List.getElem?_cons_succ] at x8wdt0 x8wdt1 x8wdt2
    have x9wdt0 := Joins.cell_of_block HXX9wdt.out 0
    have x9wdt1 := Joins.cell_of_block HXX9wdt.out 1
    have x9wdt2 := Joins.cell_of_block HXX9wdt.out 2
    simp only [List.getElem?_toArray, List.getElem?_cons_zero, List.getElem?_cons_succ] at x9wdt0 x9wdt1 x9wdt2
    have x10wdt0 := Joins.cell_of_block HXX10wdt.out 0
    have x10wdt1 := Joins.cell_of_block HXX10wdt.out 1
    have x10wdt2 := Joins.cell_of_block HXX10wdt.out 2
    simp only [List.getElem?_toArray, List.getElem?_cons_zero, List.getElem?_cons_succ] at x10wdt0 x10wdt1 x10wdt2
    go_wp2_with fail
    refine (heldA_any RL.length RS.length RF awbr bwbr cwbr dwbr _ _ 1 (by decide) (by decide) HRM.out HRN.out _ (HMAwct.out.below (by (repeat' (first | (with_reducible exact Below.refl _ _) | (with_reducible refine Below.alloc ?_ ?_ _) | (with_reducible refine Below.setCell ?_ ?_ _) | (with_reducible refine Below.drew ?_) | (with_reducible refine below_drewN ?_ _) | (with_reducible refine Below.trans ?_ (Below.mono (Hid.out (by assumption)) ?_)) | omega | (simp; done) | (simp; omega))))) (HMBwct.out.below (by (repeat' (first | (with_reducible exact Below.refl _ _) | (with_reducible refine Below.alloc ?_ ?_ _) | (with_reducible refine Below.setCell ?_ ?_ _) | (with_reducible refine Below.drew ?_) | (with_reducible refine below_drewN ?_ _) | (with_reducible refine Below.trans ?_ (Below.mono (Hid.out (by assumption)) ?_)) | omega | (simp; done) | (simp; omega)))))).mono ?_
    rintro e wep ⟨rfl, hb⟩
    have hzwep := hb.size
    (try simp at hzwep)
    have hswep : wb.heap.size ≤ wep.heap.size := (by have := hb.size; (try simp at this); omega)
    have HBwep := Lib.hid hb
    clear hb
    have HBX1wep : Hid (wep.heap[w.heap.size]? = some (.cells #[.slice a1 L.length c1, .int .i64 F, .slice b1 S.length d1] 25 (0, 0))) := Lib.hid (by (repeat' (first | omega | (rw [hdrew]) | (with_reducible assumption) | (with_reducible exact Hid.out (by assumption)) | (with_reducible rfl) | ((with_reducible refine halloc_at _ _ _ ?_) <;> (first | (with_reducible rfl) | omega | (simp; done))) | (with_reducible refine chain6 ?_) | (with_reducible refine Eq.trans (hset_ne _ _ _ _ ?_) ?_) | (with_reducible refine Eq.trans (halloc_lt _ _ _ ?_) ?_) | (with_reducible refine Eq.trans (Below.block (Hid.out (by assumption)) _ ?_) ?_) | (simp; done) | (simp; omega))))
    have HXX8wep : Hid (wep.heap[was.heap.size]? = some (.cells #[.slice awas RL.length cwas, .int .i64 RF, .slice bwas RS.length dwas] 30 (0, 0))) := Lib.hid (by (repeat' (first | omega | (rw [hdrew]) | (with_reducible assumption) | (with_reducible exact Hid.out (by assumption)) | (with_reducible rfl) | ((with_reducible refine halloc_at _ _ _ ?_) <;> (first | (with_reducible rfl) | omega | (simp; done))) | (with_reducible refine chain6 ?_) | (with_reducible refine Eq.trans (hset_ne _ _ _ _ ?_) ?_) | (with_reducible refine Eq.trans (halloc_lt _ _ _ ?_) ?_) | (with_reducible refine Eq.trans (Below.block (Hid.out (by assumption)) _ ?_) ?_) | (simp; done) | (simp; omega))))
    have hx8wep : was.heap.size < wep.heap.size := (Array.getElem?_eq_some_iff.1 HXX8wep.out).1
    have HXX9wep : Hid (wep.heap[wbr.heap.size]? = some (.cells #[.slice awbr RL.length cwbr, .int .i64 RF, .slice bwbr RS.length dwbr] 30 (0, 0))) := Lib.hid (by (repeat' (first | omega | (rw [hdrew]) | (with_reducible assumption) | (with_reducible exact Hid.out (by assumption)) | (with_reducible rfl) | ((with_reducible refine halloc_at _ _ _ ?_) <;> (first | (with_reducible rfl) | omega | (simp; done))) | (with_reducible refine chain6 ?_) | (with_reducible refine Eq.trans (hset_ne _ _ _ _ ?_) ?_) | (with_reducible refine Eq.trans (halloc_lt _ _ _ ?_) ?_) | (with_reducible refine Eq.trans (Below.block (Hid.out (by assumption)) _ ?_) ?_) | (simp; done) | (simp; omega))))
    have hx9wep : wbr.heap.size < wep.heap.size := (Array.getElem?_eq_some_iff.1 HXX9wep.out).1
    have HXX10wep : Hid (wep.heap[wdr.heap.size]? = some (.cells #[.slice awdr RL.length cwdr, .int .i64 RF, .slice bwdr RS.length dwdr] 30 (0, 0))) := Lib.hid (by (repeat' (first | omega | (rw [hdrew]) | (with_reducible assumption) | (with_reducible exact Hid.out (by assumption)) | (with_reducible rfl) | ((with_reducible refine halloc_at _ _ _ ?_) <;> (first | (with_reducible rfl) | omega | (simp; done))) | (with_reducible refine chain6 ?_) | (with_reducible refine Eq.trans (hset_ne _ _ _ _ ?_) ?_) | (with_reducible refine Eq.trans (halloc_lt _ _ _ ?_) ?_) | (with_reducible refine Eq.trans (Below.block (Hid.out (by assumption)) _ ?_) ?_) | (simp; done) | (simp; omega))))
    have hx10wep : wdr.heap.size < wep.heap.size := (Array.getElem?_eq_some_iff.1 HXX10wep.out).1
    have f1wep0 := Joins.cell_of_block HBX1wep.out 0
    have f1wep1 := Joins.cell_of_block HBX1wep.out 1
    have f1wep2 := Joins.cell_of_block HBX1wep.out 2
    simp only [List.getElem?_toArray, List.getElem?_cons_zero, List.getElem?_cons_succ] at f1wep0 f1wep1 f1wep2
    have x8wep0 := Joins.cell_of_block HXX8wep.out 0
    have x8wep1 := Joins.cell_of_block HXX8wep.out 1
    have x8wep2 := Joins.cell_of_block HXX8wep.out 2
    simp only [List.getElem?_toArray, List.getElem?_cons_zero, List.getElem?_cons_succ] at x8wep0 x8wep1 x8wep2
    have x9wep0 := Joins.cell_of_block HXX9wep.out 0
    have x9wep1 := Joins.cell_of_block HXX9wep.out 1
    have x9wep2 := Joins.cell_of_block HXX9wep.out 2
    simp only [List.getElem?_toArray, List.getElem?_cons_zero, List.getElem?_cons_succ] at x9wep0 x9wep1 x9wep2
    have x10wep0 := Joins.cell_of_block HXX10wep.out 0
    have x10wep1 := Joins.cell_of_block HXX10wep.out 1
    have x10wep2 := Joins.cell_of_block HXX10wep.out 2
    simp only [List.getElem?_toArray, List.getElem?_cons_zero, List.getElem?_cons_succ] at x10wep0 x10wep1 x10wep2
    go_wp2_with fail
    go_ret
    refine ⟨rfl, ?_⟩
    have hall := HWB.out
    (repeat' (first | (with_reducible exact Below.refl _ _) | (with_reducible refine Below.alloc ?_ ?_ _) | (with_reducible refine Below.setCell ?_ ?_ _) | (with_reducible refine Below.drew ?_) | (with_reducible refine below_drewN ?_ _) | (with_reducible refine Below.trans ?_ (Below.mono (Hid.out (by assumption)) ?_)) | omega | (simp; done) | (simp; omega)))
  · have HNO := Lib.hid fun w => szA_no L.length S.length h41 h51 a1 b1 c1 d1 F (1048576) (by omega) (by omega) (by omega) w
    go_enter Try.func10, Try.ntmps10
    go_wp2_with fail
    rw [← hwb]
    refine (HNO.out _).mono ?_
    rintro e wz ⟨rfl, hb⟩
    have HZB := Lib.hid (HWB.out.trans (hb.mono (by omega)))
    clear hb
    go_wp2_with fail
    go_ret
    exact ⟨rfl, HZB.out⟩

end LFnExactComplementOf

namespace LFnExactComplementOf
set_option maxRecDepth 100000 in
theorem lifted (os : Os) (started : os.Started) (H : Type) (enc : TypeId × Value → H) :
    ReturnsInHanded {} Try.checked os 10 .any (Rows.fnExactComplementOfSpec.pre6 enc Try.prog Try.f10 Rows.fnExactComplementOfRow.domain false) (Rows.fnExactComplementOfSpec.post enc Try.prog Try.f10 false true false false) := by
  refine returnsInHanded_of_change (C := Try.checked) own started (by kernel_rfl) Try.func10
    (ChangeSpec.witness6 (enc := enc) (C := Try.checked) false ⟨#[], #[.agg #[.slice none 0 0, .int .i64 0, .slice none 0 0]], []⟩ 8 (by kernel_rfl) (by kernel_rfl) (by kernel_rfl) (by kernel_rfl)) ?_
  intro W base args ds gs before hval0 hW _ _
  have hval : ∀ (j : Nat) t v, Try.f10.params[j]? = some t → args[j]? = some v → Value.okWide Try.prog W .any base t v := hval0
  have hW' := hW
  obtain ⟨p, q, hA0, hV, rfl, hfz, hnd⟩ := hW
  have hA : DataW.TrodAll enc Try.prog W 0 (fun _ => true) true Try.f10.params.toList args.toList ds p := hA0
  rw [Try.params10] at hA hval
  obtain ⟨v0, vs0, d0, ds0, p0, q0, hargs, rfl, rfl, h0, r0⟩ := trodAll_cons hA
  obtain ⟨rfl, rfl, rfl⟩ := trodAll_nil r0
  obtain rfl : args = #[v0] := by cases args; simp_all
  obtain ⟨rfl, rfl⟩ := trodVars_none hV
  have k0 := h0
  have lt0 : ∀ x ∈ p0, x.block < W.heap.size := by obtain ⟨m, hm⟩ := k0; exact DataW.trod_lt m _ _ _ hm
  obtain ⟨a0, L0, c0, f0, b0, s0, e0, rfl, w0, x0, y0⟩ := open_acc (hval 0 25 v0 rfl rfl) h0
  clear hA0 hval0
  refine (ex_any W a0 L0 c0 f0 b0 s0 e0 w0 x0 y0).mono fun e W' ⟨he, bel⟩ => ?_
  subst he
  exact ⟨_, rfl, _, _, _, [], _, [], hW', trodAll_mk1 (shut_bool Try.underlying4 _), (trodAll_cons_mk (Below.trod laidOut (by kernel_rfl) (of_decide_eq_true (by kernel_rfl)) k0 bel lt0) trodAll_mk0), rfl, bel.frame _, fun h => by cases h⟩
theorem joined : joinedFacts Try.pinned.checked.prog 10 Try.f10 Rows.fnExactComplementOfSpec Rows.fnExactComplementOfRow = true := by
  unfold joinedFacts
  simp only [Bool.and_eq_true]
  repeat' apply And.intro
  iterate 25 kernel_rfl
  exact mk_enter
  exact mk_lifts
  exact mk_make
  iterate 4 kernel_rfl
theorem over : Rows.fnExactComplementOfRow.holds Try.pinned (OpenSpec.ofChange Rows.fnExactComplementOfSpec) :=
  OpenClaim.holds_of_wide 10 Try.f10 rfl rfl rfl rfl rfl rfl rfl ⟨rfl, rfl, rfl, rfl, rfl⟩ rfl rfl rfl rfl rfl (by kernel_rfl) Try.func10 joined
    (of_decide_eq_true (by kernel_rfl)) (by unfold Func.isWrapper; rw [if_neg (of_decide_eq_false (by kernel_rfl))]; exact ⟨rfl, rfl⟩)
    (fun os started H enc _ => lifted os started H enc)
/-- The statement of FnExactComplementOf. -/
theorem proved : Rows.FnExactComplementOfSaid := over
#print axioms proved
end LFnExactComplementOf

end Go.Proofs.Ytiakoplfknkhmaa
