/- The law FnExactFirstApart is true at every input: impl.FirstApart and spec.FirstApart give the same word and the same code, in memory of its own, and the acceptor that came in stays as it was. No conditions. -/
import Derived.Test.YtiakoplfknkhmaaMk
import Derived.Test.YtiakoplfknkhmaaFas
import Derived.Test.YtiakoplfknkhmaaFai
import Derived.Test.YtiakoplfknkhmaaAcs
namespace Go.Proofs.Ytiakoplfknkhmaa
open Go.ChangeShapes Go.WideShapes Go.ChangeAt Go.RowKit
namespace LFnExactFirstApart

set_option maxRecDepth 100000 in
set_option maxHeartbeats 8000000 in
theorem ex_any (w : World) (a1 : Option Addr) (L : List MapN) (c1 : Nat) (F : Int) (b1 : Option Addr) (S : List Int) (d1 : Nat) (hw1 : InAcc w a1 b1 c1 L S) (_ : (Lit.int .i64 F).wf = true) (_ : ∀ x ∈ S, (Lit.int .i64 x).wf = true) (x : Int) (_ : (Lit.int .i64 x).wf = true) (y : Int) (_ : (Lit.int .i64 y).wf = true) :
    Calls Try.prog 5 #[.agg #[.slice a1 L.length c1, .int .i64 F, .slice b1 S.length d1], .int .i64 x, .int .i64 y] w fun e w' => e = .returned (.bool true) ∧ Below w.heap.size w w' := by
  obtain ⟨h11, h21, _, h41, h51⟩ := hw1
  obtain ⟨wb, hwb⟩ : ∃ wb, wb = w.alloc (.cells #[.slice a1 L.length c1, .int .i64 F, .slice b1 S.length d1] 25) := ⟨_, rfl⟩
  have HBX1wb : Hid (wb.heap[w.heap.size]? = some (.cells #[.slice a1 L.length c1, .int .i64 F, .slice b1 S.length d1] 25 (0, 0))) := Lib.hid (by rw [hwb]; exact (halloc_at _ _ _ (by simp)))
  have hwz : w.heap.size + 1 ≤ wb.heap.size := by rw [hwb]; simp
  have HWB : Hid (Below w.heap.size w wb) := Lib.hid (by rw [hwb]; exact (Below.refl _ _).alloc (Nat.le_refl _) _)
  have HM1wb := Lib.hid (h11.below HWB.out)
  have HL1wb := Lib.hid (h21.below HWB.out)
  clear h11 h21
  by_cases hz1 : (L.length : Int) + S.length ≤ 1048576
  · have hng1 : ¬ (1048576 - (L.length : Int) - (S.length : Int) < 0) := by omega
    have HSZ1 := Lib.hid fun w => szA_ok L.length S.length a1 b1 c1 d1 F (1048576) (by omega) hz1 w
    have HCP1 := Lib.hid fun wx a b c d h1 h2 => toA_any L (by omega) F S (by omega) a b c d wx h1 h2
    have HS := fun w (g11 g12 : Nat) h11 h12 => sfapt_any L (by omega) F S (by omega) x y (some ⟨g11, 0, none⟩) (some ⟨g12, 0, none⟩) L.length S.length (fun e => by cases e) w h11 h12
    have HI := fun w (g11 g12 : Nat) h11 h12 => ifapt_any L (by omega) F S (by omega) x y (some ⟨g11, 0, none⟩) (some ⟨g12, 0, none⟩) L.length S.length (fun e => by cases e) w h11 h12
    generalize fapW L F S x y = R at *
    generalize fapC L F S x y = C at *
    have HS := Lib.hid HS
    have HI := Lib.hid HI
    go_enter Try.func5, Try.ntmps5
    go_wp2_with fail
    rw [← hwb]
    clear hwb
    have f1wb0 := Joins.cell_of_block HBX1wb.out 0
    have f1wb1 := Joins.cell_of_block HBX1wb.out 1
    have f1wb2 := Joins.cell_of_block HBX1wb.out 2
    simp only [List.getElem?_toArray, List.getElem?_cons_zero, List.getElem?_cons_succ] at f1wb0 f1wb1 f1wb2
    refine (HSZ1.out _).mono ?_
    rintro e waq ⟨rfl, hb⟩
    have hzwaq := hb.size
    (try simp at hzwaq)
    have hswaq : wb.heap.size ≤ waq.heap.size := (by have := hb.size; (try simp at this); omega)
    have HBwaq := Lib.hid hb
    clear hb
    have HBX1waq : Hid (waq.heap[w.heap.size]? = some (.cells #[.slice a1 L.length c1, .int .i64 F, .slice b1 S.length d1] 25 (0, 0))) := Lib.hid (by (repeat' (first | omega | (rw [hdrew]) | (with_reducible assumption) | (with_reducible exact Hid.out (by assumption)) | (with_reducible rfl) | ((with_reducible refine halloc_at _ _ _ ?_) <;> (first | (with_reducible rfl) | omega | (simp; done))) | (with_reducible refine chain6 ?_) | (with_reducible refine Eq.trans (hset_ne _ _ _ _ ?_) ?_) | (with_reducible refine Eq.trans (halloc_lt _ _ _ ?_) ?_) | (with_reducible refine Eq.trans (Below.block (Hid.out (by assumption)) _ ?_) ?_) | (simp; done) | (simp; omega))))
    have f1waq0 := Joins.cell_of_block HBX1waq.out 0
    have f1waq1 := Joins.cell_of_block HBX1waq.out 1
    have f1waq2 := Joins.cell_of_block HBX1waq.out 2
    simp only [List.getElem?_toArray, List.getElem?_cons_zero, List.getElem?_cons_succ] at f1waq0 f1waq1 f1waq2
    go_wp2_with fail
    refine (HCP1.out _ a1 b1 c1 d1 (HM1wb.out.below (by (repeat' (first | (with_reducible exact Below.refl _ _) | (with_reducible refine Below.alloc ?_ ?_ _) | (with_reducible refine Below.setCell ?_ ?_ _) | (with_reducible refine Below.drew ?_) | (with_reducible refine below_drewN ?_ _) | (with_reducible refine Below.trans ?_ (Below.mono (Hid.out (by assumption)) ?_)) | omega | (simp; done) | (simp; omega))))) (HL1wb.out.below (by (repeat' (first | (with_reducible exact Below.refl _ _) | (with_reducible refine Below.alloc ?_ ?_ _) | (with_reducible refine Below.setCell ?_ ?_ _) | (with_reducible refine Below.drew ?_) | (with_reducible refine below_drewN ?_ _) | (with_reducible refine Below.trans ?_ (Below.mono (Hid.out (by assumption)) ?_)) | omega | (simp; done) | (simp; omega)))))).mono ?_
    rintro e war ⟨gwar1, gwar2, rfl, hcop, hb⟩
    have HCwar := Lib.hid hcop
    have hlowar := hcop.lo
    have hltwar := hcop.lt
    have hhiwar := hcop.hi
    (try simp at hlowar)
    clear hcop
    have hzwar := hb.size
    (try simp at hzwar)
    have hswar : wb.heap.size ≤ war.heap.size := (by have := hb.size; (try simp at this); omega)
    have HBwar := Lib.hid hb
    clear hb
    have HBX1war : Hid (war.heap[w.heap.size]? = some (.cells #[.slice a1 L.length c1, .int .i64 F, .slice b1 S.length d1] 25 (0, 0))) := Lib.hid (by (repeat' (first | omega | (rw [hdrew]) | (with_reducible assumption) | (with_reducible exact Hid.out (by assumption)) | (with_reducible rfl) | ((with_reducible refine halloc_at _ _ _ ?_) <;> (first | (with_reducible rfl) | omega | (simp; done))) | (with_reducible refine chain6 ?_) | (with_reducible refine Eq.trans (hset_ne _ _ _ _ ?_) ?_) | (with_reducible refine Eq.trans (halloc_lt _ _ _ ?_) ?_) | (with_reducible refine Eq.trans (Below.block (Hid.out (by assumption)) _ ?_) ?_) | (simp; done) | (simp; omega))))
    have f1war0 := Joins.cell_of_block HBX1war.out 0
    have f1war1 := Joins.cell_of_block HBX1war.out 1
    have f1war2 := Joins.cell_of_block HBX1war.out 2
    simp only [List.getElem?_toArray, List.getElem?_cons_zero, List.getElem?_cons_succ] at f1war0 f1war1 f1war2
    go_wp2_with fail
    refine (HS.out _ _ _ ((HCwar.out.below (by (repeat' (first | (with_reducible exact Below.refl _ _) | (with_reducible refine Below.alloc ?_ ?_ _) | (with_reducible refine Below.setCell ?_ ?_ _) | (with_reducible refine Below.drew ?_) | (with_reducible refine below_drewN ?_ _) | (with_reducible refine Below.trans ?_ (Below.mono (Hid.out (by assumption)) ?_)) | omega | (simp; done) | (simp; omega))))).maps.inRow) ((HCwar.out.below (by (repeat' (first | (with_reducible exact Below.refl _ _) | (with_reducible refine Below.alloc ?_ ?_ _) | (with_reducible refine Below.setCell ?_ ?_ _) | (with_reducible refine Below.drew ?_) | (with_reducible refine below_drewN ?_ _) | (with_reducible refine Below.trans ?_ (Below.mono (Hid.out (by assumption)) ?_)) | omega | (simp; done) | (simp; omega))))).last.inRow)).mono ?_
    rintro e was ⟨awas, cwas, rfl, hr, hb⟩
    have HRwas := Lib.hid hr
    clear hr
    have hzwas := hb.size
    (try simp at hzwas)
    have hswas : wb.heap.size ≤ was.heap.size := (by have := hb.size; (try simp at this); omega)
    have HBwas := Lib.hid hb
    clear hb
    have HBX1was : Hid (was.heap[w.heap.size]? = some (.cells #[.slice a1 L.length c1, .int .i64 F, .slice b1 S.length d1] 25 (0, 0))) := Lib.hid (by (repeat' (first | omega | (rw [hdrew]) | (with_reducible assumption) | (with_reducible exact Hid.out (by assumption)) | (with_reducible rfl) | ((with_reducible refine halloc_at _ _ _ ?_) <;> (first | (with_reducible rfl) | omega | (simp; done))) | (with_reducible refine chain6 ?_) | (with_reducible refine Eq.trans (hset_ne _ _ _ _ ?_) ?_) | (with_reducible refine Eq.trans (halloc_lt _ _ _ ?_) ?_) | (with_reducible refine Eq.trans (Below.block (Hid.out (by assumption)) _ ?_) ?_) | (simp; done) | (simp; omega))))
    have f1was0 := Joins.cell_of_block HBX1was.out 0
    have f1was1 := Joins.cell_of_block HBX1was.out 1
    have f1was2 := Joins.cell_of_block HBX1was.out 2
    simp only [List.getElem?_toArray, List.getElem?_cons_zero, List.getElem?_cons_succ] at f1was0 f1was1 f1was2
    go_wp2_with fail
    refine (HCP1.out _ a1 b1 c1 d1 (HM1wb.out.below (by (repeat' (first | (with_reducible exact Below.refl _ _) | (with_reducible refine Below.alloc ?_ ?_ _) | (with_reducible refine Below.setCell ?_ ?_ _) | (with_reducible refine Below.drew ?_) | (with_reducible refine below_drewN ?_ _) | (with_reducible refine Below.trans ?_ (Below.mono (Hid.out (by assumption)) ?_)) | omega | (simp; done) | (simp; omega))))) (HL1wb.out.below (by (repeat' (first | (with_reducible exact Below.refl _ _) | (with_reducible refine Below.alloc ?_ ?_ _) | (with_reducible refine Below.setCell ?_ ?_ _) | (with_reducible refine Below.drew ?_) | (with_reducible refine below_drewN ?_ _) | (with_reducible refine Below.trans ?_ (Below.mono (Hid.out (by assumption)) ?_)) | omega | (simp; done) | (simp; omega)))))).mono ?_
    rintro e wat ⟨gwat1, gwat2, rfl, hcop, hb⟩
    have HCwat := Lib.hid hcop
    have hlowat := hcop.lo
    have hltwat := hcop.lt
    have hhiwat := hcop.hi
    (try simp at hlowat)
    clear hcop
    have hzwat := hb.size
    (try simp at hzwat)
    have hswat : wb.heap.size ≤ wat.heap.size := (by have := hb.size; (try simp at this); omega)
    have HBwat := Lib.hid hb
    clear hb
    have HBX1wat : Hid (wat.heap[w.heap.size]? = some (.cells #[.slice a1 L.length c1, .int .i64 F, .slice b1 S.length d1] 25 (0, 0))) := Lib.hid (by (repeat' (first | omega | (rw [hdrew]) | (with_reducible assumption) | (with_reducible exact Hid.out (by assumption)) | (with_reducible rfl) | ((with_reducible refine halloc_at _ _ _ ?_) <;> (first | (with_reducible rfl) | omega | (simp; done))) | (with_reducible refine chain6 ?_) | (with_reducible refine Eq.trans (hset_ne _ _ _ _ ?_) ?_) | (with_reducible refine Eq.trans (halloc_lt _ _ _ ?_) ?_) | (with_reducible refine Eq.trans (Below.block (Hid.out (by assumption)) _ ?_) ?_) | (simp; done) | (simp; omega))))
    have f1wat0 := Joins.cell_of_block HBX1wat.out 0
    have f1wat1 := Joins.cell_of_block HBX1wat.out 1
    have f1wat2 := Joins.cell_of_block HBX1wat.out 2
    simp only [List.getElem?_toArray, List.getElem?_cons_zero, List.getElem?_cons_succ] at f1wat0 f1wat1 f1wat2
    go_wp2_with fail
    refine (HI.out _ _ _ ((HCwat.out.below (by (repeat' (first | (with_reducible exact Below.refl _ _) | (with_reducible refine Below.alloc ?_ ?_ _) | (with_reducible refine Below.setCell ?_ ?_ _) | (with_reducible refine Below.drew ?_) | (with_reducible refine below_drewN ?_ _) | (with_reducible refine Below.trans ?_ (Below.mono (Hid.out (by assumption)) ?_)) | omega | (simp; done) | (simp; omega))))).maps.inRow) ((HCwat.out.below (by (repeat' (first | (with_reducible exact Below.refl _ _) | (with_reducible refine Below.alloc ?_ ?_ _) | (with_reducible refine Below.setCell ?_ ?_ _) | (with_reducible refine Below.drew ?_) | (with_reducible refine below_drewN ?_ _) | (with_reducible refine Below.trans ?_ (Below.mono (Hid.out (by assumption)) ?_)) | omega | (simp; done) | (simp; omega))))).last.inRow)).mono ?_
    rintro e wbp ⟨awbp, cwbp, rfl, hr, hb⟩
    have HRwbp := Lib.hid hr
    clear hr
    have hzwbp := hb.size
    (try simp at hzwbp)
    have hswbp : wb.heap.size ≤ wbp.heap.size := (by have := hb.size; (try simp at this); omega)
    have HBwbp := Lib.hid hb
    clear hb
    have HBX1wbp : Hid (wbp.heap[w.heap.size]? = some (.cells #[.slice a1 L.length c1, .int .i64 F, .slice b1 S.length d1] 25 (0, 0))) := Lib.hid (by (repeat' (first | omega | (rw [hdrew]) | (with_reducible assumption) | (with_reducible exact Hid.out (by assumption)) | (with_reducible rfl) | ((with_reducible refine halloc_at _ _ _ ?_) <;> (first | (with_reducible rfl) | omega | (simp; done))) | (with_reducible refine chain6 ?_) | (with_reducible refine Eq.trans (hset_ne _ _ _ _ ?_) ?_) | (with_reducible refine Eq.trans (halloc_lt _ _ _ ?_) ?_) | (with_reducible refine Eq.trans (Below.block (Hid.out (by assumption)) _ ?_) ?_) | (simp; done) | (simp; omega))))
    have HXX1wbp : Hid (wbp.heap[wat.heap.size]? = some (.cells #[.slice (some ⟨gwat1, 0, none⟩) L.length L.length, .int .i64 F, .slice (some ⟨gwat2, 0, none⟩) S.length S.length] 30 (0, 0))) := Lib.hid (by (repeat' (first | omega | (rw [hdrew]) | (with_reducible assumption) | (with_reducible exact Hid.out (by assumption)) | (with_reducible rfl) | ((with_reducible refine halloc_at _ _ _ ?_) <;> (first | (with_reducible rfl) | omega | (simp; done))) | (with_reducible refine chain6 ?_) | (with_reducible refine Eq.trans (hset_ne _ _ _ _ ?_) ?_) | (with_reducible refine Eq.trans (halloc_lt _ _ _ ?_) ?_) | (with_reducible refine Eq.trans (Below.block (Hid.out (by assumption)) _ ?_) ?_) | (simp; done) | (simp; omega))))
    have hx1wbp : wat.heap.size < wbp.heap.size := (Array.getElem?_eq_some_iff.1 HXX1wbp.out).1
    have f1wbp0 := Joins.cell_of_block HBX1wbp.out 0
    have f1wbp1 := Joins.cell_of_block HBX1wbp.out 1
    have f1wbp2 := Joins.cell_of_block HBX1wbp.out 2
    simp only [List.getElem?_toArray, List.getElem?_cons_zero, List.getElem?_cons_succ] at f1wbp0 f1wbp1 f1wbp2
    have x1wbp0 := Joins.cell_of_block HXX1wbp.out 0
    have x1wbp1 := Joins.cell_of_block HXX1wbp.out 1
    have x1wbp2 := Joins.cell_of_block HXX1wbp.out 2
    simp only [List.getElem?_toArray, List.getElem?_cons_zero, List.getElem?_cons_succ] at x1wbp0 x1wbp1 x1wbp2
    have hgwbp : wat.heap.size < wbp.heap.size := (by have := HBwbp.out.size; (try simp at this); omega)
    go_wp2_with fail
    refine (eqS_same R awbp awas cwbp cwas _ _ _ (HRwbp.out.below (by (repeat' (first | (with_reducible exact Below.refl _ _) | (with_reducible refine Below.alloc ?_ ?_ _) | (with_reducible refine Below.setCell ?_ ?_ _) | (with_reducible refine Below.drew ?_) | (with_reducible refine below_drewN ?_ _) | (with_reducible refine Below.trans ?_ (Below.mono (Hid.out (by assumption)) ?_)) | omega | (simp; done) | (simp; omega))))) (HRwas.out.below (by (repeat' (first | (with_reducible exact Below.refl _ _) | (with_reducible refine Below.alloc ?_ ?_ _) | (with_reducible refine Below.setCell ?_ ?_ _) | (with_reducible refine Below.drew ?_) | (with_reducible refine below_drewN ?_ _) | (with_reducible refine Below.trans ?_ (Below.mono (Hid.out (by assumption)) ?_)) | omega | (simp; done) | (simp; omega)))))).mono ?_
    rintro e wbq ⟨rfl, hb⟩
    have hzwbq := hb.size
    (try simp at hzwbq)
    have hswbq : wb.heap.size ≤ wbq.heap.size := (by have := hb.size; (try simp at this); omega)
    have HBwbq := Lib.hid hb
    clear hb
    have HBX1wbq : Hid (wbq.heap[w.heap.size]? = some (.cells #[.slice a1 L.length c1, .int .i64 F, .slice b1 S.length d1] 25 (0, 0))) := Lib.hid (by (repeat' (first | omega | (rw [hdrew]) | (with_reducible assumption) | (with_reducible exact Hid.out (by assumption)) | (with_reducible rfl) | ((with_reducible refine halloc_at _ _ _ ?_) <;> (first | (with_reducible rfl) | omega | (simp; done))) | (with_reducible refine chain6 ?_) | (with_reducible refine Eq.trans (hset_ne _ _ _ _ ?_) ?_) | (with_reducible refine Eq.trans (halloc_lt _ _ _ ?_) ?_) | (with_reducible refine Eq.trans (Below.block (Hid.out (by assumption)) _ ?_) ?_) | (simp; done) | (simp; omega))))
    have HXX1wbq : Hid (wbq.heap[wat.heap.size]? = some (.cells #[.slice (some ⟨gwat1, 0, none⟩) L.length L.length, .int .i64 F, .slice (some ⟨gwat2, 0, none⟩) S.length S.length] 30 (0, 0))) := Lib.hid (by (repeat' (first | omega | (rw [hdrew]) | (with_reducible assumption) | (with_reducible exact Hid.out (by assumption)) | (with_reducible rfl) | ((with_reducible refine halloc_at _ _ _ ?_) <;> (first | (with_reducible rfl) | omega | (simp; done))) | (with_reducible refine chain6 ?_) | (with_reducible refine Eq.trans (hset_ne _ _ _ _ ?_) ?_) | (with_reducible refine Eq.trans (halloc_lt _ _ _ ?_) ?_) | (with_reducible refine Eq.trans (Below.block (Hid.out (by assumption)) _ ?_) ?_) | (simp; done) | (simp; omega))))
    have hx1wbq : wat.heap.size < wbq.heap.size := (Array.getElem?_eq_some_iff.1 HXX1wbq.out).1
    have f1wbq0 := Joins.cell_of_block HBX1wbq.out 0
    have f1wbq1 := Joins.cell_of_block HBX1wbq.out 1
    have f1wbq2 := Joins.cell_of_block HBX1wbq.out 2
    simp only [List.getElem?_toArray, List.getElem?_cons_zero, List.getElem?_cons_succ] at f1wbq0 f1wbq1 f1wbq2
    have x1wbq0 := Joins.cell_of_block HXX1wbq.out 0
    have x1wbq1 := Joins.cell_of_block HXX1wbq.out 1
    have x1wbq2 := Joins.cell_of_block HXX1wbq.out 2
    simp only [List.getElem?_toArray, List.getElem?_cons_zero, List.getElem?_cons_succ] at x1wbq0 x1wbq1 x1wbq2
    go_wp2_with fail
    obtain ⟨wg1, hwg⟩ : ∃ z : World, z = wbq := ⟨_, rfl⟩
    have HQ := Lib.hid (HCwat.out.below (w' := wbq) (by (repeat' (first | (with_reducible exact Below.refl _ _) | (with_reducible refine Below.alloc ?_ ?_ _) | (with_reducible refine Below.setCell ?_ ?_ _) | (with_reducible refine Below.drew ?_) | (with_reducible refine below_drewN ?_ _) | (with_reducible refine Below.trans ?_ (Below.mono (Hid.out (by assumption)) ?_)) | omega | (simp; done) | (simp; omega)))))
    have r0 : ∀ z, Below wbq.heap.size wbq z → z.cell? ⟨w.heap.size, 0, none⟩ = _ := fun z h => (h.cell (p := ⟨w.heap.size, 0, none⟩) (show w.heap.size < _ by omega)).trans f1wbq0
    have r1 : ∀ z, Below wbq.heap.size wbq z → z.cell? ⟨w.heap.size, 1, none⟩ = _ := fun z h => (h.cell (p := ⟨w.heap.size, 1, none⟩) (show w.heap.size < _ by omega)).trans f1wbq1
    have r2 : ∀ z, Below wbq.heap.size wbq z → z.cell? ⟨w.heap.size, 2, none⟩ = _ := fun z h => (h.cell (p := ⟨w.heap.size, 2, none⟩) (show w.heap.size < _ by omega)).trans f1wbq2
    have s0 : ∀ z, Below wbq.heap.size wbq z → z.cell? ⟨wat.heap.size, 0, none⟩ = _ := fun z h => (h.cell (p := ⟨wat.heap.size, 0, none⟩) (show wat.heap.size < _ by omega)).trans x1wbq0
    have s1 : ∀ z, Below wbq.heap.size wbq z → z.cell? ⟨wat.heap.size, 1, none⟩ = _ := fun z h => (h.cell (p := ⟨wat.heap.size, 1, none⟩) (show wat.heap.size < _ by omega)).trans x1wbq1
    have s2 : ∀ z, Below wbq.heap.size wbq z → z.cell? ⟨wat.heap.size, 2, none⟩ = _ := fun z h => (h.cell (p := ⟨wat.heap.size, 2, none⟩) (show wat.heap.size < _ by omega)).trans x1wbq2
    clear hwg
    have HMI := Lib.hid fun z (_ : Hid (Below wbq.heap.size wbq z)) => HM1wb.out.below (w' := z) (by (repeat' (first | (with_reducible exact Below.refl _ _) | (with_reducible refine Below.alloc ?_ ?_ _) | (with_reducible refine Below.setCell ?_ ?_ _) | (with_reducible refine Below.drew ?_) | (with_reducible refine below_drewN ?_ _) | (with_reducible refine Below.trans ?_ (Below.mono (Hid.out (by assumption)) ?_)) | omega | (simp; done) | (simp; omega))))
    have HLI := Lib.hid fun z (_ : Hid (Below wbq.heap.size wbq z)) => HL1wb.out.below (w' := z) (by (repeat' (first | (with_reducible exact Below.refl _ _) | (with_reducible refine Below.alloc ?_ ?_ _) | (with_reducible refine Below.setCell ?_ ?_ _) | (with_reducible refine Below.drew ?_) | (with_reducible refine below_drewN ?_ _) | (with_reducible refine Below.trans ?_ (Below.mono (Hid.out (by assumption)) ?_)) | omega | (simp; done) | (simp; omega))))
    go_region_held3 (fun w' => Below wbq.heap.size wbq w') (first | (with_reducible assumption) | ((repeat' (first | (with_reducible exact Below.refl _ _) | (with_reducible refine Below.alloc ?_ ?_ _) | (with_reducible refine Below.setCell ?_ ?_ _) | (with_reducible refine Below.drew ?_) | (with_reducible refine below_drewN ?_ _) | (with_reducible refine Below.trans ?_ (Below.mono (Hid.out (by assumption)) ?_)) | omega | (simp; done) | (simp; omega))); done)) (first
      | (go_at_call 13; (with_reducible refine (HCP1.out _ a1 b1 c1 d1 (HMI.out _ (Lib.hid (by (repeat' (first | (with_reducible exact Below.refl _ _) | (with_reducible refine Below.alloc ?_ ?_ _) | (with_reducible refine Below.setCell ?_ ?_ _) | (with_reducible refine Below.drew ?_) | (with_reducible refine below_drewN ?_ _) | (with_reducible refine Below.trans ?_ (Below.mono (Hid.out (by assumption)) ?_)) | omega | (simp; done) | (simp; omega)))))) (HLI.out _ (Lib.hid (by (repeat' (first | (with_reducible exact Below.refl _ _) | (with_reducible refine Below.alloc ?_ ?_ _) | (with_reducible refine Below.setCell ?_ ?_ _) | (with_reducible refine Below.drew ?_) | (with_reducible refine below_drewN ?_ _) | (with_reducible refine Below.trans ?_ (Below.mono (Hid.out (by assumption)) ?_)) | omega | (simp; done) | (simp; omega))))))).mono ?_); rintro e wbr ⟨g3, g4, rfl, hcop, hb⟩; have HCY := Lib.hid hcop; have hy1 := hcop.lo; have hzwbr := hb.size; (try simp at hy1 hzwbr); have HBwbr := Lib.hid hb; clear hb hcop)
      | (go_at_call 15; (with_reducible refine (eqA_same L F S (by omega) _ _ _ _ _ _ _ _ _ _ _ ((HQ.out.below (by (repeat' (first | (with_reducible exact Below.refl _ _) | (with_reducible refine Below.alloc ?_ ?_ _) | (with_reducible refine Below.setCell ?_ ?_ _) | (with_reducible refine Below.drew ?_) | (with_reducible refine below_drewN ?_ _) | (with_reducible refine Below.trans ?_ (Below.mono (Hid.out (by assumption)) ?_)) | omega | (simp; done) | (simp; omega))))).maps.inRow) ((HCY.out.below (by (repeat' (first | (with_reducible exact Below.refl _ _) | (with_reducible refine Below.alloc ?_ ?_ _) | (with_reducible refine Below.setCell ?_ ?_ _) | (with_reducible refine Below.drew ?_) | (with_reducible refine below_drewN ?_ _) | (with_reducible refine Below.trans ?_ (Below.mono (Hid.out (by assumption)) ?_)) | omega | (simp; done) | (simp; omega))))).maps.inRow) (HQ.out.below (by (repeat' (first | (with_reducible exact Below.refl _ _) | (with_reducible refine Below.alloc ?_ ?_ _) | (with_reducible refine Below.setCell ?_ ?_ _) | (with_reducible refine Below.drew ?_) | (with_reducible refine below_drewN ?_ _) | (with_reducible refine Below.trans ?_ (Below.mono (Hid.out (by assumption)) ?_)) | omega | (simp; done) | (simp; omega))))).last (HCY.out.below (by (repeat' (first | (with_reducible exact Below.refl _ _) | (with_reducible refine Below.alloc ?_ ?_ _) | (with_reducible refine Below.setCell ?_ ?_ _) | (with_reducible refine Below.drew ?_) | (with_reducible refine below_drewN ?_ _) | (with_reducible refine Below.trans ?_ (Below.mono (Hid.out (by assumption)) ?_)) | omega | (simp; done) | (simp; omega))))).last).mono ?_); rintro e wbs ⟨rfl, hb⟩; have hzwbs := hb.size; (try simp at hzwbs); have HBwbs := Lib.hid hb; clear hb))
    clear r0 r1 r2 s0 s1 s2
    have hswbs : wb.heap.size ≤ wbs.heap.size := (by (try simp at hzwbr hzwbs); omega)
    have HBX1wbs : Hid (wbs.heap[w.heap.size]? = some (.cells #[.slice a1 L.length c1, .int .i64 F, .slice b1 S.length d1] 25 (0, 0))) := Lib.hid (by (repeat' (first | omega | (rw [hdrew]) | (with_reducible assumption) | (with_reducible exact Hid.out (by assumption)) | (with_reducible rfl) | ((with_reducible refine halloc_at _ _ _ ?_) <;> (first | (with_reducible rfl) | omega | (simp; done))) | (with_reducible refine chain6 ?_) | (with_reducible refine Eq.trans (hset_ne _ _ _ _ ?_) ?_) | (with_reducible refine Eq.trans (halloc_lt _ _ _ ?_) ?_) | (with_reducible refine Eq.trans (Below.block (Hid.out (by assumption)) _ ?_) ?_) | (simp; done) | (simp; omega))))
    have HXX1wbs : Hid (wbs.heap[wat.heap.size]? = some (.cells #[.slice (some ⟨gwat1, 0, none⟩) L.length L.length, .int .i64 F, .slice (some ⟨gwat2, 0, none⟩) S.length S.length] 30 (0, 0))) := Lib.hid (by (repeat' (first | omega | (rw [hdrew]) | (with_reducible assumption) | (with_reducible exact Hid.out (by assumption)) | (with_reducible rfl) | ((with_reducible refine halloc_at _ _ _ ?_) <;> (first | (with_reducible rfl) | omega | (simp; done))) | (with_reducible refine chain6 ?_) | (with_reducible refine Eq.trans (hset_ne _ _ _ _ ?_) ?_) | (with_reducible refine Eq.trans (halloc_lt _ _ _ ?_) ?_) | (with_reducible refine Eq.trans (Below.block (Hid.out (by assumption)) _ ?_) ?_) | (simp; done) | (simp; omega))))
    have hx1wbs : wat.heap.size < wbs.heap.size := (Array.getElem?_eq_some_iff.1 HXX1wbs.out).1
    have f1wbs0 := Joins.cell_of_block HBX1wbs.out 0
    have f1wbs1 := Joins.cell_of_block HBX1wbs.out 1
    have f1wbs2 := Joins.cell_of_block HBX1wbs.out 2
    simp only [List.getElem?_toArray, List.getElem?_cons_zero, List.getElem?_cons_succ] at f1wbs0 f1wbs1 f1wbs2
    have x1wbs0 := Joins.cell_of_block HXX1wbs.out 0
    have x1wbs1 := Joins.cell_of_block HXX1wbs.out 1
    have x1wbs2 := Joins.cell_of_block HXX1wbs.out 2
    simp only [List.getElem?_toArray, List.getElem?_cons_zero, List.getElem?_cons_succ] at x1wbs0 x1wbs1 x1wbs2
    go_wp2_with fail
    have HQwbt := Lib.hid (HCwat.out.below (w' := wbs) (by (repeat' (first | (with_reducible exact Below.refl _ _) | (with_reducible refine Below.alloc ?_ ?_ _) | (with_reducible refine Below.setCell ?_ ?_ _) | (with_reducible refine Below.drew ?_) | (with_reducible refine below_drewN ?_ _) | (with_reducible refine Below.trans ?_ (Below.mono (Hid.out (by assumption)) ?_)) | omega | (simp; done) | (simp; omega)))))
    have HGwbt := Lib.hid ((HRwbp.out.below (w' := wbs) (by (repeat' (first | (with_reducible exact Below.refl _ _) | (with_reducible refine Below.alloc ?_ ?_ _) | (with_reducible refine Below.setCell ?_ ?_ _) | (with_reducible refine Below.drew ?_) | (with_reducible refine below_drewN ?_ _) | (with_reducible refine Below.trans ?_ (Below.mono (Hid.out (by assumption)) ?_)) | omega | (simp; done) | (simp; omega))))).mono (show gwat2 + 1 ≤ _ by (simp; omega)))
    refine (markA_any L F S _ _ L.length S.length _ _ (1) (by omega) (by omega) (by omega) (by omega) _ (fun k e => by injection e with e; injection e with e; exact ⟨by (have := HQwbt.out.hi; have := HQwbt.out.lt; omega), fun e2 => by injection e2 with e2; injection e2 with e2; have := HQwbt.out.lt; omega⟩) HQwbt.out.maps HQwbt.out.last).mono ?_
    rintro e wbt ⟨rfl, _, _, ht⟩
    have hnrwbt : ∀ k, gwat2 + 1 ≤ k → ¬ (some ⟨gwat1, 0, none⟩ = (some ⟨k, 0, none⟩ : Option Addr) ∨ some ⟨gwat2, 0, none⟩ = (some ⟨k, 0, none⟩ : Option Addr)) := fun k hk h => by rcases h with h | h <;> (injection h with h; injection h with h; omega)
    have hb : Below gwat1 wbs wbt := ht.bel (fun k hk h => by rcases h with h | h <;> (injection h with h; injection h with h; omega))
    have HRwbt := Lib.hid (HGwbt.out.turnA ht (fun k hk _ => hnrwbt k (by omega)))
    have hswbt : wb.heap.size ≤ wbt.heap.size := (by have := ht.size; (try simp at this); omega)
    have hzwbt := ht.size
    (try simp at hzwbt)
    have HBwbt := Lib.hid hb
    clear hb ht hnrwbt HQwbt HGwbt
    have HBX1wbt : Hid (wbt.heap[w.heap.size]? = some (.cells #[.slice a1 L.length c1, .int .i64 F, .slice b1 S.length d1] 25 (0, 0))) := Lib.hid (by (repeat' (first | omega | (rw [hdrew]) | (with_reducible assumption) | (with_reducible exact Hid.out (by assumption)) | (with_reducible rfl) | ((with_reducible refine halloc_at _ _ _ ?_) <;> (first | (with_reducible rfl) | omega | (simp; done))) | (with_reducible refine chain6 ?_) | (with_reducible refine Eq.trans (hset_ne _ _ _ _ ?_) ?_) | (with_reducible refine Eq.trans (halloc_lt _ _ _ ?_) ?_) | (with_reducible refine Eq.trans (Below.block (Hid.out (by assumption)) _ ?_) ?_) | (simp; done) | (simp; omega))))
    have f1wbt0 := Joins.cell_of_block HBX1wbt.out 0
    have f1wbt1 := Joins.cell_of_block HBX1wbt.out 1
    have f1wbt2 := Joins.cell_of_block HBX1wbt.out 2
    simp only [List.getElem?_toArray, List.getElem?_cons_zero, List.getElem?_cons_succ] at f1wbt0 f1wbt1 f1wbt2
    have hqwbt : (1 + 6 * (L.length : Int) + (S.length : Int) < 0) = False := by simp; omega
    go_wp2_with fail
    refine (eqS_same R awbp awas cwbp cwas _ _ _ (HRwbt.out.below (by (repeat' (first | (with_reducible exact Below.refl _ _) | (with_reducible refine Below.alloc ?_ ?_ _) | (with_reducible refine Below.setCell ?_ ?_ _) | (with_reducible refine Below.drew ?_) | (with_reducible refine below_drewN ?_ _) | (with_reducible refine Below.trans ?_ (Below.mono (Hid.out (by assumption)) ?_)) | omega | (simp; done) | (simp; omega))))) (HRwas.out.below (by (repeat' (first | (with_reducible exact Below.refl _ _) | (with_reducible refine Below.alloc ?_ ?_ _) | (with_reducible refine Below.setCell ?_ ?_ _) | (with_reducible refine Below.drew ?_) | (with_reducible refine below_drewN ?_ _) | (with_reducible refine Below.trans ?_ (Below.mono (Hid.out (by assumption)) ?_)) | omega | (simp; done) | (simp; omega)))))).mono ?_
    rintro e wcp ⟨rfl, hb⟩
    have hzwcp := hb.size
    (try simp at hzwcp)
    have hswcp : wb.heap.size ≤ wcp.heap.size := (by have := hb.size; (try simp at this); omega)
    have HBwcp := Lib.hid hb
    clear hb
    have HBX1wcp : Hid (wcp.heap[w.heap.size]? = some (.cells #[.slice a1 L.length c1, .int .i64 F, .slice b1 S.length d1] 25 (0, 0))) := Lib.hid (by (repeat' (first | omega | (rw [hdrew]) | (with_reducible assumption) | (with_reducible exact Hid.out (by assumption)) | (with_reducible rfl) | ((with_reducible refine halloc_at _ _ _ ?_) <;> (first | (with_reducible rfl) | omega | (simp; done))) | (with_reducible refine chain6 ?_) | (with_reducible refine Eq.trans (hset_ne _ _ _ _ ?_) ?_) | (with_reducible refine Eq.trans (halloc_lt _ _ _ ?_) ?_) | (with_reducible refine Eq.trans (Below.block (Hid.out (by assumption)) _ ?_) ?_) | (simp; done) | (simp; omega))))
    have f1wcp0 := Joins.cell_of_block HBX1wcp.out 0
    have f1wcp1 := Joins.cell_of_block HBX1wcp.out 1
    have f1wcp2 := Joins.cell_of_block HBX1wcp.out 2
    simp only [List.getElem?_toArray, List.getElem?_cons_zero, List.getElem?_cons_succ] at f1wcp0 f1wcp1 f1wcp2
    go_wp2_with fail
    have HQwcq := Lib.hid (HRwbt.out.below (w' := wcp) (by (repeat' (first | (with_reducible exact Below.refl _ _) | (with_reducible refine Below.alloc ?_ ?_ _) | (with_reducible refine Below.setCell ?_ ?_ _) | (with_reducible refine Below.drew ?_) | (with_reducible refine below_drewN ?_ _) | (with_reducible refine Below.trans ?_ (Below.mono (Hid.out (by assumption)) ?_)) | omega | (simp; done) | (simp; omega)))))
    refine (markS_any R awbp cwbp _ 1 (by decide) (by decide) _ HQwcq.out).mono ?_
    rintro e wcq ⟨rfl, hr, hbut, hb⟩
    have HRwcq := Lib.hid hr
    have hswcq : wb.heap.size ≤ wcq.heap.size := (by have := hbut.size; (try simp at this); omega)
    have hzwcq := hbut.size
    (try simp at hzwcq)
    have HBwcq := Lib.hid hb
    clear hb hr hbut
    have HBX1wcq : Hid (wcq.heap[w.heap.size]? = some (.cells #[.slice a1 L.length c1, .int .i64 F, .slice b1 S.length d1] 25 (0, 0))) := Lib.hid (by (repeat' (first | omega | (rw [hdrew]) | (with_reducible assumption) | (with_reducible exact Hid.out (by assumption)) | (with_reducible rfl) | ((with_reducible refine halloc_at _ _ _ ?_) <;> (first | (with_reducible rfl) | omega | (simp; done))) | (with_reducible refine chain6 ?_) | (with_reducible refine Eq.trans (hset_ne _ _ _ _ ?_) ?_) | (with_reducible refine Eq.trans (halloc_lt _ _ _ ?_) ?_) | (with_reducible refine Eq.trans (Below.block (Hid.out (by assumption)) _ ?_) ?_) | (simp; done) | (simp; omega))))
    have f1wcq0 := Joins.cell_of_block HBX1wcq.out 0
    have f1wcq1 := Joins.cell_of_block HBX1wcq.out 1
    have f1wcq2 := Joins.cell_of_block HBX1wcq.out 2
    simp only [List.getElem?_toArray, List.getElem?_cons_zero, List.getElem?_cons_succ] at f1wcq0 f1wcq1 f1wcq2
    have hqr : (1 + (R.length : Int) < 0) = False := by simp; omega
    go_wp2_with fail
    refine (heldS_any R.length awbp cwbp _ 1 (by decide) (by decide) _ (HRwcq.out.below (by (repeat' (first | (with_reducible exact Below.refl _ _) | (with_reducible refine Below.alloc ?_ ?_ _) | (with_reducible refine Below.setCell ?_ ?_ _) | (with_reducible refine Below.drew ?_) | (with_reducible refine below_drewN ?_ _) | (with_reducible refine Below.trans ?_ (Below.mono (Hid.out (by assumption)) ?_)) | omega | (simp; done) | (simp; omega)))))).mono ?_
    rintro e wcr ⟨rfl, hb⟩
    have hzwcr := hb.size
    (try simp at hzwcr)
    have hswcr : wb.heap.size ≤ wcr.heap.size := (by have := hb.size; (try simp at this); omega)
    have HBwcr := Lib.hid hb
    clear hb
    have HBX1wcr : Hid (wcr.heap[w.heap.size]? = some (.cells #[.slice a1 L.length c1, .int .i64 F, .slice b1 S.length d1] 25 (0, 0))) := Lib.hid (by (repeat' (first | omega | (rw [hdrew]) | (with_reducible assumption) | (with_reducible exact Hid.out (by assumption)) | (with_reducible rfl) | ((with_reducible refine halloc_at _ _ _ ?_) <;> (first | (with_reducible rfl) | omega | (simp; done))) | (with_reducible refine chain6 ?_) | (with_reducible refine Eq.trans (hset_ne _ _ _ _ ?_) ?_) | (with_reducible refine Eq.trans (halloc_lt _ _ _ ?_) ?_) | (with_reducible refine Eq.trans (Below.block (Hid.out (by assumption)) _ ?_) ?_) | (simp; done) | (simp; omega))))
    have f1wcr0 := Joins.cell_of_block HBX1wcr.out 0
    have f1wcr1 := Joins.cell_of_block HBX1wcr.out 1
    have f1wcr2 := Joins.cell_of_block HBX1wcr.out 2
    simp only [List.getElem?_toArray, List.getElem?_cons_zero, List.getElem?_cons_succ] at f1wcr0 f1wcr1 f1wcr2
    go_wp2_with fail
    refine (HCP1.out _ a1 b1 c1 d1 (HM1wb.out.below (by (repeat' (first | (with_reducible exact Below.refl _ _) | (with_reducible refine Below.alloc ?_ ?_ _) | (with_reducible refine Below.setCell ?_ ?_ _) | (with_reducible refine Below.drew ?_) | (with_reducible refine below_drewN ?_ _) | (with_reducible refine Below.trans ?_ (Below.mono (Hid.out (by assumption)) ?_)) | omega | (simp; done) | (simp; omega))))) (HL1wb.out.below (by (repeat' (first | (with_reducible exact Below.refl _ _) | (with_reducible refine Below.alloc ?_ ?_ _) | (with_reducible refine Below.setCell ?_ ?_ _) | (with_reducible refine Below.drew ?_) | (with_reducible refine below_drewN ?_ _) | (with_reducible refine Below.trans ?_ (Below.mono (Hid.out (by assumption)) ?_)) | omega | (simp; done) | (simp; omega)))))).mono ?_
    rintro e wcs ⟨gwcs1, gwcs2, rfl, hcop, hb⟩
    have HCwcs := Lib.hid hcop
    have hlowcs := hcop.lo
    have hltwcs := hcop.lt
    have hhiwcs := hcop.hi
    (try simp at hlowcs)
    clear hcop
    have hzwcs := hb.size
    (try simp at hzwcs)
    have hswcs : wb.heap.size ≤ wcs.heap.size := (by have := hb.size; (try simp at this); omega)
    have HBwcs := Lib.hid hb
    clear hb
    have HBX1wcs : Hid (wcs.heap[w.heap.size]? = some (.cells #[.slice a1 L.length c1, .int .i64 F, .slice b1 S.length d1] 25 (0, 0))) := Lib.hid (by (repeat' (first | omega | (rw [hdrew]) | (with_reducible assumption) | (with_reducible exact Hid.out (by assumption)) | (with_reducible rfl) | ((with_reducible refine halloc_at _ _ _ ?_) <;> (first | (with_reducible rfl) | omega | (simp; done))) | (with_reducible refine chain6 ?_) | (with_reducible refine Eq.trans (hset_ne _ _ _ _ ?_) ?_) | (with_reducible refine Eq.trans (halloc_lt _ _ _ ?_) ?_) | (with_reducible refine Eq.trans (Below.block (Hid.out (by assumption)) _ ?_) ?_) | (simp; done) | (simp; omega))))
    have f1wcs0 := Joins.cell_of_block HBX1wcs.out 0
    have f1wcs1 := Joins.cell_of_block HBX1wcs.out 1
    have f1wcs2 := Joins.cell_of_block HBX1wcs.out 2
    simp only [List.getElem?_toArray, List.getElem?_cons_zero, List.getElem?_cons_succ] at f1wcs0 f1wcs1 f1wcs2
    go_wp2_with fail
    refine (HI.out _ _ _ ((HCwcs.out.below (by (repeat' (first | (with_reducible exact Below.refl _ _) | (with_reducible refine Below.alloc ?_ ?_ _) | (with_reducible refine Below.setCell ?_ ?_ _) | (with_reducible refine Below.drew ?_) | (with_reducible refine below_drewN ?_ _) | (with_reducible refine Below.trans ?_ (Below.mono (Hid.out (by assumption)) ?_)) | omega | (simp; done) | (simp; omega))))).maps.inRow) ((HCwcs.out.below (by (repeat' (first | (with_reducible exact Below.refl _ _) | (with_reducible refine Below.alloc ?_ ?_ _) | (with_reducible refine Below.setCell ?_ ?_ _) | (with_reducible refine Below.drew ?_) | (with_reducible refine below_drewN ?_ _) | (with_reducible refine Below.trans ?_ (Below.mono (Hid.out (by assumption)) ?_)) | omega | (simp; done) | (simp; omega))))).last.inRow)).mono ?_
    rintro e wct ⟨awct, cwct, rfl, hr, hb⟩
    have HRwct := Lib.hid hr
    clear hr
    have hzwct := hb.size
    (try simp at hzwct)
    have hswct : wb.heap.size ≤ wct.heap.size := (by have := hb.size; (try simp at this); omega)
    have HBwct := Lib.hid hb
    clear hb
    have HBX1wct : Hid (wct.heap[w.heap.size]? = some (.cells #[.slice a1 L.length c1, .int .i64 F, .slice b1 S.length d1] 25 (0, 0))) := Lib.hid (by (repeat' (first | omega | (rw [hdrew]) | (with_reducible assumption) | (with_reducible exact Hid.out (by assumption)) | (with_reducible rfl) | ((with_reducible refine halloc_at _ _ _ ?_) <;> (first | (with_reducible rfl) | omega | (simp; done))) | (with_reducible refine chain6 ?_) | (with_reducible refine Eq.trans (hset_ne _ _ _ _ ?_) ?_) | (with_reducible refine Eq.trans (halloc_lt _ _ _ ?_) ?_) | (with_reducible refine Eq.trans (Below.block (Hid.out (by assumption)) _ ?_) ?_) | (simp; done) | (simp; omega))))
    have f1wct0 := Joins.cell_of_block HBX1wct.out 0
    have f1wct1 := Joins.cell_of_block HBX1wct.out 1
    have f1wct2 := Joins.cell_of_block HBX1wct.out 2
    simp only [List.getElem?_toArray, List.getElem?_cons_zero, List.getElem?_cons_succ] at f1wct0 f1wct1 f1wct2
    go_wp2_with fail
    refine (eqS_same R awct awas cwct cwas _ _ _ (HRwct.out.below (by (repeat' (first | (with_reducible exact Below.refl _ _) | (with_reducible refine Below.alloc ?_ ?_ _) | (with_reducible refine Below.setCell ?_ ?_ _) | (with_reducible refine Below.drew ?_) | (with_reducible refine below_drewN ?_ _) | (with_reducible refine Below.trans ?_ (Below.mono (Hid.out (by assumption)) ?_)) | omega | (simp; done) | (simp; omega))))) (HRwas.out.below (by (repeat' (first | (with_reducible exact Below.refl _ _) | (with_reducible refine Below.alloc ?_ ?_ _) | (with_reducible refine Below.setCell ?_ ?_ _) | (with_reducible refine Below.drew ?_) | (with_reducible refine below_drewN ?_ _) | (with_reducible refine Below.trans ?_ (Below.mono (Hid.out (by assumption)) ?_)) | omega | (simp; done) | (simp; omega)))))).mono ?_
    rintro e wdp ⟨rfl, hb⟩
    have hzwdp := hb.size
    (try simp at hzwdp)
    have hswdp : wb.heap.size ≤ wdp.heap.size := (by have := hb.size; (try simp at this); omega)
    have HBwdp := Lib.hid hb
    clear hb
    have HBX1wdp : Hid (wdp.heap[w.heap.size]? = some (.cells #[.slice a1 L.length c1, .int .i64 F, .slice b1 S.length d1] 25 (0, 0))) := Lib.hid (by (repeat' (first | omega | (rw [hdrew]) | (with_reducible assumption) | (with_reducible exact Hid.out (by assumption)) | (with_reducible rfl) | ((with_reducible refine halloc_at _ _ _ ?_) <;> (first | (with_reducible rfl) | omega | (simp; done))) | (with_reducible refine chain6 ?_) | (with_reducible refine Eq.trans (hset_ne _ _ _ _ ?_) ?_) | (with_reducible refine Eq.trans (halloc_lt _ _ _ ?_) ?_) | (with_reducible refine Eq.trans (Below.block (Hid.out (by assumption)) _ ?_) ?_) | (simp; done) | (simp; omega))))
    have f1wdp0 := Joins.cell_of_block HBX1wdp.out 0
    have f1wdp1 := Joins.cell_of_block HBX1wdp.out 1
    have f1wdp2 := Joins.cell_of_block HBX1wdp.out 2
    simp only [List.getElem?_toArray, List.getElem?_cons_zero, List.getElem?_cons_succ] at f1wdp0 f1wdp1 f1wdp2
    go_wp2_with fail
    refine (heldS_any R.length awbp cwbp _ 1 (by decide) (by decide) _ (HRwcq.out.below (by (repeat' (first | (with_reducible exact Below.refl _ _) | (with_reducible refine Below.alloc ?_ ?_ _) | (with_reducible refine Below.setCell ?_ ?_ _) | (with_reducible refine Below.drew ?_) | (with_reducible refine below_drewN ?_ _) | (with_reducible refine Below.trans ?_ (Below.mono (Hid.out (by assumption)) ?_)) | omega | (simp; done) | (simp; omega)))))).mono ?_
    rintro e wdq ⟨rfl, hb⟩
    have hzwdq := hb.size
    (try simp at hzwdq)
    have hswdq : wb.heap.size ≤ wdq.heap.size := (by have := hb.size; (try simp at this); omega)
    have HBwdq := Lib.hid hb
    clear hb
    have HBX1wdq : Hid (wdq.heap[w.heap.size]? = some (.cells #[.slice a1 L.length c1, .int .i64 F, .slice b1 S.length d1] 25 (0, 0))) := Lib.hid (by (repeat' (first | omega | (rw [hdrew]) | (with_reducible assumption) | (with_reducible exact Hid.out (by assumption)) | (with_reducible rfl) | ((with_reducible refine halloc_at _ _ _ ?_) <;> (first | (with_reducible rfl) | omega | (simp; done))) | (with_reducible refine chain6 ?_) | (with_reducible refine Eq.trans (hset_ne _ _ _ _ ?_) ?_) | (with_reducible refine Eq.trans (halloc_lt _ _ _ ?_) ?_) | (with_reducible refine Eq.trans (Below.block (Hid.out (by assumption)) _ ?_) ?_) | (simp; done) | (simp; omega))))
    have f1wdq0 := Joins.cell_of_block HBX1wdq.out 0
    have f1wdq1 := Joins.cell_of_block HBX1wdq.out 1
    have f1wdq2 := Joins.cell_of_block HBX1wdq.out 2
    simp only [List.getElem?_toArray, List.getElem?_cons_zero, List.getElem?_cons_succ] at f1wdq0 f1wdq1 f1wdq2
    go_wp2_with fail
    go_ret
    refine ⟨rfl, ?_⟩
    have hall := HWB.out
    (repeat' (first | (with_reducible exact Below.refl _ _) | (with_reducible refine Below.alloc ?_ ?_ _) | (with_reducible refine Below.setCell ?_ ?_ _) | (with_reducible refine Below.drew ?_) | (with_reducible refine below_drewN ?_ _) | (with_reducible refine Below.trans ?_ (Below.mono (Hid.out (by assumption)) ?_)) | omega | (simp; done) | (simp; omega)))
  · have HNO := Lib.hid fun w => szA_no L.length S.length h41 h51 a1 b1 c1 d1 F (1048576) (by omega) (by omega) (by omega) w
    go_enter Try.func5, Try.ntmps5
    go_wp2_with fail
    rw [← hwb]
    refine (HNO.out _).mono ?_
    rintro e wz ⟨rfl, hb⟩
    have HZB := Lib.hid (HWB.out.trans (hb.mono (by omega)))
    clear hb
    go_wp2_with fail
    go_ret
    exact ⟨rfl, HZB.out⟩

end LFnExactFirstApart

namespace LFnExactFirstApart
set_option maxRecDepth 100000 in
theorem lifted (os : Os) (started : os.Started) (H : Type) (enc : TypeId × Value → H) :
    ReturnsInHanded {} Try.checked os 5 .any (Rows.fnExactFirstApartSpec.pre6 enc Try.prog Try.f5 Rows.fnExactFirstApartRow.domain false) (Rows.fnExactFirstApartSpec.post enc Try.prog Try.f5 false true false false) := by
  refine returnsInHanded_of_change (C := Try.checked) own started (by kernel_rfl) Try.func5
    (ChangeSpec.witness6 (enc := enc) (C := Try.checked) false ⟨#[], #[.agg #[.slice none 0 0, .int .i64 0, .slice none 0 0], .int .i64 0, .int .i64 0], []⟩ 8 (by kernel_rfl) (by kernel_rfl) (by kernel_rfl) (by kernel_rfl)) ?_
  intro W base args ds gs before hval0 hW _ _
  have hval : ∀ (j : Nat) t v, Try.f5.params[j]? = some t → args[j]? = some v → Value.okWide Try.prog W .any base t v := hval0
  have hW' := hW
  obtain ⟨p, q, hA0, hV, rfl, hfz, hnd⟩ := hW
  have hA : DataW.TrodAll enc Try.prog W 0 (fun _ => true) true Try.f5.params.toList args.toList ds p := hA0
  rw [Try.params5] at hA hval
  obtain ⟨v0, vs0, d0, ds0, p0, q0, hargs, rfl, rfl, h0, r0⟩ := trodAll_cons hA
  obtain ⟨v1, vs1, d1, ds1, p1, q1, rfl, rfl, rfl, h1, r1⟩ := trodAll_cons r0
  obtain ⟨v2, vs2, d2, ds2, p2, q2, rfl, rfl, rfl, h2, r2⟩ := trodAll_cons r1
  obtain ⟨rfl, rfl, rfl⟩ := trodAll_nil r2
  obtain rfl : args = #[v0, v1, v2] := by cases args; simp_all
  obtain ⟨rfl, rfl⟩ := trodVars_none hV
  have k0 := h0
  have lt0 : ∀ x ∈ p0, x.block < W.heap.size := by obtain ⟨m, hm⟩ := k0; exact DataW.trod_lt m _ _ _ hm
  obtain ⟨a0, L0, c0, f0, b0, s0, e0, rfl, w0, x0, y0⟩ := open_acc (hval 0 25 v0 rfl rfl) h0
  have k1 := h1
  have lt1 : ∀ x ∈ p1, x.block < W.heap.size := by obtain ⟨m, hm⟩ := k1; exact DataW.trod_lt m _ _ _ hm
  obtain ⟨a1, rfl, rfl, rfl, w1⟩ := open_int Try.underlying2 (hval 1 2 v1 rfl rfl) h1
  have k2 := h2
  have lt2 : ∀ x ∈ p2, x.block < W.heap.size := by obtain ⟨m, hm⟩ := k2; exact DataW.trod_lt m _ _ _ hm
  obtain ⟨a2, rfl, rfl, rfl, w2⟩ := open_int Try.underlying2 (hval 2 2 v2 rfl rfl) h2
  clear hA0 hval0
  refine (ex_any W a0 L0 c0 f0 b0 s0 e0 w0 x0 y0 a1 w1 a2 w2).mono fun e W' ⟨he, bel⟩ => ?_
  subst he
  exact ⟨_, rfl, _, _, _, [], _, [], hW', trodAll_mk1 (shut_bool Try.underlying4 _), (trodAll_cons_mk (Below.trod laidOut (by kernel_rfl) (of_decide_eq_true (by kernel_rfl)) k0 bel lt0) (trodAll_cons_mk (Below.trod laidOut (by kernel_rfl) (of_decide_eq_true (by kernel_rfl)) k1 bel lt1) (trodAll_cons_mk (Below.trod laidOut (by kernel_rfl) (of_decide_eq_true (by kernel_rfl)) k2 bel lt2) trodAll_mk0))), rfl, bel.frame _, fun h => by cases h⟩
theorem joined : joinedFacts Try.pinned.checked.prog 5 Try.f5 Rows.fnExactFirstApartSpec Rows.fnExactFirstApartRow = true := by
  unfold joinedFacts
  simp only [Bool.and_eq_true]
  repeat' apply And.intro
  iterate 25 kernel_rfl
  exact mk_enter
  exact mk_lifts
  exact mk_make
  iterate 4 kernel_rfl
theorem over : Rows.fnExactFirstApartRow.holds Try.pinned (OpenSpec.ofChange Rows.fnExactFirstApartSpec) :=
  OpenClaim.holds_of_wide 5 Try.f5 rfl rfl rfl rfl rfl rfl rfl ⟨rfl, rfl, rfl, rfl, rfl⟩ rfl rfl rfl rfl rfl (by kernel_rfl) Try.func5 joined
    (of_decide_eq_true (by kernel_rfl)) (by unfold Func.isWrapper; rw [if_neg (of_decide_eq_false (by kernel_rfl))]; exact ⟨rfl, rfl⟩)
    (fun os started H enc _ => lifted os started H enc)
/-- The statement of FnExactFirstApart. -/
theorem proved : Rows.FnExactFirstApartSaid := over
#print axioms proved
end LFnExactFirstApart

end Go.Proofs.Ytiakoplfknkhmaa
