/- The law FnExactAreEqual is true at every input: impl.AreEqual and spec.AreEqual answer alike, and the acceptors that came in stay as they were. No conditions. -/
import Derived.Test.YtiakoplfknkhmaaMk
import Derived.Test.YtiakoplfknkhmaaDfs
import Derived.Test.YtiakoplfknkhmaaAcs
namespace Go.Proofs.Ytiakoplfknkhmaa
open Go.ChangeShapes Go.WideShapes Go.ChangeAt Go.RowKit
namespace LFnExactAreEqual

set_option maxRecDepth 100000 in
set_option maxHeartbeats 8000000 in
theorem ex_any (w : World) (a1 : Option Addr) (L : List MapN) (c1 : Nat) (F : Int) (b1 : Option Addr) (S : List Int) (d1 : Nat) (hw1 : InAcc w a1 b1 c1 L S) (_ : (Lit.int .i64 F).wf = true) (_ : ∀ x ∈ S, (Lit.int .i64 x).wf = true) (a2 : Option Addr) (M : List MapN) (c2 : Nat) (G : Int) (b2 : Option Addr) (T : List Int) (d2 : Nat) (hw2 : InAcc w a2 b2 c2 M T) (_ : (Lit.int .i64 G).wf = true) (_ : ∀ x ∈ T, (Lit.int .i64 x).wf = true) :
    Calls Try.prog 7 #[.agg #[.slice a1 L.length c1, .int .i64 F, .slice b1 S.length d1], .agg #[.slice a2 M.length c2, .int .i64 G, .slice b2 T.length d2]] w fun e w' => e = .returned (.bool true) ∧ Below w.heap.size w w' := by
  obtain ⟨h11, h21, _, h41, h51⟩ := hw1
  obtain ⟨h12, h22, _, h42, h52⟩ := hw2
  obtain ⟨wb, hwb⟩ : ∃ wb, wb = (w.alloc (.cells #[.slice a1 L.length c1, .int .i64 F, .slice b1 S.length d1] 25)).alloc (.cells #[.slice a2 M.length c2, .int .i64 G, .slice b2 T.length d2] 25) := ⟨_, rfl⟩
  have HBX1wb : Hid (wb.heap[w.heap.size]? = some (.cells #[.slice a1 L.length c1, .int .i64 F, .slice b1 S.length d1] 25 (0, 0))) := Lib.hid (by rw [hwb]; exact ((halloc_lt _ _ _ (by simp)).trans (halloc_at _ _ _ rfl)))
  have HBX2wb : Hid (wb.heap[w.heap.size + 1]? = some (.cells #[.slice a2 M.length c2, .int .i64 G, .slice b2 T.length d2] 25 (0, 0))) := Lib.hid (by rw [hwb]; exact (halloc_at _ _ _ (by simp)))
  have hwz : w.heap.size + 1 + 1 ≤ wb.heap.size := by rw [hwb]; simp
  have HWB : Hid (Below w.heap.size w wb) := Lib.hid (by rw [hwb]; exact ((Below.refl _ _).alloc (Nat.le_refl _) _).alloc (by simp) _)
  have HM1wb := Lib.hid (h11.below HWB.out)
  have HL1wb := Lib.hid (h21.below HWB.out)
  clear h11 h21
  have HM2wb := Lib.hid (h12.below HWB.out)
  have HL2wb := Lib.hid (h22.below HWB.out)
  clear h12 h22
  by_cases hz1 : (L.length : Int) + S.length ≤ 1048576
  · have hng1 : ¬ (1048576 - (L.length : Int) - (S.length : Int) < 0) := by omega
    have HSZ1 := Lib.hid fun w => szA_ok L.length S.length a1 b1 c1 d1 F (1048576) (by omega) hz1 w
    have HCP1 := Lib.hid fun wx a b c d h1 h2 => toA_any L (by omega) F S (by omega) a b c d wx h1 h2
    by_cases hz2 : (M.length : Int) + T.length ≤ 1048576 - (L.length : Int) - (S.length : Int)
    · have hng2 : ¬ (1048576 - (L.length : Int) - (S.length : Int) - (M.length : Int) - (T.length : Int) < 0) := by omega
      have HSZ2 := Lib.hid fun w => szA_ok M.length T.length a2 b2 c2 d2 G (1048576 - (L.length : Int) - (S.length : Int)) (by omega) hz2 w
      have HCP2 := Lib.hid fun wx a b c d h1 h2 => toA_any M (by omega) G T (by omega) a b c d wx h1 h2
      obtain ⟨v, c, hV⟩ : ∃ v c, Value.tuple #[.bool (aeqT L F S M G T), .int .i64 (twoC L F S M G T)] = Value.tuple #[.bool v, .int .i64 c] := ⟨_, _, rfl⟩
      have HS := fun w (g11 g12 : Nat) (g21 g22 : Nat) h11 h12 h21 h22 => saeq_any L (by omega) F S (by omega) M (by omega) G T (by omega) (some ⟨g11, 0, none⟩) (some ⟨g12, 0, none⟩) L.length S.length (fun e => by cases e) (some ⟨g21, 0, none⟩) (some ⟨g22, 0, none⟩) M.length T.length (fun e => by cases e) w h11 h12 h21 h22
      have HI := fun w (g11 g12 : Nat) (g21 g22 : Nat) h11 h12 h21 h22 => iaeq2_any L (by omega) F S (by omega) M (by omega) G T (by omega) (some ⟨g11, 0, none⟩) (some ⟨g12, 0, none⟩) L.length S.length (fun e => by cases e) (some ⟨g21, 0, none⟩) (some ⟨g22, 0, none⟩) M.length T.length (fun e => by cases e) w h11 h12 h21 h22
      rw [hV] at HS HI
      clear hV
      have HS := Lib.hid HS
      have HI := Lib.hid HI
      go_enter Try.func7, Try.ntmps7
      go_wp2_with fail
      rw [← hwb]
      clear hwb
      have f1wb0 := Joins.cell_of_block HBX1wb.out 0
      have f1wb1 := Joins.cell_of_block HBX1wb.out 1
      have f1wb2 := Joins.cell_of_block HBX1wb.out 2
      simp only [List.getElem?_toArray, List.getElem?_cons_zero, List.getElem?_cons_succ] at f1wb0 f1wb1 f1wb2
      have f2wb0 := Joins.cell_of_block HBX2wb.out 0
      have f2wb1 := Joins.cell_of_block HBX2wb.out 1
      have f2wb2 := Joins.cell_of_block HBX2wb.out 2
      simp only [List.getElem?_toArray, List.getElem?_cons_zero, List.getElem?_cons_succ] at f2wb0 f2wb1 f2wb2
      refine (HSZ1.out _).mono ?_
      rintro e waq ⟨rfl, hb⟩
      have hzwaq := hb.size
      (try simp at hzwaq)
      have hswaq : wb.heap.size ≤ waq.heap.size := (by have := hb.size; (try simp at this); omega)
      have HBwaq := Lib.hid hb
      clear hb
      have hq1waq : w.heap.size < waq.heap.size := by omega
      have hq2waq : w.heap.size + 1 < waq.heap.size := by omega
      have HBX1waq : Hid (waq.heap[w.heap.size]? = some (.cells #[.slice a1 L.length c1, .int .i64 F, .slice b1 S.length d1] 25 (0, 0))) := Lib.hid (by (repeat' (first | omega | (rw [hdrew]) | (with_reducible assumption) | (with_reducible exact Hid.out (by assumption)) | (with_reducible rfl) | ((with_reducible refine halloc_at _ _ _ ?_) <;> (first | (with_reducible rfl) | omega | (simp; done))) | (with_reducible refine chain6 ?_) | (with_reducible refine Eq.trans (hset_ne _ _ _ _ ?_) ?_) | (with_reducible refine Eq.trans (halloc_lt _ _ _ ?_) ?_) | (with_reducible refine Eq.trans (Below.block (Hid.out (by assumption)) _ ?_) ?_) | (simp; done) | (simp; omega))))
      have HBX2waq : Hid (waq.heap[w.heap.size + 1]? = some (.cells #[.slice a2 M.length c2, .int .i64 G, .slice b2 T.length d2] 25 (0, 0))) := Lib.hid (by (repeat' (first | omega | (rw [hdrew]) | (with_reducible assumption) | (with_reducible exact Hid.out (by assumption)) | (with_reducible rfl) | ((with_reducible refine halloc_at _ _ _ ?_) <;> (first | (with_reducible rfl) | omega | (simp; done))) | (with_reducible refine chain6 ?_) | (with_reducible refine Eq.trans (hset_ne _ _ _ _ ?_) ?_) | (with_reducible refine Eq.trans (halloc_lt _ _ _ ?_) ?_) | (with_reducible refine Eq.trans (Below.block (Hid.out (by assumption)) _ ?_) ?_) | (simp; done) | (simp; omega))))
      have f1waq0 := Joins.cell_of_block HBX1waq.out 0
      have f1waq1 := Joins.cell_of_block HBX1waq.out 1
      have f1waq2 := Joins.cell_of_block HBX1waq.out 2
      simp only [List.getElem?_toArray, List.getElem?_cons_zero, List.getElem?_cons_succ] at f1waq0 f1waq1 f1waq2
      have f2waq0 := Joins.cell_of_block HBX2waq.out 0
      have f2waq1 := Joins.cell_of_block HBX2waq.out 1
      have f2waq2 := Joins.cell_of_block HBX2waq.out 2
      simp only [List.getElem?_toArray, List.getElem?_cons_zero, List.getElem?_cons_succ] at f2waq0 f2waq1 f2waq2
      go_wp2_with fail
      refine (HSZ2.out _).mono ?_
      rintro e war ⟨rfl, hb⟩
      have hzwar := hb.size
      (try simp at hzwar)
      have hswar : wb.heap.size ≤ war.heap.size := (by have := hb.size; (try simp at this); omega)
      have HBwar := Lib.hid hb
      clear hb
      have hq1war : w.heap.size < war.heap.size := by omega
      have hq2war : w.heap.size + 1 < war.heap.size := by omega
      have HBX1war : Hid (war.heap[w.heap.size]? = some (.cells #[.slice a1 L.length c1, .int .i64 F, .slice b1 S.length d1] 25 (0, 0))) := Lib.hid (by (repeat' (first | omega | (rw [hdrew]) | (with_reducible assumption) | (with_reducible exact Hid.out (by assumption)) | (with_reducible rfl) | ((with_reducible refine halloc_at _ _ _ ?_) <;> (first | (with_reducible rfl) | omega | (simp; done))) | (with_reducible refine chain6 ?_) | (with_reducible refine Eq.trans (hset_ne _ _ _ _ ?_) ?_) | (with_reducible refine Eq.trans (halloc_lt _ _ _ ?_) ?_) | (with_reducible refine Eq.trans (Below.block (Hid.out (by assumption)) _ ?_) ?_) | (simp; done) | (simp; omega))))
      have HBX2war : Hid (war.heap[w.heap.size + 1]? = some (.cells #[.slice a2 M.length c2, .int .i64 G, .slice b2 T.length d2] 25 (0, 0))) := Lib.hid (by (repeat' (first | omega | (rw [hdrew]) | (with_reducible assumption) | (with_reducible exact Hid.out (by assumption)) | (with_reducible rfl) | ((with_reducible refine halloc_at _ _ _ ?_) <;> (first | (with_reducible rfl) | omega | (simp; done))) | (with_reducible refine chain6 ?_) | (with_reducible refine Eq.trans (hset_ne _ _ _ _ ?_) ?_) | (with_reducible refine Eq.trans (halloc_lt _ _ _ ?_) ?_) | (with_reducible refine Eq.trans (Below.block (Hid.out (by assumption)) _ ?_) ?_) | (simp; done) | (simp; omega))))
      have f1war0 := Joins.cell_of_block HBX1war.out 0
      have f1war1 := Joins.cell_of_block HBX1war.out 1
      have f1war2 := Joins.cell_of_block HBX1war.out 2
      simp only [List.getElem?_toArray, List.getElem?_cons_zero, List.getElem?_cons_succ] at f1war0 f1war1 f1war2
      have f2war0 := Joins.cell_of_block HBX2war.out 0
      have f2war1 := Joins.cell_of_block HBX2war.out 1
      have f2war2 := Joins.cell_of_block HBX2war.out 2
      simp only [List.getElem?_toArray, List.getElem?_cons_zero, List.getElem?_cons_succ] at f2war0 f2war1 f2war2
      go_wp2_with fail
      have r10 : ∀ z, Below war.heap.size war z → z.cell? ⟨w.heap.size, 0, none⟩ = _ := fun z h => (h.cell (p := ⟨w.heap.size, 0, none⟩) (show w.heap.size < _ by omega)).trans f1war0
      have r11 : ∀ z, Below war.heap.size war z → z.cell? ⟨w.heap.size, 1, none⟩ = _ := fun z h => (h.cell (p := ⟨w.heap.size, 1, none⟩) (show w.heap.size < _ by omega)).trans f1war1
      have r12 : ∀ z, Below war.heap.size war z → z.cell? ⟨w.heap.size, 2, none⟩ = _ := fun z h => (h.cell (p := ⟨w.heap.size, 2, none⟩) (show w.heap.size < _ by omega)).trans f1war2
      have HMI1 := Lib.hid fun z (_ : Hid (Below war.heap.size war z)) => HM1wb.out.below (w' := z) (by (repeat' (first | (with_reducible exact Below.refl _ _) | (with_reducible refine Below.alloc ?_ ?_ _) | (with_reducible refine Below.setCell ?_ ?_ _) | (with_reducible refine Below.drew ?_) | (with_reducible refine below_drewN ?_ _) | (with_reducible refine Below.trans ?_ (Below.mono (Hid.out (by assumption)) ?_)) | omega | (simp; done) | (simp; omega))))
      have HLI1 := Lib.hid fun z (_ : Hid (Below war.heap.size war z)) => HL1wb.out.below (w' := z) (by (repeat' (first | (with_reducible exact Below.refl _ _) | (with_reducible refine Below.alloc ?_ ?_ _) | (with_reducible refine Below.setCell ?_ ?_ _) | (with_reducible refine Below.drew ?_) | (with_reducible refine below_drewN ?_ _) | (with_reducible refine Below.trans ?_ (Below.mono (Hid.out (by assumption)) ?_)) | omega | (simp; done) | (simp; omega))))
      have r20 : ∀ z, Below war.heap.size war z → z.cell? ⟨w.heap.size + 1, 0, none⟩ = _ := fun z h => (h.cell (p := ⟨w.heap.size + 1, 0, none⟩) (show w.heap.size + 1 < _ by omega)).trans f2war0
      have r21 : ∀ z, Below war.heap.size war z → z.cell? ⟨w.heap.size + 1, 1, none⟩ = _ := fun z h => (h.cell (p := ⟨w.heap.size + 1, 1, none⟩) (show w.heap.size + 1 < _ by omega)).trans f2war1
      have r22 : ∀ z, Below war.heap.size war z → z.cell? ⟨w.heap.size + 1, 2, none⟩ = _ := fun z h => (h.cell (p := ⟨w.heap.size + 1, 2, none⟩) (show w.heap.size + 1 < _ by omega)).trans f2war2
      have HMI2 := Lib.hid fun z (_ : Hid (Below war.heap.size war z)) => HM2wb.out.below (w' := z) (by (repeat' (first | (with_reducible exact Below.refl _ _) | (with_reducible refine Below.alloc ?_ ?_ _) | (with_reducible refine Below.setCell ?_ ?_ _) | (with_reducible refine Below.drew ?_) | (with_reducible refine below_drewN ?_ _) | (with_reducible refine Below.trans ?_ (Below.mono (Hid.out (by assumption)) ?_)) | omega | (simp; done) | (simp; omega))))
      have HLI2 := Lib.hid fun z (_ : Hid (Below war.heap.size war z)) => HL2wb.out.below (w' := z) (by (repeat' (first | (with_reducible exact Below.refl _ _) | (with_reducible refine Below.alloc ?_ ?_ _) | (with_reducible refine Below.setCell ?_ ?_ _) | (with_reducible refine Below.drew ?_) | (with_reducible refine below_drewN ?_ _) | (with_reducible refine Below.trans ?_ (Below.mono (Hid.out (by assumption)) ?_)) | omega | (simp; done) | (simp; omega))))
      go_region_held3 (fun w' => Below war.heap.size war w') (first | (with_reducible assumption) | ((repeat' (first | (with_reducible exact Below.refl _ _) | (with_reducible refine Below.alloc ?_ ?_ _) | (with_reducible refine Below.setCell ?_ ?_ _) | (with_reducible refine Below.drew ?_) | (with_reducible refine below_drewN ?_ _) | (with_reducible refine Below.trans ?_ (Below.mono (Hid.out (by assumption)) ?_)) | omega | (simp; done) | (simp; omega))); done)) (first
        | (go_at_call 13; (with_reducible refine (HCP1.out _ a1 b1 c1 d1 (HMI1.out _ (Lib.hid (by (repeat' (first | (with_reducible exact Below.refl _ _) | (with_reducible refine Below.alloc ?_ ?_ _) | (with_reducible refine Below.setCell ?_ ?_ _) | (with_reducible refine Below.drew ?_) | (with_reducible refine below_drewN ?_ _) | (with_reducible refine Below.trans ?_ (Below.mono (Hid.out (by assumption)) ?_)) | omega | (simp; done) | (simp; omega)))))) (HLI1.out _ (Lib.hid (by (repeat' (first | (with_reducible exact Below.refl _ _) | (with_reducible refine Below.alloc ?_ ?_ _) | (with_reducible refine Below.setCell ?_ ?_ _) | (with_reducible refine Below.drew ?_) | (with_reducible refine below_drewN ?_ _) | (with_reducible refine Below.trans ?_ (Below.mono (Hid.out (by assumption)) ?_)) | omega | (simp; done) | (simp; omega))))))).mono ?_); rintro e was ⟨gwas1, gwas2, rfl, hcop, hb⟩; have HCwas := Lib.hid hcop; have hlowas := hcop.lo; have hzwas := hb.size; (try simp at hlowas hzwas); have HBwas := Lib.hid hb; clear hb hcop)
        | (go_at_call 13; (with_reducible refine (HCP2.out _ a2 b2 c2 d2 (HMI2.out _ (Lib.hid (by (repeat' (first | (with_reducible exact Below.refl _ _) | (with_reducible refine Below.alloc ?_ ?_ _) | (with_reducible refine Below.setCell ?_ ?_ _) | (with_reducible refine Below.drew ?_) | (with_reducible refine below_drewN ?_ _) | (with_reducible refine Below.trans ?_ (Below.mono (Hid.out (by assumption)) ?_)) | omega | (simp; done) | (simp; omega)))))) (HLI2.out _ (Lib.hid (by (repeat' (first | (with_reducible exact Below.refl _ _) | (with_reducible refine Below.alloc ?_ ?_ _) | (with_reducible refine Below.setCell ?_ ?_ _) | (with_reducible refine Below.drew ?_) | (with_reducible refine below_drewN ?_ _) | (with_reducible refine Below.trans ?_ (Below.mono (Hid.out (by assumption)) ?_)) | omega | (simp; done) | (simp; omega))))))).mono ?_); rintro e wat ⟨gwat1, gwat2, rfl, hcop, hb⟩; have HCwat := Lib.hid hcop; have hlowat := hcop.lo; have hzwat := hb.size; (try simp at hlowat hzwat); have HBwat := Lib.hid hb; clear hb hcop)
        | (go_at_call 27; (with_reducible refine (HS.out _ _ _ _ _ ((HCwas.out.below (by (repeat' (first | (with_reducible exact Below.refl _ _) | (with_reducible refine Below.alloc ?_ ?_ _) | (with_reducible refine Below.setCell ?_ ?_ _) | (with_reducible refine Below.drew ?_) | (with_reducible refine below_drewN ?_ _) | (with_reducible refine Below.trans ?_ (Below.mono (Hid.out (by assumption)) ?_)) | omega | (simp; done) | (simp; omega))))).maps.inRow) ((HCwas.out.below (by (repeat' (first | (with_reducible exact Below.refl _ _) | (with_reducible refine Below.alloc ?_ ?_ _) | (with_reducible refine Below.setCell ?_ ?_ _) | (with_reducible refine Below.drew ?_) | (with_reducible refine below_drewN ?_ _) | (with_reducible refine Below.trans ?_ (Below.mono (Hid.out (by assumption)) ?_)) | omega | (simp; done) | (simp; omega))))).last.inRow) ((HCwat.out.below (by (repeat' (first | (with_reducible exact Below.refl _ _) | (with_reducible refine Below.alloc ?_ ?_ _) | (with_reducible refine Below.setCell ?_ ?_ _) | (with_reducible refine Below.drew ?_) | (with_reducible refine below_drewN ?_ _) | (with_reducible refine Below.trans ?_ (Below.mono (Hid.out (by assumption)) ?_)) | omega | (simp; done) | (simp; omega))))).maps.inRow) ((HCwat.out.below (by (repeat' (first | (with_reducible exact Below.refl _ _) | (with_reducible refine Below.alloc ?_ ?_ _) | (with_reducible refine Below.setCell ?_ ?_ _) | (with_reducible refine Below.drew ?_) | (with_reducible refine below_drewN ?_ _) | (with_reducible refine Below.trans ?_ (Below.mono (Hid.out (by assumption)) ?_)) | omega | (simp; done) | (simp; omega))))).last.inRow)).mono ?_); rintro e wbp ⟨rfl, hb⟩; have hzwbp := hb.size; (try simp at hzwbp); have HBwbp := Lib.hid hb; clear hb))
      clear r10 r11 r12 r20 r21 r22
      have hswbp : wb.heap.size ≤ wbp.heap.size := (by (try simp at hzwas hzwat hzwbp); omega)
      have hq1wbp : w.heap.size < wbp.heap.size := by omega
      have hq2wbp : w.heap.size + 1 < wbp.heap.size := by omega
      have HBX1wbp : Hid (wbp.heap[w.heap.size]? = some (.cells #[.slice a1 L.length c1, .int .i64 F, .slice b1 S.length d1] 25 (0, 0))) := Lib.hid (by (repeat' (first | omega | (rw [hdrew]) | (with_reducible assumption) | (with_reducible exact Hid.out (by assumption)) | (with_reducible rfl) | ((with_reducible refine halloc_at _ _ _ ?_) <;> (first | (with_reducible rfl) | omega | (simp; done))) | (with_reducible refine chain6 ?_) | (with_reducible refine Eq.trans (hset_ne _ _ _ _ ?_) ?_) | (with_reducible refine Eq.trans (halloc_lt _ _ _ ?_) ?_) | (with_reducible refine Eq.trans (Below.block (Hid.out (by assumption)) _ ?_) ?_) | (simp; done) | (simp; omega))))
      have HBX2wbp : Hid (wbp.heap[w.heap.size + 1]? = some (.cells #[.slice a2 M.length c2, .int .i64 G, .slice b2 T.length d2] 25 (0, 0))) := Lib.hid (by (repeat' (first | omega | (rw [hdrew]) | (with_reducible assumption) | (with_reducible exact Hid.out (by assumption)) | (with_reducible rfl) | ((with_reducible refine halloc_at _ _ _ ?_) <;> (first | (with_reducible rfl) | omega | (simp; done))) | (with_reducible refine chain6 ?_) | (with_reducible refine Eq.trans (hset_ne _ _ _ _ ?_) ?_) | (with_reducible refine Eq.trans (halloc_lt _ _ _ ?_) ?_) | (with_reducible refine Eq.trans (Below.block (Hid.out (by assumption)) _ ?_) ?_) | (simp; done) | (simp; omega))))
      have f1wbp0 := Joins.cell_of_block HBX1wbp.out 0
      have f1wbp1 := Joins.cell_of_block HBX1wbp.out 1
      have f1wbp2 := Joins.cell_of_block HBX1wbp.out 2
      simp only [List.getElem?_toArray, List.getElem?_cons_zero, List.getElem?_cons_succ] at f1wbp0 f1wbp1 f1wbp2
      have f2wbp0 := Joins.cell_of_block HBX2wbp.out 0
      have f2wbp1 := Joins.cell_of_block HBX2wbp.out 1
      have f2wbp2 := Joins.cell_of_block HBX2wbp.out 2
      simp only [List.getElem?_toArray, List.getElem?_cons_zero, List.getElem?_cons_succ] at f2wbp0 f2wbp1 f2wbp2
      go_wp2_with fail
      refine (HCP1.out _ a1 b1 c1 d1 (HM1wb.out.below (by (repeat' (first | (with_reducible exact Below.refl _ _) | (with_reducible refine Below.alloc ?_ ?_ _) | (with_reducible refine Below.setCell ?_ ?_ _) | (with_reducible refine Below.drew ?_) | (with_reducible refine below_drewN ?_ _) | (with_reducible refine Below.trans ?_ (Below.mono (Hid.out (by assumption)) ?_)) | omega | (simp; done) | (simp; omega))))) (HL1wb.out.below (by (repeat' (first | (with_reducible exact Below.refl _ _) | (with_reducible refine Below.alloc ?_ ?_ _) | (with_reducible refine Below.setCell ?_ ?_ _) | (with_reducible refine Below.drew ?_) | (with_reducible refine below_drewN ?_ _) | (with_reducible refine Below.trans ?_ (Below.mono (Hid.out (by assumption)) ?_)) | omega | (simp; done) | (simp; omega)))))).mono ?_
      rintro e wbq ⟨gwbq1, gwbq2, rfl, hcop, hb⟩
      have HCwbq := Lib.hid hcop
      have hlowbq := hcop.lo
      have hltwbq := hcop.lt
      have hhiwbq := hcop.hi
      (try simp at hlowbq)
      clear hcop
      have hzwbq := hb.size
      (try simp at hzwbq)
      have hswbq : wb.heap.size ≤ wbq.heap.size := (by have := hb.size; (try simp at this); omega)
      have HBwbq := Lib.hid hb
      clear hb
      have hq1wbq : w.heap.size < wbq.heap.size := by omega
      have hq2wbq : w.heap.size + 1 < wbq.heap.size := by omega
      have HBX1wbq : Hid (wbq.heap[w.heap.size]? = some (.cells #[.slice a1 L.length c1, .int .i64 F, .slice b1 S.length d1] 25 (0, 0))) := Lib.hid (by (repeat' (first | omega | (rw [hdrew]) | (with_reducible assumption) | (with_reducible exact Hid.out (by assumption)) | (with_reducible rfl) | ((with_reducible refine halloc_at _ _ _ ?_) <;> (first | (with_reducible rfl) | omega | (simp; done))) | (with_reducible refine chain6 ?_) | (with_reducible refine Eq.trans (hset_ne _ _ _ _ ?_) ?_) | (with_reducible refine Eq.trans (halloc_lt _ _ _ ?_) ?_) | (with_reducible refine Eq.trans (Below.block (Hid.out (by assumption)) _ ?_) ?_) | (simp; done) | (simp; omega))))
      have HBX2wbq : Hid (wbq.heap[w.heap.size + 1]? = some (.cells #[.slice a2 M.length c2, .int .i64 G, .slice b2 T.length d2] 25 (0, 0))) := Lib.hid (by (repeat' (first | omega | (rw [hdrew]) | (with_reducible assumption) | (with_reducible exact Hid.out (by assumption)) | (with_reducible rfl) | ((with_reducible refine halloc_at _ _ _ ?_) <;> (first | (with_reducible rfl) | omega | (simp; done))) | (with_reducible refine chain6 ?_) | (with_reducible refine Eq.trans (hset_ne _ _ _ _ ?_) ?_) | (with_reducible refine Eq.trans (halloc_lt _ _ _ ?_) ?_) | (with_reducible refine Eq.trans (Below.block (Hid.out (by assumption)) _ ?_) ?_) | (simp; done) | (simp; omega))))
      have f1wbq0 := Joins.cell_of_block HBX1wbq.out 0
      have f1wbq1 := Joins.cell_of_block HBX1wbq.out 1
      have f1wbq2 := Joins.cell_of_block HBX1wbq.out 2
      simp only [List.getElem?_toArray, List.getElem?_cons_zero, List.getElem?_cons_succ] at f1wbq0 f1wbq1 f1wbq2
      have f2wbq0 := Joins.cell_of_block HBX2wbq.out 0
      have f2wbq1 := Joins.cell_of_block HBX2wbq.out 1
      have f2wbq2 := Joins.cell_of_block HBX2wbq.out 2
      simp only [List.getElem?_toArray, List.getElem?_cons_zero, List.getElem?_cons_succ] at f2wbq0 f2wbq1 f2wbq2
      go_wp2_with fail
      refine (HCP2.out _ a2 b2 c2 d2 (HM2wb.out.below (by (repeat' (first | (with_reducible exact Below.refl _ _) | (with_reducible refine Below.alloc ?_ ?_ _) | (with_reducible refine Below.setCell ?_ ?_ _) | (with_reducible refine Below.drew ?_) | (with_reducible refine below_drewN ?_ _) | (with_reducible refine Below.trans ?_ (Below.mono (Hid.out (by assumption)) ?_)) | omega | (simp; done) | (simp; omega))))) (HL2wb.out.below (by (repeat' (first | (with_reducible exact Below.refl _ _) | (with_reducible refine Below.alloc ?_ ?_ _) | (with_reducible refine Below.setCell ?_ ?_ _) | (with_reducible refine Below.drew ?_) | (with_reducible refine below_drewN ?_ _) | (with_reducible refine Below.trans ?_ (Below.mono (Hid.out (by assumption)) ?_)) | omega | (simp; done) | (simp; omega)))))).mono ?_
      rintro e wbr ⟨gwbr1, gwbr2, rfl, hcop, hb⟩
      have HCwbr := Lib.hid hcop
      have hlowbr := hcop.lo
      have hltwbr := hcop.lt
      have hhiwbr := hcop.hi
      (try simp at hlowbr)
      clear hcop
      have hzwbr := hb.size
      (try simp at hzwbr)
      have hswbr : wb.heap.size ≤ wbr.heap.size := (by have := hb.size; (try simp at this); omega)
      have HBwbr := Lib.hid hb
      clear hb
      have hq1wbr : w.heap.size < wbr.heap.size := by omega
      have hq2wbr : w.heap.size + 1 < wbr.heap.size := by omega
      have HBX1wbr : Hid (wbr.heap[w.heap.size]? = some (.cells #[.slice a1 L.length c1, .int .i64 F, .slice b1 S.length d1] 25 (0, 0))) := Lib.hid (by (repeat' (first | omega | (rw [hdrew]) | (with_reducible assumption) | (with_reducible exact Hid.out (by assumption)) | (with_reducible rfl) | ((with_reducible refine halloc_at _ _ _ ?_) <;> (first | (with_reducible rfl) | omega | (simp; done))) | (with_reducible refine chain6 ?_) | (with_reducible refine Eq.trans (hset_ne _ _ _ _ ?_) ?_) | (with_reducible refine Eq.trans (halloc_lt _ _ _ ?_) ?_) | (with_reducible refine Eq.trans (Below.block (Hid.out (by assumption)) _ ?_) ?_) | (simp; done) | (simp; omega))))
      have HBX2wbr : Hid (wbr.heap[w.heap.size + 1]? = some (.cells #[.slice a2 M.length c2, .int .i64 G, .slice b2 T.length d2] 25 (0, 0))) := Lib.hid (by (repeat' (first | omega | (rw [hdrew]) | (with_reducible assumption) | (with_reducible exact Hid.out (by assumption)) | (with_reducible rfl) | ((with_reducible refine halloc_at _ _ _ ?_) <;> (first | (with_reducible rfl) | omega | (simp; done))) | (with_reducible refine chain6 ?_) | (with_reducible refine Eq.trans (hset_ne _ _ _ _ ?_) ?_) | (with_reducible refine Eq.trans (halloc_lt _ _ _ ?_) ?_) | (with_reducible refine Eq.trans (Below.block (Hid.out (by assumption)) _ ?_) ?_) | (simp; done) | (simp; omega))))
      have HXX1wbr : Hid (wbr.heap[wbq.heap.size]? = some (.cells #[.slice (some ⟨gwbq1, 0, none⟩) L.length L.length, .int .i64 F, .slice (some ⟨gwbq2, 0, none⟩) S.length S.length] 30 (0, 0))) := Lib.hid (by (repeat' (first | omega | (rw [hdrew]) | (with_reducible assumption) | (with_reducible exact Hid.out (by assumption)) | (with_reducible rfl) | ((with_reducible refine halloc_at _ _ _ ?_) <;> (first | (with_reducible rfl) | omega | (simp; done))) | (with_reducible refine chain6 ?_) | (with_reducible refine Eq.trans (hset_ne _ _ _ _ ?_) ?_) | (with_reducible refine Eq.trans (halloc_lt _ _ _ ?_) ?_) | (with_reducible refine Eq.trans (Below.block (Hid.out (by assumption)) _ ?_) ?_) | (simp; done) | (simp; omega))))
      have hx1wbr : wbq.heap.size < wbr.heap.size := (Array.getElem?_eq_some_iff.1 HXX1wbr.out).1
      have f1wbr0 := Joins.cell_of_block HBX1wbr.out 0
      have f1wbr1 := Joins.cell_of_block HBX1wbr.out 1
      have f1wbr2 := Joins.cell_of_block HBX1wbr.out 2
      simp only [List.getElem?_toArray, List.getElem?_cons_zero, List.getElem?_cons_succ] at f1wbr0 f1wbr1 f1wbr2
      have f2wbr0 := Joins.cell_of_block HBX2wbr.out 0
      have f2wbr1 := Joins.cell_of_block HBX2wbr.out 1
      have f2wbr2 := Joins.cell_of_block HBX2wbr.out 2
      simp only [List.getElem?_toArray, List.getElem?_cons_zero, List.getElem?_cons_succ] at f2wbr0 f2wbr1 f2wbr2
      have x1wbr0 := Joins.cell_of_block HXX1wbr.out 0
      have x1wbr1 := Joins.cell_of_block HXX1wbr.out 1
      have x1wbr2 := Joins.cell_of_block HXX1wbr.out 2
      simp only [List.getElem?_toArray, List.getElem?_cons_zero, List.getElem?_cons_succ] at x1wbr0 x1wbr1 x1wbr2
      go_wp2_with fail
      refine (HI.out _ _ _ _ _ ((HCwbq.out.below (by (repeat' (first | (with_reducible exact Below.refl _ _) | (with_reducible refine Below.alloc ?_ ?_ _) | (with_reducible refine Below.setCell ?_ ?_ _) | (with_reducible refine Below.drew ?_) | (with_reducible refine below_drewN ?_ _) | (with_reducible refine Below.trans ?_ (Below.mono (Hid.out (by assumption)) ?_)) | omega | (simp; done) | (simp; omega))))).maps.inRow) ((HCwbq.out.below (by (repeat' (first | (with_reducible exact Below.refl _ _) | (with_reducible refine Below.alloc ?_ ?_ _) | (with_reducible refine Below.setCell ?_ ?_ _) | (with_reducible refine Below.drew ?_) | (with_reducible refine below_drewN ?_ _) | (with_reducible refine Below.trans ?_ (Below.mono (Hid.out (by assumption)) ?_)) | omega | (simp; done) | (simp; omega))))).last.inRow) ((HCwbr.out.below (by (repeat' (first | (with_reducible exact Below.refl _ _) | (with_reducible refine Below.alloc ?_ ?_ _) | (with_reducible refine Below.setCell ?_ ?_ _) | (with_reducible refine Below.drew ?_) | (with_reducible refine below_drewN ?_ _) | (with_reducible refine Below.trans ?_ (Below.mono (Hid.out (by assumption)) ?_)) | omega | (simp; done) | (simp; omega))))).maps.inRow) ((HCwbr.out.below (by (repeat' (first | (with_reducible exact Below.refl _ _) | (with_reducible refine Below.alloc ?_ ?_ _) | (with_reducible refine Below.setCell ?_ ?_ _) | (with_reducible refine Below.drew ?_) | (with_reducible refine below_drewN ?_ _) | (with_reducible refine Below.trans ?_ (Below.mono (Hid.out (by assumption)) ?_)) | omega | (simp; done) | (simp; omega))))).last.inRow)).mono ?_
      rintro e wbs ⟨rfl, hb⟩
      have hzwbs := hb.size
      (try simp at hzwbs)
      have hswbs : wb.heap.size ≤ wbs.heap.size := (by have := hb.size; (try simp at this); omega)
      have HBwbs := Lib.hid hb
      clear hb
      have hq1wbs : w.heap.size < wbs.heap.size := by omega
      have hq2wbs : w.heap.size + 1 < wbs.heap.size := by omega
      have HBX1wbs : Hid (wbs.heap[w.heap.size]? = some (.cells #[.slice a1 L.length c1, .int .i64 F, .slice b1 S.length d1] 25 (0, 0))) := Lib.hid (by (repeat' (first | omega | (rw [hdrew]) | (with_reducible assumption) | (with_reducible exact Hid.out (by assumption)) | (with_reducible rfl) | ((with_reducible refine halloc_at _ _ _ ?_) <;> (first | (with_reducible rfl) | omega | (simp; done))) | (with_reducible refine chain6 ?_) | (with_reducible refine Eq.trans (hset_ne _ _ _ _ ?_) ?_) | (with_reducible refine Eq.trans (halloc_lt _ _ _ ?_) ?_) | (with_reducible refine Eq.trans (Below.block (Hid.out (by assumption)) _ ?_) ?_) | (simp; done) | (simp; omega))))
      have HBX2wbs : Hid (wbs.heap[w.heap.size + 1]? = some (.cells #[.slice a2 M.length c2, .int .i64 G, .slice b2 T.length d2] 25 (0, 0))) := Lib.hid (by (repeat' (first | omega | (rw [hdrew]) | (with_reducible assumption) | (with_reducible exact Hid.out (by assumption)) | (with_reducible rfl) | ((with_reducible refine halloc_at _ _ _ ?_) <;> (first | (with_reducible rfl) | omega | (simp; done))) | (with_reducible refine chain6 ?_) | (with_reducible refine Eq.trans (hset_ne _ _ _ _ ?_) ?_) | (with_reducible refine Eq.trans (halloc_lt _ _ _ ?_) ?_) | (with_reducible refine Eq.trans (Below.block (Hid.out (by assumption)) _ ?_) ?_) | (simp; done) | (simp; omega))))
      have HXX1wbs : Hid (wbs.heap[wbq.heap.size]? = some (.cells #[.slice (some ⟨gwbq1, 0, none⟩) L.length L.length, .int .i64 F, .slice (some ⟨gwbq2, 0, none⟩) S.length S.length] 30 (0, 0))) := Lib.hid (by (repeat' (first | omega | (rw [hdrew]) | (with_reducible assumption) | (with_reducible exact Hid.out (by assumption)) | (with_reducible rfl) | ((with_reducible refine halloc_at _ _ _ ?_) <;> (first | (with_reducible rfl) | omega | (simp; done))) | (with_reducible refine chain6 ?_) | (with_reducible refine Eq.trans (hset_ne _ _ _ _ ?_) ?_) | (with_reducible refine Eq.trans (halloc_lt _ _ _ ?_) ?_) | (with_reducible refine Eq.trans (Below.block (Hid.out (by assumption)) _ ?_) ?_) | (simp; done) | (simp; omega))))
      have hx1wbs : wbq.heap.size < wbs.heap.size := (Array.getElem?_eq_some_iff.1 HXX1wbs.out).1
      have HXX2wbs : Hid (wbs.heap[wbr.heap.size]? = some (.cells #[.slice (some ⟨gwbr1, 0, none⟩) M.length M.length, .int .i64 G, .slice (some ⟨gwbr2, 0, none⟩) T.length T.length] 30 (0, 0))) := Lib.hid (by (repeat' (first | omega | (rw [hdrew]) | (with_reducible assumption) | (with_reducible exact Hid.out (by assumption)) | (with_reducible rfl) | ((with_reducible refine halloc_at _ _ _ ?_) <;> (first | (with_reducible rfl) | omega | (simp; done))) | (with_reducible refine chain6 ?_) | (with_reducible refine Eq.trans (hset_ne _ _ _ _ ?_) ?_) | (with_reducible refine Eq.trans (halloc_lt _ _ _ ?_) ?_) | (with_reducible refine Eq.trans (Below.block (Hid.out (by assumption)) _ ?_) ?_) | (simp; done) | (simp; omega))))
      have hx2wbs : wbr.heap.size < wbs.heap.size := (Array.getElem?_eq_some_iff.1 HXX2wbs.out).1
      have f1wbs0 := Joins.cell_of_block HBX1wbs.out 0
      have f1wbs1 := Joins.cell_of_block HBX1wbs.out 1
      have f1wbs2 := Joins.cell_of_block HBX1wbs.out 2
      simp only [List.getElem?_toArray, List.getElem?_cons_zero, List.getElem?_cons_succ] at f1wbs0 f1wbs1 f1wbs2
      have f2wbs0 := Joins.cell_of_block HBX2wbs.out 0
      have f2wbs1 := Joins.cell_of_block HBX2wbs.out 1
      have f2wbs2 := Joins.cell_of_block HBX2wbs.out 2
      simp only [List.getElem?_toArray, List.getElem?_cons_zero, List.getElem?_cons_succ] at f2wbs0 f2wbs1 f2wbs2
      have x1wbs0 := Joins.cell_of_block HXX1wbs.out 0
      have x1wbs1 := Joins.cell_of_block HXX1wbs.out 1
      have x1wbs2 := Joins.cell_of_block HXX1wbs.out 2
      simp only [List.getElem?_toArray, List.getElem?_cons_zero, List.getElem?_cons_succ] at x1wbs0 x1wbs1 x1wbs2
      have x2wbs0 := Joins.cell_of_block HXX2wbs.out 0
      have x2wbs1 := Joins.cell_of_block HXX2wbs.out 1
      have x2wbs2 := Joins.cell_of_block HXX2wbs.out 2
      simp only [List.getElem?_toArray, List.getElem?_cons_zero, List.getElem?_cons_succ] at x2wbs0 x2wbs1 x2wbs2
      have hgwbs : wbr.heap.size < wbs.heap.size := (by have := HBwbs.out.size; (try simp at this); omega)
      go_wp2_with fail
      obtain ⟨wg1, hwg⟩ : ∃ z : World, z = wbs := ⟨_, rfl⟩
      have HQ := Lib.hid (HCwbq.out.below (w' := wbs) (by (repeat' (first | (with_reducible exact Below.refl _ _) | (with_reducible refine Below.alloc ?_ ?_ _) | (with_reducible refine Below.setCell ?_ ?_ _) | (with_reducible refine Below.drew ?_) | (with_reducible refine below_drewN ?_ _) | (with_reducible refine Below.trans ?_ (Below.mono (Hid.out (by assumption)) ?_)) | omega | (simp; done) | (simp; omega)))))
      have r0 : ∀ z, Below wbs.heap.size wbs z → z.cell? ⟨w.heap.size, 0, none⟩ = _ := fun z h => (h.cell (p := ⟨w.heap.size, 0, none⟩) (show w.heap.size < _ by omega)).trans f1wbs0
      have r1 : ∀ z, Below wbs.heap.size wbs z → z.cell? ⟨w.heap.size, 1, none⟩ = _ := fun z h => (h.cell (p := ⟨w.heap.size, 1, none⟩) (show w.heap.size < _ by omega)).trans f1wbs1
      have r2 : ∀ z, Below wbs.heap.size wbs z → z.cell? ⟨w.heap.size, 2, none⟩ = _ := fun z h => (h.cell (p := ⟨w.heap.size, 2, none⟩) (show w.heap.size < _ by omega)).trans f1wbs2
      have s0 : ∀ z, Below wbs.heap.size wbs z → z.cell? ⟨wbq.heap.size, 0, none⟩ = _ := fun z h => (h.cell (p := ⟨wbq.heap.size, 0, none⟩) (show wbq.heap.size < _ by omega)).trans x1wbs0
      have s1 : ∀ z, Below wbs.heap.size wbs z → z.cell? ⟨wbq.heap.size, 1, none⟩ = _ := fun z h => (h.cell (p := ⟨wbq.heap.size, 1, none⟩) (show wbq.heap.size < _ by omega)).trans x1wbs1
      have s2 : ∀ z, Below wbs.heap.size wbs z → z.cell? ⟨wbq.heap.size, 2, none⟩ = _ := fun z h => (h.cell (p := ⟨wbq.heap.size, 2, none⟩) (show wbq.heap.size < _ by omega)).trans x1wbs2
      clear hwg
      have HMI := Lib.hid fun z (_ : Hid (Below wbs.heap.size wbs z)) => HM1wb.out.below (w' := z) (by (repeat' (first | (with_reducible exact Below.refl _ _) | (with_reducible refine Below.alloc ?_ ?_ _) | (with_reducible refine Below.setCell ?_ ?_ _) | (with_reducible refine Below.drew ?_) | (with_reducible refine below_drewN ?_ _) | (with_reducible refine Below.trans ?_ (Below.mono (Hid.out (by assumption)) ?_)) | omega | (simp; done) | (simp; omega))))
      have HLI := Lib.hid fun z (_ : Hid (Below wbs.heap.size wbs z)) => HL1wb.out.below (w' := z) (by (repeat' (first | (with_reducible exact Below.refl _ _) | (with_reducible refine Below.alloc ?_ ?_ _) | (with_reducible refine Below.setCell ?_ ?_ _) | (with_reducible refine Below.drew ?_) | (with_reducible refine below_drewN ?_ _) | (with_reducible refine Below.trans ?_ (Below.mono (Hid.out (by assumption)) ?_)) | omega | (simp; done) | (simp; omega))))
      go_region_held3 (fun w' => Below wbs.heap.size wbs w') (first | (with_reducible assumption) | ((repeat' (first | (with_reducible exact Below.refl _ _) | (with_reducible refine Below.alloc ?_ ?_ _) | (with_reducible refine Below.setCell ?_ ?_ _) | (with_reducible refine Below.drew ?_) | (with_reducible refine below_drewN ?_ _) | (with_reducible refine Below.trans ?_ (Below.mono (Hid.out (by assumption)) ?_)) | omega | (simp; done) | (simp; omega))); done)) (first
        | (go_at_call 13; (with_reducible refine (HCP1.out _ a1 b1 c1 d1 (HMI.out _ (Lib.hid (by (repeat' (first | (with_reducible exact Below.refl _ _) | (with_reducible refine Below.alloc ?_ ?_ _) | (with_reducible refine Below.setCell ?_ ?_ _) | (with_reducible refine Below.drew ?_) | (with_reducible refine below_drewN ?_ _) | (with_reducible refine Below.trans ?_ (Below.mono (Hid.out (by assumption)) ?_)) | omega | (simp; done) | (simp; omega)))))) (HLI.out _ (Lib.hid (by (repeat' (first | (with_reducible exact Below.refl _ _) | (with_reducible refine Below.alloc ?_ ?_ _) | (with_reducible refine Below.setCell ?_ ?_ _) | (with_reducible refine Below.drew ?_) | (with_reducible refine below_drewN ?_ _) | (with_reducible refine Below.trans ?_ (Below.mono (Hid.out (by assumption)) ?_)) | omega | (simp; done) | (simp; omega))))))).mono ?_); rintro e wbt ⟨g3, g4, rfl, hcop, hb⟩; have HCY := Lib.hid hcop; have hy1 := hcop.lo; have hzwbt := hb.size; (try simp at hy1 hzwbt); have HBwbt := Lib.hid hb; clear hb hcop)
        | (go_at_call 15; (with_reducible refine (eqA_same L F S (by omega) _ _ _ _ _ _ _ _ _ _ _ ((HQ.out.below (by (repeat' (first | (with_reducible exact Below.refl _ _) | (with_reducible refine Below.alloc ?_ ?_ _) | (with_reducible refine Below.setCell ?_ ?_ _) | (with_reducible refine Below.drew ?_) | (with_reducible refine below_drewN ?_ _) | (with_reducible refine Below.trans ?_ (Below.mono (Hid.out (by assumption)) ?_)) | omega | (simp; done) | (simp; omega))))).maps.inRow) ((HCY.out.below (by (repeat' (first | (with_reducible exact Below.refl _ _) | (with_reducible refine Below.alloc ?_ ?_ _) | (with_reducible refine Below.setCell ?_ ?_ _) | (with_reducible refine Below.drew ?_) | (with_reducible refine below_drewN ?_ _) | (with_reducible refine Below.trans ?_ (Below.mono (Hid.out (by assumption)) ?_)) | omega | (simp; done) | (simp; omega))))).maps.inRow) (HQ.out.below (by (repeat' (first | (with_reducible exact Below.refl _ _) | (with_reducible refine Below.alloc ?_ ?_ _) | (with_reducible refine Below.setCell ?_ ?_ _) | (with_reducible refine Below.drew ?_) | (with_reducible refine below_drewN ?_ _) | (with_reducible refine Below.trans ?_ (Below.mono (Hid.out (by assumption)) ?_)) | omega | (simp; done) | (simp; omega))))).last (HCY.out.below (by (repeat' (first | (with_reducible exact Below.refl _ _) | (with_reducible refine Below.alloc ?_ ?_ _) | (with_reducible refine Below.setCell ?_ ?_ _) | (with_reducible refine Below.drew ?_) | (with_reducible refine below_drewN ?_ _) | (with_reducible refine Below.trans ?_ (Below.mono (Hid.out (by assumption)) ?_)) | omega | (simp; done) | (simp; omega))))).last).mono ?_); rintro e wcp ⟨rfl, hb⟩; have hzwcp := hb.size; (try simp at hzwcp); have HBwcp := Lib.hid hb; clear hb))
      clear r0 r1 r2 s0 s1 s2
      have hswcp : wb.heap.size ≤ wcp.heap.size := (by (try simp at hzwbt hzwcp); omega)
      have hq1wcp : w.heap.size < wcp.heap.size := by omega
      have hq2wcp : w.heap.size + 1 < wcp.heap.size := by omega
      have HBX1wcp : Hid (wcp.heap[w.heap.size]? = some (.cells #[.slice a1 L.length c1, .int .i64 F, .slice b1 S.length d1] 25 (0, 0))) := Lib.hid (by (repeat' (first | omega | (rw [hdrew]) | (with_reducible assumption) | (with_reducible exact Hid.out (by assumption)) | (with_reducible rfl) | ((with_reducible refine halloc_at _ _ _ ?_) <;> (first | (with_reducible rfl) | omega | (simp; done))) | (with_reducible refine chain6 ?_) | (with_reducible refine Eq.trans (hset_ne _ _ _ _ ?_) ?_) | (with_reducible refine Eq.trans (halloc_lt _ _ _ ?_) ?_) | (with_reducible refine Eq.trans (Below.block (Hid.out (by assumption)) _ ?_) ?_) | (simp; done) | (simp; omega))))
      have HBX2wcp : Hid (wcp.heap[w.heap.size + 1]? = some (.cells #[.slice a2 M.length c2, .int .i64 G, .slice b2 T.length d2] 25 (0, 0))) := Lib.hid (by (repeat' (first | omega | (rw [hdrew]) | (with_reducible assumption) | (with_reducible exact Hid.out (by assumption)) | (with_reducible rfl) | ((with_reducible refine halloc_at _ _ _ ?_) <;> (first | (with_reducible rfl) | omega | (simp; done))) | (with_reducible refine chain6 ?_) | (with_reducible refine Eq.trans (hset_ne _ _ _ _ ?_) ?_) | (with_reducible refine Eq.trans (halloc_lt _ _ _ ?_) ?_) | (with_reducible refine Eq.trans (Below.block (Hid.out (by assumption)) _ ?_) ?_) | (simp; done) | (simp; omega))))
      have HXX1wcp : Hid (wcp.heap[wbq.heap.size]? = some (.cells #[.slice (some ⟨gwbq1, 0, none⟩) L.length L.length, .int .i64 F, .slice (some ⟨gwbq2, 0, none⟩) S.length S.length] 30 (0, 0))) := Lib.hid (by (repeat' (first | omega | (rw [hdrew]) | (with_reducible assumption) | (with_reducible exact Hid.out (by assumption)) | (with_reducible rfl) | ((with_reducible refine halloc_at _ _ _ ?_) <;> (first | (with_reducible rfl) | omega | (simp; done))) | (with_reducible refine chain6 ?_) | (with_reducible refine Eq.trans (hset_ne _ _ _ _ ?_) ?_) | (with_reducible refine Eq.trans (halloc_lt _ _ _ ?_) ?_) | (with_reducible refine Eq.trans (Below.block (Hid.out (by assumption)) _ ?_) ?_) | (simp; done) | (simp; omega))))
      have hx1wcp : wbq.heap.size < wcp.heap.size := (Array.getElem?_eq_some_iff.1 HXX1wcp.out).1
      have HXX2wcp : Hid (wcp.heap[wbr.heap.size]? = some (.cells #[.slice (some ⟨gwbr1, 0, none⟩) M.length M.length, .int .i64 G, .slice (some ⟨gwbr2, 0, none⟩) T.length T.length] 30 (0, 0))) := Lib.hid (by (repeat' (first | omega | (rw [hdrew]) | (with_reducible assumption) | (with_reducible exact Hid.out (by assumption)) | (with_reducible rfl) | ((with_reducible refine halloc_at _ _ _ ?_) <;> (first | (with_reducible rfl) | omega | (simp; done))) | (with_reducible refine chain6 ?_) | (with_reducible refine Eq.trans (hset_ne _ _ _ _ ?_) ?_) | (with_reducible refine Eq.trans (halloc_lt _ _ _ ?_) ?_) | (with_reducible refine Eq.trans (Below.block (Hid.out (by assumption)) _ ?_) ?_) | (simp; done) | (simp; omega))))
      have hx2wcp : wbr.heap.size < wcp.heap.size := (Array.getElem?_eq_some_iff.1 HXX2wcp.out).1
      have f1wcp0 := Joins.cell_of_block HBX1wcp.out 0
      have f1wcp1 := Joins.cell_of_block HBX1wcp.out 1
      have f1wcp2 := Joins.cell_of_block HBX1wcp.out 2
      simp only [List.getElem?_toArray, List.getElem?_cons_zero, List.getElem?_cons_succ] at f1wcp0 f1wcp1 f1wcp2
      have f2wcp0 := Joins.cell_of_block HBX2wcp.out 0
      have f2wcp1 := Joins.cell_of_block HBX2wcp.out 1
      have f2wcp2 := Joins.cell_of_block HBX2wcp.out 2
      simp only [List.getElem?_toArray, List.getElem?_cons_zero, List.getElem?_cons_succ] at f2wcp0 f2wcp1 f2wcp2
      have x1wcp0 := Joins.cell_of_block HXX1wcp.out 0
      have x1wcp1 := Joins.cell_of_block HXX1wcp.out 1
      have x1wcp2 := Joins.cell_of_block HXX1wcp.out 2
      simp only [List.getElem?_toArray, List.getElem?_cons_zero, List.getElem?_cons_succ] at x1wcp0 x1wcp1 x1wcp2
      have x2wcp0 := Joins.cell_of_block HXX2wcp.out 0
      have x2wcp1 := Joins.cell_of_block HXX2wcp.out 1
      have x2wcp2 := Joins.cell_of_block HXX2wcp.out 2
      simp only [List.getElem?_toArray, List.getElem?_cons_zero, List.getElem?_cons_succ] at x2wcp0 x2wcp1 x2wcp2
      go_wp2_with fail
      obtain ⟨wg2, hwg⟩ : ∃ z : World, z = wcp := ⟨_, rfl⟩
      have HQ := Lib.hid (HCwbr.out.below (w' := wcp) (by (repeat' (first | (with_reducible exact Below.refl _ _) | (with_reducible refine Below.alloc ?_ ?_ _) | (with_reducible refine Below.setCell ?_ ?_ _) | (with_reducible refine Below.drew ?_) | (with_reducible refine below_drewN ?_ _) | (with_reducible refine Below.trans ?_ (Below.mono (Hid.out (by assumption)) ?_)) | omega | (simp; done) | (simp; omega)))))
      have r0 : ∀ z, Below wcp.heap.size wcp z → z.cell? ⟨w.heap.size + 1, 0, none⟩ = _ := fun z h => (h.cell (p := ⟨w.heap.size + 1, 0, none⟩) (show w.heap.size + 1 < _ by omega)).trans f2wcp0
      have r1 : ∀ z, Below wcp.heap.size wcp z → z.cell? ⟨w.heap.size + 1, 1, none⟩ = _ := fun z h => (h.cell (p := ⟨w.heap.size + 1, 1, none⟩) (show w.heap.size + 1 < _ by omega)).trans f2wcp1
      have r2 : ∀ z, Below wcp.heap.size wcp z → z.cell? ⟨w.heap.size + 1, 2, none⟩ = _ := fun z h => (h.cell (p := ⟨w.heap.size + 1, 2, none⟩) (show w.heap.size + 1 < _ by omega)).trans f2wcp2
      have s0 : ∀ z, Below wcp.heap.size wcp z → z.cell? ⟨wbr.heap.size, 0, none⟩ = _ := fun z h => (h.cell (p := ⟨wbr.heap.size, 0, none⟩) (show wbr.heap.size < _ by omega)).trans x2wcp0
      have s1 : ∀ z, Below wcp.heap.size wcp z → z.cell? ⟨wbr.heap.size, 1, none⟩ = _ := fun z h => (h.cell (p := ⟨wbr.heap.size, 1, none⟩) (show wbr.heap.size < _ by omega)).trans x2wcp1
      have s2 : ∀ z, Below wcp.heap.size wcp z → z.cell? ⟨wbr.heap.size, 2, none⟩ = _ := fun z h => (h.cell (p := ⟨wbr.heap.size, 2, none⟩) (show wbr.heap.size < _ by omega)).trans x2wcp2
      clear hwg
      have HMI := Lib.hid fun z (_ : Hid (Below wcp.heap.size wcp z)) => HM2wb.out.below (w' := z) (by (repeat' (first | (with_reducible exact Below.refl _ _) | (with_reducible refine Below.alloc ?_ ?_ _) | (with_reducible refine Below.setCell ?_ ?_ _) | (with_reducible refine Below.drew ?_) | (with_reducible refine below_drewN ?_ _) | (with_reducible refine Below.trans ?_ (Below.mono (Hid.out (by assumption)) ?_)) | omega | (simp; done) | (simp; omega))))
      have HLI := Lib.hid fun z (_ : Hid (Below wcp.heap.size wcp z)) => HL2wb.out.below (w' := z) (by (repeat' (first | (with_reducible exact Below.refl _ _) | (with_reducible refine Below.alloc ?_ ?_ _) | (with_reducible refine Below.setCell ?_ ?_ _) | (with_reducible refine Below.drew ?_) | (with_reducible refine below_drewN ?_ _) | (with_reducible refine Below.trans ?_ (Below.mono (Hid.out (by assumption)) ?_)) | omega | (simp; done) | (simp; omega))))
      go_region_held3 (fun w' => Below wcp.heap.size wcp w') (first | (with_reducible assumption) | ((repeat' (first | (with_reducible exact Below.refl _ _) | (with_reducible refine Below.alloc ?_ ?_ _) | (with_reducible refine Below.setCell ?_ ?_ _) | (with_reducible refine Below.drew ?_) | (with_reducible refine below_drewN ?_ _) | (with_reducible refine Below.trans ?_ (Below.mono (Hid.out (by assumption)) ?_)) | omega | (simp; done) | (simp; omega))); done)) (first
        | (go_at_call 13; (with_reducible refine (HCP2.out _ a2 b2 c2 d2 (HMI.out _ (Lib.hid (by (repeat' (first | (with_reducible exact Below.refl _ _) | (with_reducible refine Below.alloc ?_ ?_ _) | (with_reducible refine Below.setCell ?_ ?_ _) | (with_reducible refine Below.drew ?_) | (with_reducible refine below_drewN ?_ _) | (with_reducible refine Below.trans ?_ (Below.mono (Hid.out (by assumption)) ?_)) | omega | (simp; done) | (simp; omega)))))) (HLI.out _ (Lib.hid (by (repeat' (first | (with_reducible exact Below.refl _ _) | (with_reducible refine Below.alloc ?_ ?_ _) | (with_reducible refine Below.setCell ?_ ?_ _) | (with_reducible refine Below.drew ?_) | (with_reducible refine below_drewN ?_ _) | (with_reducible refine Below.trans ?_ (Below.mono (Hid.out (by assumption)) ?_)) | omega | (simp; done) | (simp; omega))))))).mono ?_); rintro e wcq ⟨g3, g4, rfl, hcop, hb⟩; have HCY := Lib.hid hcop; have hy1 := hcop.lo; have hzwcq := hb.size; (try simp at hy1 hzwcq); have HBwcq := Lib.hid hb; clear hb hcop)
        | (go_at_call 15; (with_reducible refine (eqA_same M G T (by omega) _ _ _ _ _ _ _ _ _ _ _ ((HQ.out.below (by (repeat' (first | (with_reducible exact Below.refl _ _) | (with_reducible refine Below.alloc ?_ ?_ _) | (with_reducible refine Below.setCell ?_ ?_ _) | (with_reducible refine Below.drew ?_) | (with_reducible refine below_drewN ?_ _) | (with_reducible refine Below.trans ?_ (Below.mono (Hid.out (by assumption)) ?_)) | omega | (simp; done) | (simp; omega))))).maps.inRow) ((HCY.out.below (by (repeat' (first | (with_reducible exact Below.refl _ _) | (with_reducible refine Below.alloc ?_ ?_ _) | (with_reducible refine Below.setCell ?_ ?_ _) | (with_reducible refine Below.drew ?_) | (with_reducible refine below_drewN ?_ _) | (with_reducible refine Below.trans ?_ (Below.mono (Hid.out (by assumption)) ?_)) | omega | (simp; done) | (simp; omega))))).maps.inRow) (HQ.out.below (by (repeat' (first | (with_reducible exact Below.refl _ _) | (with_reducible refine Below.alloc ?_ ?_ _) | (with_reducible refine Below.setCell ?_ ?_ _) | (with_reducible refine Below.drew ?_) | (with_reducible refine below_drewN ?_ _) | (with_reducible refine Below.trans ?_ (Below.mono (Hid.out (by assumption)) ?_)) | omega | (simp; done) | (simp; omega))))).last (HCY.out.below (by (repeat' (first | (with_reducible exact Below.refl _ _) | (with_reducible refine Below.alloc ?_ ?_ _) | (with_reducible refine Below.setCell ?_ ?_ _) | (with_reducible refine Below.drew ?_) | (with_reducible refine below_drewN ?_ _) | (with_reducible refine Below.trans ?_ (Below.mono (Hid.out (by assumption)) ?_)) | omega | (simp; done) | (simp; omega))))).last).mono ?_); rintro e wcr ⟨rfl, hb⟩; have hzwcr := hb.size; (try simp at hzwcr); have HBwcr := Lib.hid hb; clear hb))
      clear r0 r1 r2 s0 s1 s2
      have hswcr : wb.heap.size ≤ wcr.heap.size := (by (try simp at hzwcq hzwcr); omega)
      have hq1wcr : w.heap.size < wcr.heap.size := by omega
      have hq2wcr : w.heap.size + 1 < wcr.heap.size := by omega
      have HBX1wcr : Hid (wcr.heap[w.heap.size]? = some (.cells #[.slice a1 L.length c1, .int .i64 F, .slice b1 S.length d1] 25 (0, 0))) := Lib.hid (by (repeat' (first | omega | (rw [hdrew]) | (with_reducible assumption) | (with_reducible exact Hid.out (by assumption)) | (with_reducible rfl) | ((with_reducible refine halloc_at _ _ _ ?_) <;> (first | (with_reducible rfl) | omega | (simp; done))) | (with_reducible refine chain6 ?_) | (with_reducible refine Eq.trans (hset_ne _ _ _ _ ?_) ?_) | (with_reducible refine Eq.trans (halloc_lt _ _ _ ?_) ?_) | (with_reducible refine Eq.trans (Below.block (Hid.out (by assumption)) _ ?_) ?_) | (simp; done) | (simp; omega))))
      have HBX2wcr : Hid (wcr.heap[w.heap.size + 1]? = some (.cells #[.slice a2 M.length c2, .int .i64 G, .slice b2 T.length d2] 25 (0, 0))) := Lib.hid (by (repeat' (first | omega | (rw [hdrew]) | (with_reducible assumption) | (with_reducible exact Hid.out (by assumption)) | (with_reducible rfl) | ((with_reducible refine halloc_at _ _ _ ?_) <;> (first | (with_reducible rfl) | omega | (simp; done))) | (with_reducible refine chain6 ?_) | (with_reducible refine Eq.trans (hset_ne _ _ _ _ ?_) ?_) | (with_reducible refine Eq.trans (halloc_lt _ _ _ ?_) ?_) | (with_reducible refine Eq.trans (Below.block (Hid.out (by assumption)) _ ?_) ?_) | (simp; done) | (simp; omega))))
      have HXX1wcr : Hid (wcr.heap[wbq.heap.size]? = some (.cells #[.slice (some ⟨gwbq1, 0, none⟩) L.length L.length, .int .i64 F, .slice (some ⟨gwbq2, 0, none⟩) S.length S.length] 30 (0, 0))) := Lib.hid (by (repeat' (first | omega | (rw [hdrew]) | (with_reducible assumption) | (with_reducible exact Hid.out (by assumption)) | (with_reducible rfl) | ((with_reducible refine halloc_at _ _ _ ?_) <;> (first | (with_reducible rfl) | omega | (simp; done))) | (with_reducible refine chain6 ?_) | (with_reducible refine Eq.trans (hset_ne _ _ _ _ ?_) ?_) | (with_reducible refine Eq.trans (halloc_lt _ _ _ ?_) ?_) | (with_reducible refine Eq.trans (Below.block (Hid.out (by assumption)) _ ?_) ?_) | (simp; done) | (simp; omega))))
      have hx1wcr : wbq.heap.size < wcr.heap.size := (Array.getElem?_eq_some_iff.1 HXX1wcr.out).1
      have HXX2wcr : Hid (wcr.heap[wbr.heap.size]? = some (.cells #[.slice (some ⟨gwbr1, 0, none⟩) M.length M.length, .int .i64 G, .slice (some ⟨gwbr2, 0, none⟩) T.length T.length] 30 (0, 0))) := Lib.hid (by (repeat' (first | omega | (rw [hdrew]) | (with_reducible assumption) | (with_reducible exact Hid.out (by assumption)) | (with_reducible rfl) | ((with_reducible refine halloc_at _ _ _ ?_) <;> (first | (with_reducible rfl) | omega | (simp; done))) | (with_reducible refine chain6 ?_) | (with_reducible refine Eq.trans (hset_ne _ _ _ _ ?_) ?_) | (with_reducible refine Eq.trans (halloc_lt _ _ _ ?_) ?_) | (with_reducible refine Eq.trans (Below.block (Hid.out (by assumption)) _ ?_) ?_) | (simp; done) | (simp; omega))))
      have hx2wcr : wbr.heap.size < wcr.heap.size := (Array.getElem?_eq_some_iff.1 HXX2wcr.out).1
      have f1wcr0 := Joins.cell_of_block HBX1wcr.out 0
      have f1wcr1 := Joins.cell_of_block HBX1wcr.out 1
      have f1wcr2 := Joins.cell_of_block HBX1wcr.out 2
      simp only [List.getElem?_toArray, List.getElem?_cons_zero, List.getElem?_cons_succ] at f1wcr0 f1wcr1 f1wcr2
      have f2wcr0 := Joins.cell_of_block HBX2wcr.out 0
      have f2wcr1 := Joins.cell_of_block HBX2wcr.out 1
      have f2wcr2 := Joins.cell_of_block HBX2wcr.out 2
      simp only [List.getElem?_toArray, List.getElem?_cons_zero, List.getElem?_cons_succ] at f2wcr0 f2wcr1 f2wcr2
      have x1wcr0 := Joins.cell_of_block HXX1wcr.out 0
      have x1wcr1 := Joins.cell_of_block HXX1wcr.out 1
      have x1wcr2 := Joins.cell_of_block HXX1wcr.out 2
      simp only [List.getElem?_toArray, List.getElem?_cons_zero, List.getElem?_cons_succ] at x1wcr0 x1wcr1 x1wcr2
      have x2wcr0 := Joins.cell_of_block HXX2wcr.out 0
      have x2wcr1 := Joins.cell_of_block HXX2wcr.out 1
      have x2wcr2 := Joins.cell_of_block HXX2wcr.out 2
      simp only [List.getElem?_toArray, List.getElem?_cons_zero, List.getElem?_cons_succ] at x2wcr0 x2wcr1 x2wcr2
      go_wp2_with fail
      go_ret
      refine ⟨rfl, ?_⟩
      have hall := HWB.out
      (repeat' (first | (with_reducible exact Below.refl _ _) | (with_reducible refine Below.alloc ?_ ?_ _) | (with_reducible refine Below.setCell ?_ ?_ _) | (with_reducible refine Below.drew ?_) | (with_reducible refine below_drewN ?_ _) | (with_reducible refine Below.trans ?_ (Below.mono (Hid.out (by assumption)) ?_)) | omega | (simp; done) | (simp; omega)))
    · have HNO := Lib.hid fun w => szA_no M.length T.length h42 h52 a2 b2 c2 d2 G (1048576 - (L.length : Int) - (S.length : Int)) (by omega) (by omega) (by omega) w
      go_enter Try.func7, Try.ntmps7
      go_wp2_with fail
      rw [← hwb]
      refine (HSZ1.out _).mono ?_
      rintro e wy ⟨rfl, hb⟩
      have hby := (hb.block _ (by omega)).trans HBX2wb.out
      have fy0 := Joins.cell_of_block hby 0
      have fy1 := Joins.cell_of_block hby 1
      have fy2 := Joins.cell_of_block hby 2
      simp only [List.getElem?_toArray, List.getElem?_cons_zero, List.getElem?_cons_succ] at fy0 fy1 fy2
      have HYB := Lib.hid (HWB.out.trans (hb.mono (by omega)))
      have hyz := hb.size
      clear hb hby
      have hng1 : ¬ (1048576 - (L.length : Int) - (S.length : Int) < 0) := by omega
      go_wp2_with fail
      refine (HNO.out _).mono ?_
      rintro e wz ⟨rfl, hb⟩
      have HZB := Lib.hid (HYB.out.trans (hb.mono (by omega)))
      clear hb
      go_wp2_with fail
      go_ret
      exact ⟨rfl, HZB.out⟩
  · have HNO := Lib.hid fun w => szA_no L.length S.length h41 h51 a1 b1 c1 d1 F (1048576) (by omega) (by omega) (by omega) w
    go_enter Try.func7, Try.ntmps7
    go_wp2_with fail
    rw [← hwb]
    refine (HNO.out _).mono ?_
    rintro e wz ⟨rfl, hb⟩
    have HZB := Lib.hid (HWB.out.trans (hb.mono (by omega)))
    clear hb
    go_wp2_with fail
    go_ret
    exact ⟨rfl, HZB.out⟩

end LFnExactAreEqual

namespace LFnExactAreEqual
set_option maxRecDepth 100000 in
theorem lifted (os : Os) (started : os.Started) (H : Type) (enc : TypeId × Value → H) :
    ReturnsInHanded {} Try.checked os 7 .any (Rows.fnExactAreEqualSpec.pre6 enc Try.prog Try.f7 Rows.fnExactAreEqualRow.domain false) (Rows.fnExactAreEqualSpec.post enc Try.prog Try.f7 false true false false) := by
  refine returnsInHanded_of_change (C := Try.checked) own started (by kernel_rfl) Try.func7
    (ChangeSpec.witness6 (enc := enc) (C := Try.checked) false ⟨#[], #[.agg #[.slice none 0 0, .int .i64 0, .slice none 0 0], .agg #[.slice none 0 0, .int .i64 0, .slice none 0 0]], []⟩ 8 (by kernel_rfl) (by kernel_rfl) (by kernel_rfl) (by kernel_rfl)) ?_
  intro W base args ds gs before hval0 hW _ _
  have hval : ∀ (j : Nat) t v, Try.f7.params[j]? = some t → args[j]? = some v → Value.okWide Try.prog W .any base t v := hval0
  have hW' := hW
  obtain ⟨p, q, hA0, hV, rfl, hfz, hnd⟩ := hW
  have hA : DataW.TrodAll enc Try.prog W 0 (fun _ => true) true Try.f7.params.toList args.toList ds p := hA0
  rw [Try.params7] at hA hval
  obtain ⟨v0, vs0, d0, ds0, p0, q0, hargs, rfl, rfl, h0, r0⟩ := trodAll_cons hA
  obtain ⟨v1, vs1, d1, ds1, p1, q1, rfl, rfl, rfl, h1, r1⟩ := trodAll_cons r0
  obtain ⟨rfl, rfl, rfl⟩ := trodAll_nil r1
  obtain rfl : args = #[v0, v1] := by cases args; simp_all
  obtain ⟨rfl, rfl⟩ := trodVars_none hV
  have k0 := h0
  have lt0 : ∀ x ∈ p0, x.block < W.heap.size := by obtain ⟨m, hm⟩ := k0; exact DataW.trod_lt m _ _ _ hm
  obtain ⟨a0, L0, c0, f0, b0, s0, e0, rfl, w0, x0, y0⟩ := open_acc (hval 0 25 v0 rfl rfl) h0
  have k1 := h1
  have lt1 : ∀ x ∈ p1, x.block < W.heap.size := by obtain ⟨m, hm⟩ := k1; exact DataW.trod_lt m _ _ _ hm
  obtain ⟨a1, L1, c1, f1, b1, s1, e1, rfl, w1, x1, y1⟩ := open_acc (hval 1 25 v1 rfl rfl) h1
  clear hA0 hval0
  refine (ex_any W a0 L0 c0 f0 b0 s0 e0 w0 x0 y0 a1 L1 c1 f1 b1 s1 e1 w1 x1 y1).mono fun e W' ⟨he, bel⟩ => ?_
  subst he
  exact ⟨_, rfl, _, _, _, [], _, [], hW', trodAll_mk1 (shut_bool Try.underlying4 _), (trodAll_cons_mk (Below.trod laidOut (by kernel_rfl) (of_decide_eq_true (by kernel_rfl)) k0 bel lt0) (trodAll_cons_mk (Below.trod laidOut (by kernel_rfl) (of_decide_eq_true (by kernel_rfl)) k1 bel lt1) trodAll_mk0)), rfl, bel.frame _, fun h => by cases h⟩
theorem joined : joinedFacts Try.pinned.checked.prog 7 Try.f7 Rows.fnExactAreEqualSpec Rows.fnExactAreEqualRow = true := by
  unfold joinedFacts
  simp only [Bool.and_eq_true]
  repeat' apply And.intro
  iterate 25 kernel_rfl
  exact mk_enter
  exact mk_lifts
  exact mk_make
  iterate 4 kernel_rfl
theorem over : Rows.fnExactAreEqualRow.holds Try.pinned (OpenSpec.ofChange Rows.fnExactAreEqualSpec) :=
  OpenClaim.holds_of_wide 7 Try.f7 rfl rfl rfl rfl rfl rfl rfl ⟨rfl, rfl, rfl, rfl, rfl⟩ rfl rfl rfl rfl rfl (by kernel_rfl) Try.func7 joined
    (of_decide_eq_true (by kernel_rfl)) (by unfold Func.isWrapper; rw [if_neg (of_decide_eq_false (by kernel_rfl))]; exact ⟨rfl, rfl⟩)
    (fun os started H enc _ => lifted os started H enc)
/-- The statement of FnExactAreEqual. -/
theorem proved : Rows.FnExactAreEqualSaid := over
#print axioms proved
end LFnExactAreEqual

end Go.Proofs.Ytiakoplfknkhmaa
