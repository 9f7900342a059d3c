/- The law FnExactFirstDifferent is true at every input: impl.FirstDifferent and spec.FirstDifferent answer alike, and the acceptors that came in stay as they were. No conditions. -/
import Derived.Test.YtiakoplfknkhmaaMk
import Derived.Test.YtiakoplfknkhmaaDfs
import Derived.Test.YtiakoplfknkhmaaAcs
namespace Go.Proofs.Ytiakoplfknkhmaa
open Go.ChangeShapes Go.WideShapes Go.ChangeAt Go.RowKit
set_option maxRecDepth 100000 in
set_option maxHeartbeats 1000000 in
theorem markA2_any (L : List MapN) (F : Int) (S : List Int) (a b : Option Addr) (c d B1 B2 : Nat) (k0 : Int) (hk0 : 0 ≤ k0) (hk1 : k0 ≤ 8000000) (hl : L.length ≤ 2000000) (_ : S.length ≤ 2000000) (w : World) (ha : ∀ k, a = some ⟨k, 0, none⟩ → k < w.heap.size ∧ b ≠ some ⟨k, 0, none⟩) (h1 : RdM w B1 a L) (h2 : Rd w B2 b S) :
    Calls Try.prog 19 #[.agg #[.slice a L.length c, .int .i64 F, .slice b S.length d], .int .i64 k0] w (MarkedA w B1 B2 a b L.length S.length k0) := by
  have HM := Lib.hid fun wx (hb : Below w.heap.size w wx) => markM_any L a c B1 k0 hk0 (by omega) wx (h1.below hb)
  have HS := Lib.hid fun wx (hb : Rd wx B2 b S) => markS_any S b d B2 (k0 + 6 * L.length) (by omega) (by omega) wx hb
  have HR2 := Lib.hid h2
  clear h1 h2
  go_enter Try.func19, Try.ntmps19
  go_wp2_with fail
  refine (HM.out _ (by (repeat' (first | (with_reducible exact Below.refl _ _) | (with_reducible refine Below.alloc ?_ ?_ _) | (with_reducible refine Below.setCell ?_ ?_ _) | (with_reducible refine Below.drew ?_) | (with_reducible refine below_drewN ?_ _) | (with_reducible refine Below.trans ?_ (Below.mono (Hid.out (by assumption)) ?_)) | omega | (simp; done) | (simp; omega))))).mono ?_
  rintro e w1 ⟨rfl, hr, hbut, _⟩
  have hz1 := hbut.size
  have hbx := (hbut.block w.heap.size (fun e => by have := (ha _ e).1; omega)).trans (halloc_at _ _ _ rfl)
  have x2 := Joins.cell_of_block hbx 2
  simp at x2 hz1
  have HB := Lib.hid hbut.turnA
  have HR := Lib.hid hr
  have HR2' := Lib.hid ((HR2.out.below ((Below.refl _ _).alloc (Nat.le_refl _) _)).turnA HB.out (fun k _ e h => (ha k h).2 e))
  clear hr hbut hbx HM
  go_wp2_with fail
  refine (HS.out _ HR2'.out).mono ?_
  rintro e w2 ⟨rfl, hr2, hbut2, _⟩
  have HB2 := Lib.hid hbut2.turnA
  have HR3 := Lib.hid hr2
  clear hr2 hbut2 HS
  go_wp2_with fail
  go_ret
  refine ⟨rfl, HR.out.turn HB2.out (fun k _ e h => (ha k e).2 h), HR3.out, ?_⟩
  have t0 : Turn w (w.alloc (.cells #[.slice a L.length c, .int .i64 F, .slice b S.length d] 30)) (fun k => a = some ⟨k, 0, none⟩ ∨ b = some ⟨k, 0, none⟩) := Turn.of_below ((Below.refl _ _).alloc (Nat.le_refl _) _)
  exact t0.trans ((HB.out.mono fun k _ h => Or.inl h).trans (HB2.out.mono fun k _ h => Or.inr h))

theorem Cop.turn {w w' : World} {B g1 g2 : Nat} {L : List MapN} {S : List Int} {P : Nat → Prop} (h : Cop w B g1 g2 L S) (ht : Turn w w' P) (hP : ∀ k, B ≤ k → ¬ P k) : Cop w' B g1 g2 L S :=
  ⟨h.maps.turn ht (fun k hk _ => hP k hk), h.last.turnA ht (fun k hk _ => hP k hk), h.lo, h.lt, Nat.lt_of_lt_of_le h.hi ht.size⟩

namespace LFnExactFirstDifferent

set_option maxRecDepth 100000 in
set_option maxHeartbeats 8000000 in
theorem ex_any (w : World) (a1 : Option Addr) (L : List MapN) (c1 : Nat) (F : Int) (b1 : Option Addr) (S : List Int) (d1 : Nat) (hw1 : InAcc w a1 b1 c1 L S) (_ : (Lit.int .i64 F).wf = true) (_ : ∀ x ∈ S, (Lit.int .i64 x).wf = true) (a2 : Option Addr) (M : List MapN) (c2 : Nat) (G : Int) (b2 : Option Addr) (T : List Int) (d2 : Nat) (hw2 : InAcc w a2 b2 c2 M T) (_ : (Lit.int .i64 G).wf = true) (_ : ∀ x ∈ T, (Lit.int .i64 x).wf = true) :
    Calls Try.prog 8 #[.agg #[.slice a1 L.length c1, .int .i64 F, .slice b1 S.length d1], .agg #[.slice a2 M.length c2, .int .i64 G, .slice b2 T.length d2]] w fun e w' => e = .returned (.bool true) ∧ Below w.heap.size w w' := by
  obtain ⟨h11, h21, _, h41, h51⟩ := hw1
  obtain ⟨h12, h22, _, h42, h52⟩ := hw2
  obtain ⟨wb, hwb⟩ : ∃ wb, wb = (w.alloc (.cells #[.slice a1 L.length c1, .int .i64 F, .slice b1 S.length d1] 25)).alloc (.cells #[.slice a2 M.length c2, .int .i64 G, .slice b2 T.length d2] 25) := ⟨_, rfl⟩
  have HBX1wb : Hid (wb.heap[w.heap.size]? = some (.cells #[.slice a1 L.length c1, .int .i64 F, .slice b1 S.length d1] 25 (0, 0))) := Lib.hid (by rw [hwb]; exact ((halloc_lt _ _ _ (by simp)).trans (halloc_at _ _ _ rfl)))
  have HBX2wb : Hid (wb.heap[w.heap.size + 1]? = some (.cells #[.slice a2 M.length c2, .int .i64 G, .slice b2 T.length d2] 25 (0, 0))) := Lib.hid (by rw [hwb]; exact (halloc_at _ _ _ (by simp)))
  have hwz : w.heap.size + 1 + 1 ≤ wb.heap.size := by rw [hwb]; simp
  have HWB : Hid (Below w.heap.size w wb) := Lib.hid (by rw [hwb]; exact ((Below.refl _ _).alloc (Nat.le_refl _) _).alloc (by simp) _)
  have HM1wb := Lib.hid (h11.below HWB.out)
  have HL1wb := Lib.hid (h21.below HWB.out)
  clear h11 h21
  have HM2wb := Lib.hid (h12.below HWB.out)
  have HL2wb := Lib.hid (h22.below HWB.out)
  clear h12 h22
  by_cases hz1 : (L.length : Int) + S.length ≤ 1048576
  · have hng1 : ¬ (1048576 - (L.length : Int) - (S.length : Int) < 0) := by omega
    have HSZ1 := Lib.hid fun w => szA_ok L.length S.length a1 b1 c1 d1 F (1048576) (by omega) hz1 w
    have HCP1 := Lib.hid fun wx a b c d h1 h2 => toA_any L (by omega) F S (by omega) a b c d wx h1 h2
    by_cases hz2 : (M.length : Int) + T.length ≤ 1048576 - (L.length : Int) - (S.length : Int)
    · have hng2 : ¬ (1048576 - (L.length : Int) - (S.length : Int) - (M.length : Int) - (T.length : Int) < 0) := by omega
      have HSZ2 := Lib.hid fun w => szA_ok M.length T.length a2 b2 c2 d2 G (1048576 - (L.length : Int) - (S.length : Int)) (by omega) hz2 w
      have HCP2 := Lib.hid fun wx a b c d h1 h2 => toA_any M (by omega) G T (by omega) a b c d wx h1 h2
      have HS := fun w (g11 g12 : Nat) (g21 g22 : Nat) h11 h12 h21 h22 => sdif_any L (by omega) F S (by omega) M (by omega) G T (by omega) (some ⟨g11, 0, none⟩) (some ⟨g12, 0, none⟩) L.length S.length (fun e => by cases e) (some ⟨g21, 0, none⟩) (some ⟨g22, 0, none⟩) M.length T.length (fun e => by cases e) w h11 h12 h21 h22
      have HI := fun w (g11 g12 : Nat) (g21 g22 : Nat) h11 h12 h21 h22 => idif_any L (by omega) F S (by omega) M (by omega) G T (by omega) (some ⟨g11, 0, none⟩) (some ⟨g12, 0, none⟩) L.length S.length (fun e => by cases e) (some ⟨g21, 0, none⟩) (some ⟨g22, 0, none⟩) M.length T.length (fun e => by cases e) w h11 h12 h21 h22
      generalize difW L F S M G T = R at *
      generalize difC L F S M G T = C at *
      have HS := Lib.hid HS
      have HI := Lib.hid HI
      go_enter Try.func8, Try.ntmps8
      go_wp2_with fail
      rw [← hwb]
      clear hwb
      have f1wb0 := Joins.cell_of_block HBX1wb.out 0
      have f1wb1 := Joins.cell_of_block HBX1wb.out 1
      have f1wb2 := Joins.cell_of_block HBX1wb.out 2
      simp only [List.getElem?_toArray, List.getElem?_cons_zero, List.getElem?_cons_succ] at f1wb0 f1wb1 f1wb2
      have f2wb0 := Joins.cell_of_block HBX2wb.out 0
      have f2wb1 := Joins.cell_of_block HBX2wb.out 1
      have f2wb2 := Joins.cell_of_block HBX2wb.out 2
      simp only [List.getElem?_toArray, List.getElem?_cons_zero, List.getElem?_cons_succ] at f2wb0 f2wb1 f2wb2
      refine (HSZ1.out _).mono ?_
      rintro e waq ⟨rfl, hb⟩
      have hzwaq := hb.size
      (try simp at hzwaq)
      have hswaq : wb.heap.size ≤ waq.heap.size := (by have := hb.size; (try simp at this); omega)
      have HBwaq := Lib.hid hb
      clear hb
      have hq1waq : w.heap.size < waq.heap.size := by omega
      have hq2waq : w.heap.size + 1 < waq.heap.size := by omega
      have HBX1waq : Hid (waq.heap[w.heap.size]? = some (.cells #[.slice a1 L.length c1, .int .i64 F, .slice b1 S.length d1] 25 (0, 0))) := Lib.hid (by (repeat' (first | omega | (rw [hdrew]) | (with_reducible assumption) | (with_reducible exact Hid.out (by assumption)) | (with_reducible rfl) | ((with_reducible refine halloc_at _ _ _ ?_) <;> (first | (with_reducible rfl) | omega | (simp; done))) | (with_reducible refine chain6 ?_) | (with_reducible refine Eq.trans (hset_ne _ _ _ _ ?_) ?_) | (with_reducible refine Eq.trans (halloc_lt _ _ _ ?_) ?_) | (with_reducible refine Eq.trans (Below.block (Hid.out (by assumption)) _ ?_) ?_) | (simp; done) | (simp; omega))))
      have HBX2waq : Hid (waq.heap[w.heap.size + 1]? = some (.cells #[.slice a2 M.length c2, .int .i64 G, .slice b2 T.length d2] 25 (0, 0))) := Lib.hid (by (repeat' (first | omega | (rw [hdrew]) | (with_reducible assumption) | (with_reducible exact Hid.out (by assumption)) | (with_reducible rfl) | ((with_reducible refine halloc_at _ _ _ ?_) <;> (first | (with_reducible rfl) | omega | (simp; done))) | (with_reducible refine chain6 ?_) | (with_reducible refine Eq.trans (hset_ne _ _ _ _ ?_) ?_) | (with_reducible refine Eq.trans (halloc_lt _ _ _ ?_) ?_) | (with_reducible refine Eq.trans (Below.block (Hid.out (by assumption)) _ ?_) ?_) | (simp; done) | (simp; omega))))
      have f1waq0 := Joins.cell_of_block HBX1waq.out 0
      have f1waq1 := Joins.cell_of_block HBX1waq.out 1
      have f1waq2 := Joins.cell_of_block HBX1waq.out 2
      simp only [List.getElem?_toArray, List.getElem?_cons_zero, List.getElem?_cons_succ] at f1waq0 f1waq1 f1waq2
      have f2waq0 := Joins.cell_of_block HBX2waq.out 0
      have f2waq1 := Joins.cell_of_block HBX2waq.out 1
      have f2waq2 := Joins.cell_of_block HBX2waq.out 2
      simp only [List.getElem?_toArray, List.getElem?_cons_zero, List.getElem?_cons_succ] at f2waq0 f2waq1 f2waq2
      go_wp2_with fail
      refine (HSZ2.out _).mono ?_
      rintro e war ⟨rfl, hb⟩
      have hzwar := hb.size
      (try simp at hzwar)
      have hswar : wb.heap.size ≤ war.heap.size := (by have := hb.size; (try simp at this); omega)
      have HBwar := Lib.hid hb
      clear hb
      have hq1war : w.heap.size < war.heap.size := by omega
      have hq2war : w.heap.size + 1 < war.heap.size := by omega
      have HBX1war : Hid (war.heap[w.heap.size]? = some (.cells #[.slice a1 L.length c1, .int .i64 F, .slice b1 S.length d1] 25 (0, 0))) := Lib.hid (by (repeat' (first | omega | (rw [hdrew]) | (with_reducible assumption) | (with_reducible exact Hid.out (by assumption)) | (with_reducible rfl) | ((with_reducible refine halloc_at _ _ _ ?_) <;> (first | (with_reducible rfl) | omega | (simp; done))) | (with_reducible refine chain6 ?_) | (with_reducible refine Eq.trans (hset_ne _ _ _ _ ?_) ?_) | (with_reducible refine Eq.trans (halloc_lt _ _ _ ?_) ?_) | (with_reducible refine Eq.trans (Below.block (Hid.out (by assumption)) _ ?_) ?_) | (simp; done) | (simp; omega))))
      have HBX2war : Hid (war.heap[w.heap.size + 1]? = some (.cells #[.slice a2 M.length c2, .int .i64 G, .slice b2 T.length d2] 25 (0, 0))) := Lib.hid (by (repeat' (first | omega | (rw [hdrew]) | (with_reducible assumption) | (with_reducible exact Hid.out (by assumption)) | (with_reducible rfl) | ((with_reducible refine halloc_at _ _ _ ?_) <;> (first | (with_reducible rfl) | omega | (simp; done))) | (with_reducible refine chain6 ?_) | (with_reducible refine Eq.trans (hset_ne _ _ _ _ ?_) ?_) | (with_reducible refine Eq.trans (halloc_lt _ _ _ ?_) ?_) | (with_reducible refine Eq.trans (Below.block (Hid.out (by assumption)) _ ?_) ?_) | (simp; done) | (simp; omega))))
      have f1war0 := Joins.cell_of_block HBX1war.out 0
      have f1war1 := Joins.cell_of_block HBX1war.out 1
      have f1war2 := Joins.cell_of_block HBX1war.out 2
      simp only [List.getElem?_toArray, List.getElem?_cons_zero, List.getElem?_cons_succ] at f1war0 f1war1 f1war2
      have f2war0 := Joins.cell_of_block HBX2war.out 0
      have f2war1 := Joins.cell_of_block HBX2war.out 1
      have f2war2 := Joins.cell_of_block HBX2war.out 2
      simp only [List.getElem?_toArray, List.getElem?_cons_zero, List.getElem?_cons_succ] at f2war0 f2war1 f2war2
      go_wp2_with fail
      have r10 : ∀ z, Below war.heap.size war z → z.cell? ⟨w.heap.size, 0, none⟩ = _ := fun z h => (h.cell (p := ⟨w.heap.size, 0, none⟩) (show w.heap.size < _ by omega)).trans f1war0
      have r11 : ∀ z, Below war.heap.size war z → z.cell? ⟨w.heap.size, 1, none⟩ = _ := fun z h => (h.cell (p := ⟨w.heap.size, 1, none⟩) (show w.heap.size < _ by omega)).trans f1war1
      have r12 : ∀ z, Below war.heap.size war z → z.cell? ⟨w.heap.size, 2, none⟩ = _ := fun z h => (h.cell (p := ⟨w.heap.size, 2, none⟩) (show w.heap.size < _ by omega)).trans f1war2
      have HMI1 := Lib.hid fun z (_ : Hid (Below war.heap.size war z)) => HM1wb.out.below (w' := z) (by (repeat' (first | (with_reducible exact Below.refl _ _) | (with_reducible refine Below.alloc ?_ ?_ _) | (with_reducible refine Below.setCell ?_ ?_ _) | (with_reducible refine Below.drew ?_) | (with_reducible refine below_drewN ?_ _) | (with_reducible refine Below.trans ?_ (Below.mono (Hid.out (by assumption)) ?_)) | omega | (simp; done) | (simp; omega))))
      have HLI1 := Lib.hid fun z (_ : Hid (Below war.heap.size war z)) => HL1wb.out.below (w' := z) (by (repeat' (first | (with_reducible exact Below.refl _ _) | (with_reducible refine Below.alloc ?_ ?_ _) | (with_reducible refine Below.setCell ?_ ?_ _) | (with_reducible refine Below.drew ?_) | (with_reducible refine below_drewN ?_ _) | (with_reducible refine Below.trans ?_ (Below.mono (Hid.out (by assumption)) ?_)) | omega | (simp; done) | (simp; omega))))
      have r20 : ∀ z, Below war.heap.size war z → z.cell? ⟨w.heap.size + 1, 0, none⟩ = _ := fun z h => (h.cell (p := ⟨w.heap.size + 1, 0, none⟩) (show w.heap.size + 1 < _ by omega)).trans f2war0
      have r21 : ∀ z, Below war.heap.size war z → z.cell? ⟨w.heap.size + 1, 1, none⟩ = _ := fun z h => (h.cell (p := ⟨w.heap.size + 1, 1, none⟩) (show w.heap.size + 1 < _ by omega)).trans f2war1
      have r22 : ∀ z, Below war.heap.size war z → z.cell? ⟨w.heap.size + 1, 2, none⟩ = _ := fun z h => (h.cell (p := ⟨w.heap.size + 1, 2, none⟩) (show w.heap.size + 1 < _ by omega)).trans f2war2
      have HMI2 := Lib.hid fun z (_ : Hid (Below war.heap.size war z)) => HM2wb.out.below (w' := z) (by (repeat' (first | (with_reducible exact Below.refl _ _) | (with_reducible refine Below.alloc ?_ ?_ _) | (with_reducible refine Below.setCell ?_ ?_ _) | (with_reducible refine Below.drew ?_) | (with_reducible refine below_drewN ?_ _) | (with_reducible refine Below.trans ?_ (Below.mono (Hid.out (by assumption)) ?_)) | omega | (simp; done) | (simp; omega))))
      have HLI2 := Lib.hid fun z (_ : Hid (Below war.heap.size war z)) => HL2wb.out.below (w' := z) (by (repeat' (first | (with_reducible exact Below.refl _ _) | (with_reducible refine Below.alloc ?_ ?_ _) | (with_reducible refine Below.setCell ?_ ?_ _) | (with_reducible refine Below.drew ?_) | (with_reducible refine below_drewN ?_ _) | (with_reducible refine Below.trans ?_ (Below.mono (Hid.out (by assumption)) ?_)) | omega | (simp; done) | (simp; omega))))
      go_region_held3 (fun w' => Below war.heap.size war w') (first | (with_reducible assumption) | ((repeat' (first | (with_reducible exact Below.refl _ _) | (with_reducible refine Below.alloc ?_ ?_ _) | (with_reducible refine Below.setCell ?_ ?_ _) | (with_reducible refine Below.drew ?_) | (with_reducible refine below_drewN ?_ _) | (with_reducible refine Below.trans ?_ (Below.mono (Hid.out (by assumption)) ?_)) | omega | (simp; done) | (simp; omega))); done)) (first
        | (go_at_call 13; (with_reducible refine (HCP1.out _ a1 b1 c1 d1 (HMI1.out _ (Lib.hid (by (repeat' (first | (with_reducible exact Below.refl _ _) | (with_reducible refine Below.alloc ?_ ?_ _) | (with_reducible refine Below.setCell ?_ ?_ _) | (with_reducible refine Below.drew ?_) | (with_reducible refine below_drewN ?_ _) | (with_reducible refine Below.trans ?_ (Below.mono (Hid.out (by assumption)) ?_)) | omega | (simp; done) | (simp; omega)))))) (HLI1.out _ (Lib.hid (by (repeat' (first | (with_reducible exact Below.refl _ _) | (with_reducible refine Below.alloc ?_ ?_ _) | (with_reducible refine Below.setCell ?_ ?_ _) | (with_reducible refine Below.drew ?_) | (with_reducible refine below_drewN ?_ _) | (with_reducible refine Below.trans ?_ (Below.mono (Hid.out (by assumption)) ?_)) | omega | (simp; done) | (simp; omega))))))).mono ?_); rintro e was ⟨gwas1, gwas2, rfl, hcop, hb⟩; have HCwas := Lib.hid hcop; have hlowas := hcop.lo; have hzwas := hb.size; (try simp at hlowas hzwas); have HBwas := Lib.hid hb; clear hb hcop)
        | (go_at_call 13; (with_reducible refine (HCP2.out _ a2 b2 c2 d2 (HMI2.out _ (Lib.hid (by (repeat' (first | (with_reducible exact Below.refl _ _) | (with_reducible refine Below.alloc ?_ ?_ _) | (with_reducible refine Below.setCell ?_ ?_ _) | (with_reducible refine Below.drew ?_) | (with_reducible refine below_drewN ?_ _) | (with_reducible refine Below.trans ?_ (Below.mono (Hid.out (by assumption)) ?_)) | omega | (simp; done) | (simp; omega)))))) (HLI2.out _ (Lib.hid (by (repeat' (first | (with_reducible exact Below.refl _ _) | (with_reducible refine Below.alloc ?_ ?_ _) | (with_reducible refine Below.setCell ?_ ?_ _) | (with_reducible refine Below.drew ?_) | (with_reducible refine below_drewN ?_ _) | (with_reducible refine Below.trans ?_ (Below.mono (Hid.out (by assumption)) ?_)) | omega | (simp; done) | (simp; omega))))))).mono ?_); rintro e wat ⟨gwat1, gwat2, rfl, hcop, hb⟩; have HCwat := Lib.hid hcop; have hlowat := hcop.lo; have hzwat := hb.size; (try simp at hlowat hzwat); have HBwat := Lib.hid hb; clear hb hcop)
        | (go_at_call 29; (with_reducible refine (HS.out _ _ _ _ _ ((HCwas.out.below (by (repeat' (first | (with_reducible exact Below.refl _ _) | (with_reducible refine Below.alloc ?_ ?_ _) | (with_reducible refine Below.setCell ?_ ?_ _) | (with_reducible refine Below.drew ?_) | (with_reducible refine below_drewN ?_ _) | (with_reducible refine Below.trans ?_ (Below.mono (Hid.out (by assumption)) ?_)) | omega | (simp; done) | (simp; omega))))).maps.inRow) ((HCwas.out.below (by (repeat' (first | (with_reducible exact Below.refl _ _) | (with_reducible refine Below.alloc ?_ ?_ _) | (with_reducible refine Below.setCell ?_ ?_ _) | (with_reducible refine Below.drew ?_) | (with_reducible refine below_drewN ?_ _) | (with_reducible refine Below.trans ?_ (Below.mono (Hid.out (by assumption)) ?_)) | omega | (simp; done) | (simp; omega))))).last.inRow) ((HCwat.out.below (by (repeat' (first | (with_reducible exact Below.refl _ _) | (with_reducible refine Below.alloc ?_ ?_ _) | (with_reducible refine Below.setCell ?_ ?_ _) | (with_reducible refine Below.drew ?_) | (with_reducible refine below_drewN ?_ _) | (with_reducible refine Below.trans ?_ (Below.mono (Hid.out (by assumption)) ?_)) | omega | (simp; done) | (simp; omega))))).maps.inRow) ((HCwat.out.below (by (repeat' (first | (with_reducible exact Below.refl _ _) | (with_reducible refine Below.alloc ?_ ?_ _) | (with_reducible refine Below.setCell ?_ ?_ _) | (with_reducible refine Below.drew ?_) | (with_reducible refine below_drewN ?_ _) | (with_reducible refine Below.trans ?_ (Below.mono (Hid.out (by assumption)) ?_)) | omega | (simp; done) | (simp; omega))))).last.inRow)).mono ?_); rintro e wbp ⟨awbp, cwbp, rfl, hr, hb⟩; have HRwbp := Lib.hid hr; clear hr; have hzwbp := hb.size; (try simp at hzwbp); have HBwbp := Lib.hid hb; clear hb))
      clear r10 r11 r12 r20 r21 r22
      have hswbp : wb.heap.size ≤ wbp.heap.size := (by (try simp at hzwas hzwat hzwbp); omega)
      have hq1wbp : w.heap.size < wbp.heap.size := by omega
      have hq2wbp : w.heap.size + 1 < wbp.heap.size := by omega
      have HBX1wbp : Hid (wbp.heap[w.heap.size]? = some (.cells #[.slice a1 L.length c1, .int .i64 F, .slice b1 S.length d1] 25 (0, 0))) := Lib.hid (by (repeat' (first | omega | (rw [hdrew]) | (with_reducible assumption) | (with_reducible exact Hid.out (by assumption)) | (with_reducible rfl) | ((with_reducible refine halloc_at _ _ _ ?_) <;> (first | (with_reducible rfl) | omega | (simp; done))) | (with_reducible refine chain6 ?_) | (with_reducible refine Eq.trans (hset_ne _ _ _ _ ?_) ?_) | (with_reducible refine Eq.trans (halloc_lt _ _ _ ?_) ?_) | (with_reducible refine Eq.trans (Below.block (Hid.out (by assumption)) _ ?_) ?_) | (simp; done) | (simp; omega))))
      have HBX2wbp : Hid (wbp.heap[w.heap.size + 1]? = some (.cells #[.slice a2 M.length c2, .int .i64 G, .slice b2 T.length d2] 25 (0, 0))) := Lib.hid (by (repeat' (first | omega | (rw [hdrew]) | (with_reducible assumption) | (with_reducible exact Hid.out (by assumption)) | (with_reducible rfl) | ((with_reducible refine halloc_at _ _ _ ?_) <;> (first | (with_reducible rfl) | omega | (simp; done))) | (with_reducible refine chain6 ?_) | (with_reducible refine Eq.trans (hset_ne _ _ _ _ ?_) ?_) | (with_reducible refine Eq.trans (halloc_lt _ _ _ ?_) ?_) | (with_reducible refine Eq.trans (Below.block (Hid.out (by assumption)) _ ?_) ?_) | (simp; done) | (simp; omega))))
      have f1wbp0 := Joins.cell_of_block HBX1wbp.out 0
      have f1wbp1 := Joins.cell_of_block HBX1wbp.out 1
      have f1wbp2 := Joins.cell_of_block HBX1wbp.out 2
      simp only [List.getElem?_toArray, List.getElem?_cons_zero, List.getElem?_cons_succ] at f1wbp0 f1wbp1 f1wbp2
      have f2wbp0 := Joins.cell_of_block HBX2wbp.out 0
      have f2wbp1 := Joins.cell_of_block HBX2wbp.out 1
      have f2wbp2 := Joins.cell_of_block HBX2wbp.out 2
      simp only [List.getElem?_toArray, List.getElem?_cons_zero, List.getElem?_cons_succ] at f2wbp0 f2wbp1 f2wbp2
      go_wp2_with fail
      refine (HCP1.out _ a1 b1 c1 d1 (HM1wb.out.below (by (repeat' (first | (with_reducible exact Below.refl _ _) | (with_reducible refine Below.alloc ?_ ?_ _) | (with_reducible refine Below.setCell ?_ ?_ _) | (with_reducible refine Below.drew ?_) | (with_reducible refine below_drewN ?_ _) | (with_reducible refine Below.trans ?_ (Below.mono (Hid.out (by assumption)) ?_)) | omega | (simp; done) | (simp; omega))))) (HL1wb.out.below (by (repeat' (first | (with_reducible exact Below.refl _ _) | (with_reducible refine Below.alloc ?_ ?_ _) | (with_reducible refine Below.setCell ?_ ?_ _) | (with_reducible refine Below.drew ?_) | (with_reducible refine below_drewN ?_ _) | (with_reducible refine Below.trans ?_ (Below.mono (Hid.out (by assumption)) ?_)) | omega | (simp; done) | (simp; omega)))))).mono ?_
      rintro e wbq ⟨gwbq1, gwbq2, rfl, hcop, hb⟩
      have HCwbq := Lib.hid hcop
      have hlowbq := hcop.lo
      have hltwbq := hcop.lt
      have hhiwbq := hcop.hi
      (try simp at hlowbq)
      clear hcop
      have hzwbq := hb.size
      (try simp at hzwbq)
      have hswbq : wb.heap.size ≤ wbq.heap.size := (by have := hb.size; (try simp at this); omega)
      have HBwbq := Lib.hid hb
      clear hb
      have hq1wbq : w.heap.size < wbq.heap.size := by omega
      have hq2wbq : w.heap.size + 1 < wbq.heap.size := by omega
      have HBX1wbq : Hid (wbq.heap[w.heap.size]? = some (.cells #[.slice a1 L.length c1, .int .i64 F, .slice b1 S.length d1] 25 (0, 0))) := Lib.hid (by (repeat' (first | omega | (rw [hdrew]) | (with_reducible assumption) | (with_reducible exact Hid.out (by assumption)) | (with_reducible rfl) | ((with_reducible refine halloc_at _ _ _ ?_) <;> (first | (with_reducible rfl) | omega | (simp; done))) | (with_reducible refine chain6 ?_) | (with_reducible refine Eq.trans (hset_ne _ _ _ _ ?_) ?_) | (with_reducible refine Eq.trans (halloc_lt _ _ _ ?_) ?_) | (with_reducible refine Eq.trans (Below.block (Hid.out (by assumption)) _ ?_) ?_) | (simp; done) | (simp; omega))))
      have HBX2wbq : Hid (wbq.heap[w.heap.size + 1]? = some (.cells #[.slice a2 M.length c2, .int .i64 G, .slice b2 T.length d2] 25 (0, 0))) := Lib.hid (by (repeat' (first | omega | (rw [hdrew]) | (with_reducible assumption) | (with_reducible exact Hid.out (by assumption)) | (with_reducible rfl) | ((with_reducible refine halloc_at _ _ _ ?_) <;> (first | (with_reducible rfl) | omega | (simp; done))) | (with_reducible refine chain6 ?_) | (with_reducible refine Eq.trans (hset_ne _ _ _ _ ?_) ?_) | (with_reducible refine Eq.trans (halloc_lt _ _ _ ?_) ?_) | (with_reducible refine Eq.trans (Below.block (Hid.out (by assumption)) _ ?_) ?_) | (simp; done) | (simp; omega))))
      have f1wbq0 := Joins.cell_of_block HBX1wbq.out 0
      have f1wbq1 := Joins.cell_of_block HBX1wbq.out 1
      have f1wbq2 := Joins.cell_of_block HBX1wbq.out 2
      simp only [List.getElem?_toArray, List.getElem?_cons_zero, List.getElem?_cons_succ] at f1wbq0 f1wbq1 f1wbq2
      have f2wbq0 := Joins.cell_of_block HBX2wbq.out 0
      have f2wbq1 := Joins.cell_of_block HBX2wbq.out 1
      have f2wbq2 := Joins.cell_of_block HBX2wbq.out 2
      simp only [List.getElem?_toArray, List.getElem?_cons_zero, List.getElem?_cons_succ] at f2wbq0 f2wbq1 f2wbq2
      go_wp2_with fail
      refine (HCP2.out _ a2 b2 c2 d2 (HM2wb.out.below (by (repeat' (first | (with_reducible exact Below.refl _ _) | (with_reducible refine Below.alloc ?_ ?_ _) | (with_reducible refine Below.setCell ?_ ?_ _) | (with_reducible refine Below.drew ?_) | (with_reducible refine below_drewN ?_ _) | (with_reducible refine Below.trans ?_ (Below.mono (Hid.out (by assumption)) ?_)) | omega | (simp; done) | (simp; omega))))) (HL2wb.out.below (by (repeat' (first | (with_reducible exact Below.refl _ _) | (with_reducible refine Below.alloc ?_ ?_ _) | (with_reducible refine Below.setCell ?_ ?_ _) | (with_reducible refine Below.drew ?_) | (with_reducible refine below_drewN ?_ _) | (with_reducible refine Below.trans ?_ (Below.mono (Hid.out (by assumption)) ?_)) | omega | (simp; done) | (simp; omega)))))).mono ?_
      rintro e wbr ⟨gwbr1, gwbr2, rfl, hcop, hb⟩
      have HCwbr := Lib.hid hcop
      have hlowbr := hcop.lo
      have hltwbr := hcop.lt
      have hhiwbr := hcop.hi
      (try simp at hlowbr)
      clear hcop
      have hzwbr := hb.size
      (try simp at hzwbr)
      have hswbr : wb.heap.size ≤ wbr.heap.size := (by have := hb.size; (try simp at this); omega)
      have HBwbr := Lib.hid hb
      clear hb
      have hq1wbr : w.heap.size < wbr.heap.size := by omega
      have hq2wbr : w.heap.size + 1 < wbr.heap.size := by omega
      have HBX1wbr : Hid (wbr.heap[w.heap.size]? = some (.cells #[.slice a1 L.length c1, .int .i64 F, .slice b1 S.length d1] 25 (0, 0))) := Lib.hid (by (repeat' (first | omega | (rw [hdrew]) | (with_reducible assumption) | (with_reducible exact Hid.out (by assumption)) | (with_reducible rfl) | ((with_reducible refine halloc_at _ _ _ ?_) <;> (first | (with_reducible rfl) | omega | (simp; done))) | (with_reducible refine chain6 ?_) | (with_reducible refine Eq.trans (hset_ne _ _ _ _ ?_) ?_) | (with_reducible refine Eq.trans (halloc_lt _ _ _ ?_) ?_) | (with_reducible refine Eq.trans (Below.block (Hid.out (by assumption)) _ ?_) ?_) | (simp; done) | (simp; omega))))
      have HBX2wbr : Hid (wbr.heap[w.heap.size + 1]? = some (.cells #[.slice a2 M.length c2, .int .i64 G, .slice b2 T.length d2] 25 (0, 0))) := Lib.hid (by (repeat' (first | omega | (rw [hdrew]) | (with_reducible assumption) | (with_reducible exact Hid.out (by assumption)) | (with_reducible rfl) | ((with_reducible refine halloc_at _ _ _ ?_) <;> (first | (with_reducible rfl) | omega | (simp; done))) | (with_reducible refine chain6 ?_) | (with_reducible refine Eq.trans (hset_ne _ _ _ _ ?_) ?_) | (with_reducible refine Eq.trans (halloc_lt _ _ _ ?_) ?_) | (with_reducible refine Eq.trans (Below.block (Hid.out (by assumption)) _ ?_) ?_) | (simp; done) | (simp; omega))))
      have HXX1wbr : Hid (wbr.heap[wbq.heap.size]? = some (.cells #[.slice (some ⟨gwbq1, 0, none⟩) L.length L.length, .int .i64 F, .slice (some ⟨gwbq2, 0, none⟩) S.length S.length] 30 (0, 0))) := Lib.hid (by (repeat' (first | omega | (rw [hdrew]) | (with_reducible assumption) | (with_reducible exact Hid.out (by assumption)) | (with_reducible rfl) | ((with_reducible refine halloc_at _ _ _ ?_) <;> (first | (with_reducible rfl) | omega | (simp; done))) | (with_reducible refine chain6 ?_) | (with_reducible refine Eq.trans (hset_ne _ _ _ _ ?_) ?_) | (with_reducible refine Eq.trans (halloc_lt _ _ _ ?_) ?_) | (with_reducible refine Eq.trans (Below.block (Hid.out (by assumption)) _ ?_) ?_) | (simp; done) | (simp; omega))))
      have hx1wbr : wbq.heap.size < wbr.heap.size := (Array.getElem?_eq_some_iff.1 HXX1wbr.out).1
      have f1wbr0 := Joins.cell_of_block HBX1wbr.out 0
      have f1wbr1 := Joins.cell_of_block HBX1wbr.out 1
      have f1wbr2 := Joins.cell_of_block HBX1wbr.out 2
      simp only [List.getElem?_toArray, List.getElem?_cons_zero, List.getElem?_cons_succ] at f1wbr0 f1wbr1 f1wbr2
      have f2wbr0 := Joins.cell_of_block HBX2wbr.out 0
      have f2wbr1 := Joins.cell_of_block HBX2wbr.out 1
      have f2wbr2 := Joins.cell_of_block HBX2wbr.out 2
      simp only [List.getElem?_toArray, List.getElem?_cons_zero, List.getElem?_cons_succ] at f2wbr0 f2wbr1 f2wbr2
      have x1wbr0 := Joins.cell_of_block HXX1wbr.out 0
      have x1wbr1 := Joins.cell_of_block HXX1wbr.out 1
      have x1wbr2 := Joins.cell_of_block HXX1wbr.out 2
      simp only [List.getElem?_toArray, List.getElem?_cons_zero, List.getElem?_cons_succ] at x1wbr0 x1wbr1 x1wbr2
      go_wp2_with fail
      refine (HI.out _ _ _ _ _ ((HCwbq.out.below (by (repeat' (first | (with_reducible exact Below.refl _ _) | (with_reducible refine Below.alloc ?_ ?_ _) | (with_reducible refine Below.setCell ?_ ?_ _) | (with_reducible refine Below.drew ?_) | (with_reducible refine below_drewN ?_ _) | (with_reducible refine Below.trans ?_ (Below.mono (Hid.out (by assumption)) ?_)) | omega | (simp; done) | (simp; omega))))).maps.inRow) ((HCwbq.out.below (by (repeat' (first | (with_reducible exact Below.refl _ _) | (with_reducible refine Below.alloc ?_ ?_ _) | (with_reducible refine Below.setCell ?_ ?_ _) | (with_reducible refine Below.drew ?_) | (with_reducible refine below_drewN ?_ _) | (with_reducible refine Below.trans ?_ (Below.mono (Hid.out (by assumption)) ?_)) | omega | (simp; done) | (simp; omega))))).last.inRow) ((HCwbr.out.below (by (repeat' (first | (with_reducible exact Below.refl _ _) | (with_reducible refine Below.alloc ?_ ?_ _) | (with_reducible refine Below.setCell ?_ ?_ _) | (with_reducible refine Below.drew ?_) | (with_reducible refine below_drewN ?_ _) | (with_reducible refine Below.trans ?_ (Below.mono (Hid.out (by assumption)) ?_)) | omega | (simp; done) | (simp; omega))))).maps.inRow) ((HCwbr.out.below (by (repeat' (first | (with_reducible exact Below.refl _ _) | (with_reducible refine Below.alloc ?_ ?_ _) | (with_reducible refine Below.setCell ?_ ?_ _) | (with_reducible refine Below.drew ?_) | (with_reducible refine below_drewN ?_ _) | (with_reducible refine Below.trans ?_ (Below.mono (Hid.out (by assumption)) ?_)) | omega | (simp; done) | (simp; omega))))).last.inRow)).mono ?_
      rintro e wbs ⟨awbs, cwbs, rfl, hr, hb⟩
      have HRwbs := Lib.hid hr
      clear hr
      have hzwbs := hb.size
      (try simp at hzwbs)
      have hswbs : wb.heap.size ≤ wbs.heap.size := (by have := hb.size; (try simp at this); omega)
      have HBwbs := Lib.hid hb
      clear hb
      have hq1wbs : w.heap.size < wbs.heap.size := by omega
      have hq2wbs : w.heap.size + 1 < wbs.heap.size := by omega
      have HBX1wbs : Hid (wbs.heap[w.heap.size]? = some (.cells #[.slice a1 L.length c1, .int .i64 F, .slice b1 S.length d1] 25 (0, 0))) := Lib.hid (by (repeat' (first | omega | (rw [hdrew]) | (with_reducible assumption) | (with_reducible exact Hid.out (by assumption)) | (with_reducible rfl) | ((with_reducible refine halloc_at _ _ _ ?_) <;> (first | (with_reducible rfl) | omega | (simp; done))) | (with_reducible refine chain6 ?_) | (with_reducible refine Eq.trans (hset_ne _ _ _ _ ?_) ?_) | (with_reducible refine Eq.trans (halloc_lt _ _ _ ?_) ?_) | (with_reducible refine Eq.trans (Below.block (Hid.out (by assumption)) _ ?_) ?_) | (simp; done) | (simp; omega))))
      have HBX2wbs : Hid (wbs.heap[w.heap.size + 1]? = some (.cells #[.slice a2 M.length c2, .int .i64 G, .slice b2 T.length d2] 25 (0, 0))) := Lib.hid (by (repeat' (first | omega | (rw [hdrew]) | (with_reducible assumption) | (with_reducible exact Hid.out (by assumption)) | (with_reducible rfl) | ((with_reducible refine halloc_at _ _ _ ?_) <;> (first | (with_reducible rfl) | omega | (simp; done))) | (with_reducible refine chain6 ?_) | (with_reducible refine Eq.trans (hset_ne _ _ _ _ ?_) ?_) | (with_reducible refine Eq.trans (halloc_lt _ _ _ ?_) ?_) | (with_reducible refine Eq.trans (Below.block (Hid.out (by assumption)) _ ?_) ?_) | (simp; done) | (simp; omega))))
      have HXX1wbs : Hid (wbs.heap[wbq.heap.size]? = some (.cells #[.slice (some ⟨gwbq1, 0, none⟩) L.length L.length, .int .i64 F, .slice (some ⟨gwbq2, 0, none⟩) S.length S.length] 30 (0, 0))) := Lib.hid (by (repeat' (first | omega | (rw [hdrew]) | (with_reducible assumption) | (with_reducible exact Hid.out (by assumption)) | (with_reducible rfl) | ((with_reducible refine halloc_at _ _ _ ?_) <;> (first | (with_reducible rfl) | omega | (simp; done))) | (with_reducible refine chain6 ?_) | (with_reducible refine Eq.trans (hset_ne _ _ _ _ ?_) ?_) | (with_reducible refine Eq.trans (halloc_lt _ _ _ ?_) ?_) | (with_reducible refine Eq.trans (Below.block (Hid.out (by assumption)) _ ?_) ?_) | (simp; done) | (simp; omega))))
      have hx1wbs : wbq.heap.size < wbs.heap.size := (Array.getElem?_eq_some_iff.1 HXX1wbs.out).1
      have HXX2wbs : Hid (wbs.heap[wbr.heap.size]? = some (.cells #[.slice (some ⟨gwbr1, 0, none⟩) M.length M.length, .int .i64 G, .slice (some ⟨gwbr2, 0, none⟩) T.length T.length] 30 (0, 0))) := Lib.hid (by (repeat' (first | omega | (rw [hdrew]) | (with_reducible assumption) | (with_reducible exact Hid.out (by assumption)) | (with_reducible rfl) | ((with_reducible refine halloc_at _ _ _ ?_) <;> (first | (with_reducible rfl) | omega | (simp; done))) | (with_reducible refine chain6 ?_) | (with_reducible refine Eq.trans (hset_ne _ _ _ _ ?_) ?_) | (with_reducible refine Eq.trans (halloc_lt _ _ _ ?_) ?_) | (with_reducible refine Eq.trans (Below.block (Hid.out (by assumption)) _ ?_) ?_) | (simp; done) | (simp; omega))))
      have hx2wbs : wbr.heap.size < wbs.heap.size := (Array.getElem?_eq_some_iff.1 HXX2wbs.out).1
      have f1wbs0 := Joins.cell_of_block HBX1wbs.out 0
      have f1wbs1 := Joins.cell_of_block HBX1wbs.out 1
      have f1wbs2 := Joins.cell_of_block HBX1wbs.out 2
      simp only [List.getElem?_toArray, List.getElem?_cons_zero, List.getElem?_cons_succ] at f1wbs0 f1wbs1 f1wbs2
      have f2wbs0 := Joins.cell_of_block HBX2wbs.out 0
      have f2wbs1 := Joins.cell_of_block HBX2wbs.out 1
      have f2wbs2 := Joins.cell_of_block HBX2wbs.out 2
      simp only [List.getElem?_toArray, List.getElem?_cons_zero, List.getElem?_cons_succ] at f2wbs0 f2wbs1 f2wbs2
      have x1wbs0 := Joins.cell_of_block HXX1wbs.out 0
      have x1wbs1 := Joins.cell_of_block HXX1wbs.out 1
      have x1wbs2 := Joins.cell_of_block HXX1wbs.out 2
      simp only [List.getElem?_toArray, List.getElem?_cons_zero, List.getElem?_cons_succ] at x1wbs0 x1wbs1 x1wbs2
      have x2wbs0 := Joins.cell_of_block HXX2wbs.out 0
      have x2wbs1 := Joins.cell_of_block HXX2wbs.out 1
      have x2wbs2 := Joins.cell_of_block HXX2wbs.out 2
      simp only [List.getElem?_toArray, List.getElem?_cons_zero, List.getElem?_cons_succ] at x2wbs0 x2wbs1 x2wbs2
      have hgwbs : wbr.heap.size < wbs.heap.size := (by have := HBwbs.out.size; (try simp at this); omega)
      go_wp2_with fail
      refine (eqS_same R awbs awbp cwbs cwbp _ _ _ (HRwbs.out.below (by (repeat' (first | (with_reducible exact Below.refl _ _) | (with_reducible refine Below.alloc ?_ ?_ _) | (with_reducible refine Below.setCell ?_ ?_ _) | (with_reducible refine Below.drew ?_) | (with_reducible refine below_drewN ?_ _) | (with_reducible refine Below.trans ?_ (Below.mono (Hid.out (by assumption)) ?_)) | omega | (simp; done) | (simp; omega))))) (HRwbp.out.below (by (repeat' (first | (with_reducible exact Below.refl _ _) | (with_reducible refine Below.alloc ?_ ?_ _) | (with_reducible refine Below.setCell ?_ ?_ _) | (with_reducible refine Below.drew ?_) | (with_reducible refine below_drewN ?_ _) | (with_reducible refine Below.trans ?_ (Below.mono (Hid.out (by assumption)) ?_)) | omega | (simp; done) | (simp; omega)))))).mono ?_
      rintro e wbt ⟨rfl, hb⟩
      have hzwbt := hb.size
      (try simp at hzwbt)
      have hswbt : wb.heap.size ≤ wbt.heap.size := (by have := hb.size; (try simp at this); omega)
      have HBwbt := Lib.hid hb
      clear hb
      have hq1wbt : w.heap.size < wbt.heap.size := by omega
      have hq2wbt : w.heap.size + 1 < wbt.heap.size := by omega
      have HBX1wbt : Hid (wbt.heap[w.heap.size]? = some (.cells #[.slice a1 L.length c1, .int .i64 F, .slice b1 S.length d1] 25 (0, 0))) := Lib.hid (by (repeat' (first | omega | (rw [hdrew]) | (with_reducible assumption) | (with_reducible exact Hid.out (by assumption)) | (with_reducible rfl) | ((with_reducible refine halloc_at _ _ _ ?_) <;> (first | (with_reducible rfl) | omega | (simp; done))) | (with_reducible refine chain6 ?_) | (with_reducible refine Eq.trans (hset_ne _ _ _ _ ?_) ?_) | (with_reducible refine Eq.trans (halloc_lt _ _ _ ?_) ?_) | (with_reducible refine Eq.trans (Below.block (Hid.out (by assumption)) _ ?_) ?_) | (simp; done) | (simp; omega))))
      have HBX2wbt : Hid (wbt.heap[w.heap.size + 1]? = some (.cells #[.slice a2 M.length c2, .int .i64 G, .slice b2 T.length d2] 25 (0, 0))) := Lib.hid (by (repeat' (first | omega | (rw [hdrew]) | (with_reducible assumption) | (with_reducible exact Hid.out (by assumption)) | (with_reducible rfl) | ((with_reducible refine halloc_at _ _ _ ?_) <;> (first | (with_reducible rfl) | omega | (simp; done))) | (with_reducible refine chain6 ?_) | (with_reducible refine Eq.trans (hset_ne _ _ _ _ ?_) ?_) | (with_reducible refine Eq.trans (halloc_lt _ _ _ ?_) ?_) | (with_reducible refine Eq.trans (Below.block (Hid.out (by assumption)) _ ?_) ?_) | (simp; done) | (simp; omega))))
      have HXX1wbt : Hid (wbt.heap[wbq.heap.size]? = some (.cells #[.slice (some ⟨gwbq1, 0, none⟩) L.length L.length, .int .i64 F, .slice (some ⟨gwbq2, 0, none⟩) S.length S.length] 30 (0, 0))) := Lib.hid (by (repeat' (first | omega | (rw [hdrew]) | (with_reducible assumption) | (with_reducible exact Hid.out (by assumption)) | (with_reducible rfl) | ((with_reducible refine halloc_at _ _ _ ?_) <;> (first | (with_reducible rfl) | omega | (simp; done))) | (with_reducible refine chain6 ?_) | (with_reducible refine Eq.trans (hset_ne _ _ _ _ ?_) ?_) | (with_reducible refine Eq.trans (halloc_lt _ _ _ ?_) ?_) | (with_reducible refine Eq.trans (Below.block (Hid.out (by assumption)) _ ?_) ?_) | (simp; done) | (simp; omega))))
      have hx1wbt : wbq.heap.size < wbt.heap.size := (Array.getElem?_eq_some_iff.1 HXX1wbt.out).1
      have HXX2wbt : Hid (wbt.heap[wbr.heap.size]? = some (.cells #[.slice (some ⟨gwbr1, 0, none⟩) M.length M.length, .int .i64 G, .slice (some ⟨gwbr2, 0, none⟩) T.length T.length] 30 (0, 0))) := Lib.hid (by (repeat' (first | omega | (rw [hdrew]) | (with_reducible assumption) | (with_reducible exact Hid.out (by assumption)) | (with_reducible rfl) | ((with_reducible refine halloc_at _ _ _ ?_) <;> (first | (with_reducible rfl) | omega | (simp; done))) | (with_reducible refine chain6 ?_) | (with_reducible refine Eq.trans (hset_ne _ _ _ _ ?_) ?_) | (with_reducible refine Eq.trans (halloc_lt _ _ _ ?_) ?_) | (with_reducible refine Eq.trans (Below.block (Hid.out (by assumption)) _ ?_) ?_) | (simp; done) | (simp; omega))))
      have hx2wbt : wbr.heap.size < wbt.heap.size := (Array.getElem?_eq_some_iff.1 HXX2wbt.out).1
      have f1wbt0 := Joins.cell_of_block HBX1wbt.out 0
      have f1wbt1 := Joins.cell_of_block HBX1wbt.out 1
      have f1wbt2 := Joins.cell_of_block HBX1wbt.out 2
      simp only [List.getElem?_toArray, List.getElem?_cons_zero, List.getElem?_cons_succ] at f1wbt0 f1wbt1 f1wbt2
      have f2wbt0 := Joins.cell_of_block HBX2wbt.out 0
      have f2wbt1 := Joins.cell_of_block HBX2wbt.out 1
      have f2wbt2 := Joins.cell_of_block HBX2wbt.out 2
      simp only [List.getElem?_toArray, List.getElem?_cons_zero, List.getElem?_cons_succ] at f2wbt0 f2wbt1 f2wbt2
      have x1wbt0 := Joins.cell_of_block HXX1wbt.out 0
      have x1wbt1 := Joins.cell_of_block HXX1wbt.out 1
      have x1wbt2 := Joins.cell_of_block HXX1wbt.out 2
      simp only [List.getElem?_toArray, List.getElem?_cons_zero, List.getElem?_cons_succ] at x1wbt0 x1wbt1 x1wbt2
      have x2wbt0 := Joins.cell_of_block HXX2wbt.out 0
      have x2wbt1 := Joins.cell_of_block HXX2wbt.out 1
      have x2wbt2 := Joins.cell_of_block HXX2wbt.out 2
      simp only [List.getElem?_toArray, List.getElem?_cons_zero, List.getElem?_cons_succ] at x2wbt0 x2wbt1 x2wbt2
      go_wp2_with fail
      obtain ⟨wg1, hwg⟩ : ∃ z : World, z = wbt := ⟨_, rfl⟩
      have HQ := Lib.hid (HCwbq.out.below (w' := wbt) (by (repeat' (first | (with_reducible exact Below.refl _ _) | (with_reducible refine Below.alloc ?_ ?_ _) | (with_reducible refine Below.setCell ?_ ?_ _) | (with_reducible refine Below.drew ?_) | (with_reducible refine below_drewN ?_ _) | (with_reducible refine Below.trans ?_ (Below.mono (Hid.out (by assumption)) ?_)) | omega | (simp; done) | (simp; omega)))))
      have r0 : ∀ z, Below wbt.heap.size wbt z → z.cell? ⟨w.heap.size, 0, none⟩ = _ := fun z h => (h.cell (p := ⟨w.heap.size, 0, none⟩) (show w.heap.size < _ by omega)).trans f1wbt0
      have r1 : ∀ z, Below wbt.heap.size wbt z → z.cell? ⟨w.heap.size, 1, none⟩ = _ := fun z h => (h.cell (p := ⟨w.heap.size, 1, none⟩) (show w.heap.size < _ by omega)).trans f1wbt1
      have r2 : ∀ z, Below wbt.heap.size wbt z → z.cell? ⟨w.heap.size, 2, none⟩ = _ := fun z h => (h.cell (p := ⟨w.heap.size, 2, none⟩) (show w.heap.size < _ by omega)).trans f1wbt2
      have s0 : ∀ z, Below wbt.heap.size wbt z → z.cell? ⟨wbq.heap.size, 0, none⟩ = _ := fun z h => (h.cell (p := ⟨wbq.heap.size, 0, none⟩) (show wbq.heap.size < _ by omega)).trans x1wbt0
      have s1 : ∀ z, Below wbt.heap.size wbt z → z.cell? ⟨wbq.heap.size, 1, none⟩ = _ := fun z h => (h.cell (p := ⟨wbq.heap.size, 1, none⟩) (show wbq.heap.size < _ by omega)).trans x1wbt1
      have s2 : ∀ z, Below wbt.heap.size wbt z → z.cell? ⟨wbq.heap.size, 2, none⟩ = _ := fun z h => (h.cell (p := ⟨wbq.heap.size, 2, none⟩) (show wbq.heap.size < _ by omega)).trans x1wbt2
      clear hwg
      have HMI := Lib.hid fun z (_ : Hid (Below wbt.heap.size wbt z)) => HM1wb.out.below (w' := z) (by (repeat' (first | (with_reducible exact Below.refl _ _) | (with_reducible refine Below.alloc ?_ ?_ _) | (with_reducible refine Below.setCell ?_ ?_ _) | (with_reducible refine Below.drew ?_) | (with_reducible refine below_drewN ?_ _) | (with_reducible refine Below.trans ?_ (Below.mono (Hid.out (by assumption)) ?_)) | omega | (simp; done) | (simp; omega))))
      have HLI := Lib.hid fun z (_ : Hid (Below wbt.heap.size wbt z)) => HL1wb.out.below (w' := z) (by (repeat' (first | (with_reducible exact Below.refl _ _) | (with_reducible refine Below.alloc ?_ ?_ _) | (with_reducible refine Below.setCell ?_ ?_ _) | (with_reducible refine Below.drew ?_) | (with_reducible refine below_drewN ?_ _) | (with_reducible refine Below.trans ?_ (Below.mono (Hid.out (by assumption)) ?_)) | omega | (simp; done) | (simp; omega))))
      go_region_held3 (fun w' => Below wbt.heap.size wbt w') (first | (with_reducible assumption) | ((repeat' (first | (with_reducible exact Below.refl _ _) | (with_reducible refine Below.alloc ?_ ?_ _) | (with_reducible refine Below.setCell ?_ ?_ _) | (with_reducible refine Below.drew ?_) | (with_reducible refine below_drewN ?_ _) | (with_reducible refine Below.trans ?_ (Below.mono (Hid.out (by assumption)) ?_)) | omega | (simp; done) | (simp; omega))); done)) (first
        | (go_at_call 13; (with_reducible refine (HCP1.out _ a1 b1 c1 d1 (HMI.out _ (Lib.hid (by (repeat' (first | (with_reducible exact Below.refl _ _) | (with_reducible refine Below.alloc ?_ ?_ _) | (with_reducible refine Below.setCell ?_ ?_ _) | (with_reducible refine Below.drew ?_) | (with_reducible refine below_drewN ?_ _) | (with_reducible refine Below.trans ?_ (Below.mono (Hid.out (by assumption)) ?_)) | omega | (simp; done) | (simp; omega)))))) (HLI.out _ (Lib.hid (by (repeat' (first | (with_reducible exact Below.refl _ _) | (with_reducible refine Below.alloc ?_ ?_ _) | (with_reducible refine Below.setCell ?_ ?_ _) | (with_reducible refine Below.drew ?_) | (with_reducible refine below_drewN ?_ _) | (with_reducible refine Below.trans ?_ (Below.mono (Hid.out (by assumption)) ?_)) | omega | (simp; done) | (simp; omega))))))).mono ?_); rintro e wcp ⟨g3, g4, rfl, hcop, hb⟩; have HCY := Lib.hid hcop; have hy1 := hcop.lo; have hzwcp := hb.size; (try simp at hy1 hzwcp); have HBwcp := Lib.hid hb; clear hb hcop)
        | (go_at_call 15; (with_reducible refine (eqA_same L F S (by omega) _ _ _ _ _ _ _ _ _ _ _ ((HQ.out.below (by (repeat' (first | (with_reducible exact Below.refl _ _) | (with_reducible refine Below.alloc ?_ ?_ _) | (with_reducible refine Below.setCell ?_ ?_ _) | (with_reducible refine Below.drew ?_) | (with_reducible refine below_drewN ?_ _) | (with_reducible refine Below.trans ?_ (Below.mono (Hid.out (by assumption)) ?_)) | omega | (simp; done) | (simp; omega))))).maps.inRow) ((HCY.out.below (by (repeat' (first | (with_reducible exact Below.refl _ _) | (with_reducible refine Below.alloc ?_ ?_ _) | (with_reducible refine Below.setCell ?_ ?_ _) | (with_reducible refine Below.drew ?_) | (with_reducible refine below_drewN ?_ _) | (with_reducible refine Below.trans ?_ (Below.mono (Hid.out (by assumption)) ?_)) | omega | (simp; done) | (simp; omega))))).maps.inRow) (HQ.out.below (by (repeat' (first | (with_reducible exact Below.refl _ _) | (with_reducible refine Below.alloc ?_ ?_ _) | (with_reducible refine Below.setCell ?_ ?_ _) | (with_reducible refine Below.drew ?_) | (with_reducible refine below_drewN ?_ _) | (with_reducible refine Below.trans ?_ (Below.mono (Hid.out (by assumption)) ?_)) | omega | (simp; done) | (simp; omega))))).last (HCY.out.below (by (repeat' (first | (with_reducible exact Below.refl _ _) | (with_reducible refine Below.alloc ?_ ?_ _) | (with_reducible refine Below.setCell ?_ ?_ _) | (with_reducible refine Below.drew ?_) | (with_reducible refine below_drewN ?_ _) | (with_reducible refine Below.trans ?_ (Below.mono (Hid.out (by assumption)) ?_)) | omega | (simp; done) | (simp; omega))))).last).mono ?_); rintro e wcq ⟨rfl, hb⟩; have hzwcq := hb.size; (try simp at hzwcq); have HBwcq := Lib.hid hb; clear hb))
      clear r0 r1 r2 s0 s1 s2
      have hswcq : wb.heap.size ≤ wcq.heap.size := (by (try simp at hzwcp hzwcq); omega)
      have hq1wcq : w.heap.size < wcq.heap.size := by omega
      have hq2wcq : w.heap.size + 1 < wcq.heap.size := by omega
      have HBX1wcq : Hid (wcq.heap[w.heap.size]? = some (.cells #[.slice a1 L.length c1, .int .i64 F, .slice b1 S.length d1] 25 (0, 0))) := Lib.hid (by (repeat' (first | omega | (rw [hdrew]) | (with_reducible assumption) | (with_reducible exact Hid.out (by assumption)) | (with_reducible rfl) | ((with_reducible refine halloc_at _ _ _ ?_) <;> (first | (with_reducible rfl) | omega | (simp; done))) | (with_reducible refine chain6 ?_) | (with_reducible refine Eq.trans (hset_ne _ _ _ _ ?_) ?_) | (with_reducible refine Eq.trans (halloc_lt _ _ _ ?_) ?_) | (with_reducible refine Eq.trans (Below.block (Hid.out (by assumption)) _ ?_) ?_) | (simp; done) | (simp; omega))))
      have HBX2wcq : Hid (wcq.heap[w.heap.size + 1]? = some (.cells #[.slice a2 M.length c2, .int .i64 G, .slice b2 T.length d2] 25 (0, 0))) := Lib.hid (by (repeat' (first | omega | (rw [hdrew]) | (with_reducible assumption) | (with_reducible exact Hid.out (by assumption)) | (with_reducible rfl) | ((with_reducible refine halloc_at _ _ _ ?_) <;> (first | (with_reducible rfl) | omega | (simp; done))) | (with_reducible refine chain6 ?_) | (with_reducible refine Eq.trans (hset_ne _ _ _ _ ?_) ?_) | (with_reducible refine Eq.trans (halloc_lt _ _ _ ?_) ?_) | (with_reducible refine Eq.trans (Below.block (Hid.out (by assumption)) _ ?_) ?_) | (simp; done) | (simp; omega))))
      have HXX1wcq : Hid (wcq.heap[wbq.heap.size]? = some (.cells #[.slice (some ⟨gwbq1, 0, none⟩) L.length L.length, .int .i64 F, .slice (some ⟨gwbq2, 0, none⟩) S.length S.length] 30 (0, 0))) := Lib.hid (by (repeat' (first | omega | (rw [hdrew]) | (with_reducible assumption) | (with_reducible exact Hid.out (by assumption)) | (with_reducible rfl) | ((with_reducible refine halloc_at _ _ _ ?_) <;> (first | (with_reducible rfl) | omega | (simp; done))) | (with_reducible refine chain6 ?_) | (with_reducible refine Eq.trans (hset_ne _ _ _ _ ?_) ?_) | (with_reducible refine Eq.trans (halloc_lt _ _ _ ?_) ?_) | (with_reducible refine Eq.trans (Below.block (Hid.out (by assumption)) _ ?_) ?_) | (simp; done) | (simp; omega))))
      have hx1wcq : wbq.heap.size < wcq.heap.size := (Array.getElem?_eq_some_iff.1 HXX1wcq.out).1
      have HXX2wcq : Hid (wcq.heap[wbr.heap.size]? = some (.cells #[.slice (some ⟨gwbr1, 0, none⟩) M.length M.length, .int .i64 G, .slice (some ⟨gwbr2, 0, none⟩) T.length T.length] 30 (0, 0))) := Lib.hid (by (repeat' (first | omega | (rw [hdrew]) | (with_reducible assumption) | (with_reducible exact Hid.out (by assumption)) | (with_reducible rfl) | ((with_reducible refine halloc_at _ _ _ ?_) <;> (first | (with_reducible rfl) | omega | (simp; done))) | (with_reducible refine chain6 ?_) | (with_reducible refine Eq.trans (hset_ne _ _ _ _ ?_) ?_) | (with_reducible refine Eq.trans (halloc_lt _ _ _ ?_) ?_) | (with_reducible refine Eq.trans (Below.block (Hid.out (by assumption)) _ ?_) ?_) | (simp; done) | (simp; omega))))
      have hx2wcq : wbr.heap.size < wcq.heap.size := (Array.getElem?_eq_some_iff.1 HXX2wcq.out).1
      have f1wcq0 := Joins.cell_of_block HBX1wcq.out 0
      have f1wcq1 := Joins.cell_of_block HBX1wcq.out 1
      have f1wcq2 := Joins.cell_of_block HBX1wcq.out 2
      simp only [List.getElem?_toArray, List.getElem?_cons_zero, List.getElem?_cons_succ] at f1wcq0 f1wcq1 f1wcq2
      have f2wcq0 := Joins.cell_of_block HBX2wcq.out 0
      have f2wcq1 := Joins.cell_of_block HBX2wcq.out 1
      have f2wcq2 := Joins.cell_of_block HBX2wcq.out 2
      simp only [List.getElem?_toArray, List.getElem?_cons_zero, List.getElem?_cons_succ] at f2wcq0 f2wcq1 f2wcq2
      have x1wcq0 := Joins.cell_of_block HXX1wcq.out 0
      have x1wcq1 := Joins.cell_of_block HXX1wcq.out 1
      have x1wcq2 := Joins.cell_of_block HXX1wcq.out 2
      simp only [List.getElem?_toArray, List.getElem?_cons_zero, List.getElem?_cons_succ] at x1wcq0 x1wcq1 x1wcq2
      have x2wcq0 := Joins.cell_of_block HXX2wcq.out 0
      have x2wcq1 := Joins.cell_of_block HXX2wcq.out 1
      have x2wcq2 := Joins.cell_of_block HXX2wcq.out 2
      simp only [List.getElem?_toArray, List.getElem?_cons_zero, List.getElem?_cons_succ] at x2wcq0 x2wcq1 x2wcq2
      go_wp2_with fail
      obtain ⟨wg2, hwg⟩ : ∃ z : World, z = wcq := ⟨_, rfl⟩
      have HQ := Lib.hid (HCwbr.out.below (w' := wcq) (by (repeat' (first | (with_reducible exact Below.refl _ _) | (with_reducible refine Below.alloc ?_ ?_ _) | (with_reducible refine Below.setCell ?_ ?_ _) | (with_reducible refine Below.drew ?_) | (with_reducible refine below_drewN ?_ _) | (with_reducible refine Below.trans ?_ (Below.mono (Hid.out (by assumption)) ?_)) | omega | (simp; done) | (simp; omega)))))
      have r0 : ∀ z, Below wcq.heap.size wcq z → z.cell? ⟨w.heap.size + 1, 0, none⟩ = _ := fun z h => (h.cell (p := ⟨w.heap.size + 1, 0, none⟩) (show w.heap.size + 1 < _ by omega)).trans f2wcq0
      have r1 : ∀ z, Below wcq.heap.size wcq z → z.cell? ⟨w.heap.size + 1, 1, none⟩ = _ := fun z h => (h.cell (p := ⟨w.heap.size + 1, 1, none⟩) (show w.heap.size + 1 < _ by omega)).trans f2wcq1
      have r2 : ∀ z, Below wcq.heap.size wcq z → z.cell? ⟨w.heap.size + 1, 2, none⟩ = _ := fun z h => (h.cell (p := ⟨w.heap.size + 1, 2, none⟩) (show w.heap.size + 1 < _ by omega)).trans f2wcq2
      have s0 : ∀ z, Below wcq.heap.size wcq z → z.cell? ⟨wbr.heap.size, 0, none⟩ = _ := fun z h => (h.cell (p := ⟨wbr.heap.size, 0, none⟩) (show wbr.heap.size < _ by omega)).trans x2wcq0
      have s1 : ∀ z, Below wcq.heap.size wcq z → z.cell? ⟨wbr.heap.size, 1, none⟩ = _ := fun z h => (h.cell (p := ⟨wbr.heap.size, 1, none⟩) (show wbr.heap.size < _ by omega)).trans x2wcq1
      have s2 : ∀ z, Below wcq.heap.size wcq z → z.cell? ⟨wbr.heap.size, 2, none⟩ = _ := fun z h => (h.cell (p := ⟨wbr.heap.size, 2, none⟩) (show wbr.heap.size < _ by omega)).trans x2wcq2
      clear hwg
      have HMI := Lib.hid fun z (_ : Hid (Below wcq.heap.size wcq z)) => HM2wb.out.below (w' := z) (by (repeat' (first | (with_reducible exact Below.refl _ _) | (with_reducible refine Below.alloc ?_ ?_ _) | (with_reducible refine Below.setCell ?_ ?_ _) | (with_reducible refine Below.drew ?_) | (with_reducible refine below_drewN ?_ _) | (with_reducible refine Below.trans ?_ (Below.mono (Hid.out (by assumption)) ?_)) | omega | (simp; done) | (simp; omega))))
      have HLI := Lib.hid fun z (_ : Hid (Below wcq.heap.size wcq z)) => HL2wb.out.below (w' := z) (by (repeat' (first | (with_reducible exact Below.refl _ _) | (with_reducible refine Below.alloc ?_ ?_ _) | (with_reducible refine Below.setCell ?_ ?_ _) | (with_reducible refine Below.drew ?_) | (with_reducible refine below_drewN ?_ _) | (with_reducible refine Below.trans ?_ (Below.mono (Hid.out (by assumption)) ?_)) | omega | (simp; done) | (simp; omega))))
      go_region_held3 (fun w' => Below wcq.heap.size wcq w') (first | (with_reducible assumption) | ((repeat' (first | (with_reducible exact Below.refl _ _) | (with_reducible refine Below.alloc ?_ ?_ _) | (with_reducible refine Below.setCell ?_ ?_ _) | (with_reducible refine Below.drew ?_) | (with_reducible refine below_drewN ?_ _) | (with_reducible refine Below.trans ?_ (Below.mono (Hid.out (by assumption)) ?_)) | omega | (simp; done) | (simp; omega))); done)) (first
        | (go_at_call 13; (with_reducible refine (HCP2.out _ a2 b2 c2 d2 (HMI.out _ (Lib.hid (by (repeat' (first | (with_reducible exact Below.refl _ _) | (with_reducible refine Below.alloc ?_ ?_ _) | (with_reducible refine Below.setCell ?_ ?_ _) | (with_reducible refine Below.drew ?_) | (with_reducible refine below_drewN ?_ _) | (with_reducible refine Below.trans ?_ (Below.mono (Hid.out (by assumption)) ?_)) | omega | (simp; done) | (simp; omega)))))) (HLI.out _ (Lib.hid (by (repeat' (first | (with_reducible exact Below.refl _ _) | (with_reducible refine Below.alloc ?_ ?_ _) | (with_reducible refine Below.setCell ?_ ?_ _) | (with_reducible refine Below.drew ?_) | (with_reducible refine below_drewN ?_ _) | (with_reducible refine Below.trans ?_ (Below.mono (Hid.out (by assumption)) ?_)) | omega | (simp; done) | (simp; omega))))))).mono ?_); rintro e wcr ⟨g3, g4, rfl, hcop, hb⟩; have HCY := Lib.hid hcop; have hy1 := hcop.lo; have hzwcr := hb.size; (try simp at hy1 hzwcr); have HBwcr := Lib.hid hb; clear hb hcop)
        | (go_at_call 15; (with_reducible refine (eqA_same M G T (by omega) _ _ _ _ _ _ _ _ _ _ _ ((HQ.out.below (by (repeat' (first | (with_reducible exact Below.refl _ _) | (with_reducible refine Below.alloc ?_ ?_ _) | (with_reducible refine Below.setCell ?_ ?_ _) | (with_reducible refine Below.drew ?_) | (with_reducible refine below_drewN ?_ _) | (with_reducible refine Below.trans ?_ (Below.mono (Hid.out (by assumption)) ?_)) | omega | (simp; done) | (simp; omega))))).maps.inRow) ((HCY.out.below (by (repeat' (first | (with_reducible exact Below.refl _ _) | (with_reducible refine Below.alloc ?_ ?_ _) | (with_reducible refine Below.setCell ?_ ?_ _) | (with_reducible refine Below.drew ?_) | (with_reducible refine below_drewN ?_ _) | (with_reducible refine Below.trans ?_ (Below.mono (Hid.out (by assumption)) ?_)) | omega | (simp; done) | (simp; omega))))).maps.inRow) (HQ.out.below (by (repeat' (first | (with_reducible exact Below.refl _ _) | (with_reducible refine Below.alloc ?_ ?_ _) | (with_reducible refine Below.setCell ?_ ?_ _) | (with_reducible refine Below.drew ?_) | (with_reducible refine below_drewN ?_ _) | (with_reducible refine Below.trans ?_ (Below.mono (Hid.out (by assumption)) ?_)) | omega | (simp; done) | (simp; omega))))).last (HCY.out.below (by (repeat' (first | (with_reducible exact Below.refl _ _) | (with_reducible refine Below.alloc ?_ ?_ _) | (with_reducible refine Below.setCell ?_ ?_ _) | (with_reducible refine Below.drew ?_) | (with_reducible refine below_drewN ?_ _) | (with_reducible refine Below.trans ?_ (Below.mono (Hid.out (by assumption)) ?_)) | omega | (simp; done) | (simp; omega))))).last).mono ?_); rintro e wcs ⟨rfl, hb⟩; have hzwcs := hb.size; (try simp at hzwcs); have HBwcs := Lib.hid hb; clear hb))
      clear r0 r1 r2 s0 s1 s2
      have hswcs : wb.heap.size ≤ wcs.heap.size := (by (try simp at hzwcr hzwcs); omega)
      have hq1wcs : w.heap.size < wcs.heap.size := by omega
      have hq2wcs : w.heap.size + 1 < wcs.heap.size := by omega
      have HBX1wcs : Hid (wcs.heap[w.heap.size]? = some (.cells #[.slice a1 L.length c1, .int .i64 F, .slice b1 S.length d1] 25 (0, 0))) := Lib.hid (by (repeat' (first | omega | (rw [hdrew]) | (with_reducible assumption) | (with_reducible exact Hid.out (by assumption)) | (with_reducible rfl) | ((with_reducible refine halloc_at _ _ _ ?_) <;> (first | (with_reducible rfl) | omega | (simp; done))) | (with_reducible refine chain6 ?_) | (with_reducible refine Eq.trans (hset_ne _ _ _ _ ?_) ?_) | (with_reducible refine Eq.trans (halloc_lt _ _ _ ?_) ?_) | (with_reducible refine Eq.trans (Below.block (Hid.out (by assumption)) _ ?_) ?_) | (simp; done) | (simp; omega))))
      have HBX2wcs : Hid (wcs.heap[w.heap.size + 1]? = some (.cells #[.slice a2 M.length c2, .int .i64 G, .slice b2 T.length d2] 25 (0, 0))) := Lib.hid (by (repeat' (first | omega | (rw [hdrew]) | (with_reducible assumption) | (with_reducible exact Hid.out (by assumption)) | (with_reducible rfl) | ((with_reducible refine halloc_at _ _ _ ?_) <;> (first | (with_reducible rfl) | omega | (simp; done))) | (with_reducible refine chain6 ?_) | (with_reducible refine Eq.trans (hset_ne _ _ _ _ ?_) ?_) | (with_reducible refine Eq.trans (halloc_lt _ _ _ ?_) ?_) | (with_reducible refine Eq.trans (Below.block (Hid.out (by assumption)) _ ?_) ?_) | (simp; done) | (simp; omega))))
      have HXX1wcs : Hid (wcs.heap[wbq.heap.size]? = some (.cells #[.slice (some ⟨gwbq1, 0, none⟩) L.length L.length, .int .i64 F, .slice (some ⟨gwbq2, 0, none⟩) S.length S.length] 30 (0, 0))) := Lib.hid (by (repeat' (first | omega | (rw [hdrew]) | (with_reducible assumption) | (with_reducible exact Hid.out (by assumption)) | (with_reducible rfl) | ((with_reducible refine halloc_at _ _ _ ?_) <;> (first | (with_reducible rfl) | omega | (simp; done))) | (with_reducible refine chain6 ?_) | (with_reducible refine Eq.trans (hset_ne _ _ _ _ ?_) ?_) | (with_reducible refine Eq.trans (halloc_lt _ _ _ ?_) ?_) | (with_reducible refine Eq.trans (Below.block (Hid.out (by assumption)) _ ?_) ?_) | (simp; done) | (simp; omega))))
      have hx1wcs : wbq.heap.size < wcs.heap.size := (Array.getElem?_eq_some_iff.1 HXX1wcs.out).1
      have HXX2wcs : Hid (wcs.heap[wbr.heap.size]? = some (.cells #[.slice (some ⟨gwbr1, 0, none⟩) M.length M.length, .int .i64 G, .slice (some ⟨gwbr2, 0, none⟩) T.length T.length] 30 (0, 0))) := Lib.hid (by (repeat' (first | omega | (rw [hdrew]) | (with_reducible assumption) | (with_reducible exact Hid.out (by assumption)) | (with_reducible rfl) | ((with_reducible refine halloc_at _ _ _ ?_) <;> (first | (with_reducible rfl) | omega | (simp; done))) | (with_reducible refine chain6 ?_) | (with_reducible refine Eq.trans (hset_ne _ _ _ _ ?_) ?_) | (with_reducible refine Eq.trans (halloc_lt _ _ _ ?_) ?_) | (with_reducible refine Eq.trans (Below.block (Hid.out (by assumption)) _ ?_) ?_) | (simp; done) | (simp; omega))))
      have hx2wcs : wbr.heap.size < wcs.heap.size := (Array.getElem?_eq_some_iff.1 HXX2wcs.out).1
      have f1wcs0 := Joins.cell_of_block HBX1wcs.out 0
      have f1wcs1 := Joins.cell_of_block HBX1wcs.out 1
      have f1wcs2 := Joins.cell_of_block HBX1wcs.out 2
      simp only [List.getElem?_toArray, List.getElem?_cons_zero, List.getElem?_cons_succ] at f1wcs0 f1wcs1 f1wcs2
      have f2wcs0 := Joins.cell_of_block HBX2wcs.out 0
      have f2wcs1 := Joins.cell_of_block HBX2wcs.out 1
      have f2wcs2 := Joins.cell_of_block HBX2wcs.out 2
      simp only [List.getElem?_toArray, List.getElem?_cons_zero, List.getElem?_cons_succ] at f2wcs0 f2wcs1 f2wcs2
      have x1wcs0 := Joins.cell_of_block HXX1wcs.out 0
      have x1wcs1 := Joins.cell_of_block HXX1wcs.out 1
      have x1wcs2 := Joins.cell_of_block HXX1wcs.out 2
      simp only [List.getElem?_toArray, List.getElem?_cons_zero, List.getElem?_cons_succ] at x1wcs0 x1wcs1 x1wcs2
      have x2wcs0 := Joins.cell_of_block HXX2wcs.out 0
      have x2wcs1 := Joins.cell_of_block HXX2wcs.out 1
      have x2wcs2 := Joins.cell_of_block HXX2wcs.out 2
      simp only [List.getElem?_toArray, List.getElem?_cons_zero, List.getElem?_cons_succ] at x2wcs0 x2wcs1 x2wcs2
      go_wp2_with fail
      have HQwct := Lib.hid (HCwbq.out.below (w' := wcs) (by (repeat' (first | (with_reducible exact Below.refl _ _) | (with_reducible refine Below.alloc ?_ ?_ _) | (with_reducible refine Below.setCell ?_ ?_ _) | (with_reducible refine Below.drew ?_) | (with_reducible refine below_drewN ?_ _) | (with_reducible refine Below.trans ?_ (Below.mono (Hid.out (by assumption)) ?_)) | omega | (simp; done) | (simp; omega)))))
      have HGwct := Lib.hid ((HRwbs.out.below (w' := wcs) (by (repeat' (first | (with_reducible exact Below.refl _ _) | (with_reducible refine Below.alloc ?_ ?_ _) | (with_reducible refine Below.setCell ?_ ?_ _) | (with_reducible refine Below.drew ?_) | (with_reducible refine below_drewN ?_ _) | (with_reducible refine Below.trans ?_ (Below.mono (Hid.out (by assumption)) ?_)) | omega | (simp; done) | (simp; omega))))).mono (show gwbr2 + 1 ≤ _ by (first | omega | (simp; omega) | (simp; done))))
      have HK2wct := Lib.hid ((HCwbr.out.below (w' := wcs) (by (repeat' (first | (with_reducible exact Below.refl _ _) | (with_reducible refine Below.alloc ?_ ?_ _) | (with_reducible refine Below.setCell ?_ ?_ _) | (with_reducible refine Below.drew ?_) | (with_reducible refine below_drewN ?_ _) | (with_reducible refine Below.trans ?_ (Below.mono (Hid.out (by assumption)) ?_)) | omega | (simp; done) | (simp; omega))))).mono (show gwbq2 + 1 ≤ _ by (simp; omega)))
      refine (markA2_any L F S _ _ L.length S.length _ _ (1) (by omega) (by omega) (by omega) (by omega) _ (fun k e => by injection e with e; injection e with e; exact ⟨by (have := HQwct.out.hi; have := HQwct.out.lt; omega), fun e2 => by injection e2 with e2; injection e2 with e2; have := HQwct.out.lt; omega⟩) HQwct.out.maps HQwct.out.last).mono ?_
      rintro e wct ⟨rfl, _, _, ht⟩
      have hnrwct : ∀ k, gwbq2 + 1 ≤ k → ¬ (some ⟨gwbq1, 0, none⟩ = (some ⟨k, 0, none⟩ : Option Addr) ∨ some ⟨gwbq2, 0, none⟩ = (some ⟨k, 0, none⟩ : Option Addr)) := fun k hk h => by rcases h with h | h <;> (injection h with h; injection h with h; omega)
      have hb : Below gwbq1 wcs wct := ht.bel (fun k hk h => by rcases h with h | h <;> (injection h with h; injection h with h; omega))
      have HRwct := Lib.hid (HGwct.out.turnA ht (fun k hk _ => hnrwct k (by omega)))
      have HCwctx2 := Lib.hid (HK2wct.out.turn ht (fun k hk => hnrwct k hk))
      have HXX2wct : Hid (wct.heap[wbr.heap.size]? = some (.cells #[.slice (some ⟨gwbr1, 0, none⟩) M.length M.length, .int .i64 G, .slice (some ⟨gwbr2, 0, none⟩) T.length T.length] 30 (0, 0))) := Lib.hid (ht.at_ (by (repeat' (first | omega | (rw [hdrew]) | (with_reducible assumption) | (with_reducible exact Hid.out (by assumption)) | (with_reducible rfl) | ((with_reducible refine halloc_at _ _ _ ?_) <;> (first | (with_reducible rfl) | omega | (simp; done))) | (with_reducible refine chain6 ?_) | (with_reducible refine Eq.trans (hset_ne _ _ _ _ ?_) ?_) | (with_reducible refine Eq.trans (halloc_lt _ _ _ ?_) ?_) | (with_reducible refine Eq.trans (Below.block (Hid.out (by assumption)) _ ?_) ?_) | (simp; done) | (simp; omega)))) (hnrwct _ (by (try simp); omega)))
      have hswct : wb.heap.size ≤ wct.heap.size := (by have := ht.size; (try simp at this); omega)
      have hzwct := ht.size
      (try simp at hzwct)
      have HBwct := Lib.hid hb
      clear hb ht hnrwct HQwct HGwct
      have HBX1wct : Hid (wct.heap[w.heap.size]? = some (.cells #[.slice a1 L.length c1, .int .i64 F, .slice b1 S.length d1] 25 (0, 0))) := Lib.hid (by (repeat' (first | omega | (rw [hdrew]) | (with_reducible assumption) | (with_reducible exact Hid.out (by assumption)) | (with_reducible rfl) | ((with_reducible refine halloc_at _ _ _ ?_) <;> (first | (with_reducible rfl) | omega | (simp; done))) | (with_reducible refine chain6 ?_) | (with_reducible refine Eq.trans (hset_ne _ _ _ _ ?_) ?_) | (with_reducible refine Eq.trans (halloc_lt _ _ _ ?_) ?_) | (with_reducible refine Eq.trans (Below.block (Hid.out (by assumption)) _ ?_) ?_) | (simp; done) | (simp; omega))))
      have f1wct0 := Joins.cell_of_block HBX1wct.out 0
      have f1wct1 := Joins.cell_of_block HBX1wct.out 1
      have f1wct2 := Joins.cell_of_block HBX1wct.out 2
      simp only [List.getElem?_toArray, List.getElem?_cons_zero, List.getElem?_cons_succ] at f1wct0 f1wct1 f1wct2
      have HBX2wct : Hid (wct.heap[w.heap.size + 1]? = some (.cells #[.slice a2 M.length c2, .int .i64 G, .slice b2 T.length d2] 25 (0, 0))) := Lib.hid (by (repeat' (first | omega | (rw [hdrew]) | (with_reducible assumption) | (with_reducible exact Hid.out (by assumption)) | (with_reducible rfl) | ((with_reducible refine halloc_at _ _ _ ?_) <;> (first | (with_reducible rfl) | omega | (simp; done))) | (with_reducible refine chain6 ?_) | (with_reducible refine Eq.trans (hset_ne _ _ _ _ ?_) ?_) | (with_reducible refine Eq.trans (halloc_lt _ _ _ ?_) ?_) | (with_reducible refine Eq.trans (Below.block (Hid.out (by assumption)) _ ?_) ?_) | (simp; done) | (simp; omega))))
      have f2wct0 := Joins.cell_of_block HBX2wct.out 0
      have f2wct1 := Joins.cell_of_block HBX2wct.out 1
      have f2wct2 := Joins.cell_of_block HBX2wct.out 2
      simp only [List.getElem?_toArray, List.getElem?_cons_zero, List.getElem?_cons_succ] at f2wct0 f2wct1 f2wct2
      have x2wct0 := Joins.cell_of_block HXX2wct.out 0
      have x2wct1 := Joins.cell_of_block HXX2wct.out 1
      have x2wct2 := Joins.cell_of_block HXX2wct.out 2
      simp only [List.getElem?_toArray, List.getElem?_cons_zero, List.getElem?_cons_succ] at x2wct0 x2wct1 x2wct2
      have hqwct : (1 + 6 * (L.length : Int) + (S.length : Int) < 0) = False := by simp; omega
      go_wp2_with fail
      have HQwdp := Lib.hid (HCwctx2.out.below (w' := wct) (by (repeat' (first | (with_reducible exact Below.refl _ _) | (with_reducible refine Below.alloc ?_ ?_ _) | (with_reducible refine Below.setCell ?_ ?_ _) | (with_reducible refine Below.drew ?_) | (with_reducible refine below_drewN ?_ _) | (with_reducible refine Below.trans ?_ (Below.mono (Hid.out (by assumption)) ?_)) | omega | (simp; done) | (simp; omega)))))
      have HGwdp := Lib.hid ((HRwct.out.below (w' := wct) (by (repeat' (first | (with_reducible exact Below.refl _ _) | (with_reducible refine Below.alloc ?_ ?_ _) | (with_reducible refine Below.setCell ?_ ?_ _) | (with_reducible refine Below.drew ?_) | (with_reducible refine below_drewN ?_ _) | (with_reducible refine Below.trans ?_ (Below.mono (Hid.out (by assumption)) ?_)) | omega | (simp; done) | (simp; omega))))).mono (show gwbr2 + 1 ≤ _ by (first | omega | (simp; omega) | (simp; done))))
      refine (markA2_any M G T _ _ M.length T.length _ _ (1 + 6 * (L.length : Int) + (S.length : Int)) (by omega) (by omega) (by omega) (by omega) _ (fun k e => by injection e with e; injection e with e; exact ⟨by (have := HQwdp.out.hi; have := HQwdp.out.lt; omega), fun e2 => by injection e2 with e2; injection e2 with e2; have := HQwdp.out.lt; omega⟩) HQwdp.out.maps HQwdp.out.last).mono ?_
      rintro e wdp ⟨rfl, _, _, ht⟩
      have hnrwdp : ∀ k, gwbr2 + 1 ≤ k → ¬ (some ⟨gwbr1, 0, none⟩ = (some ⟨k, 0, none⟩ : Option Addr) ∨ some ⟨gwbr2, 0, none⟩ = (some ⟨k, 0, none⟩ : Option Addr)) := fun k hk h => by rcases h with h | h <;> (injection h with h; injection h with h; omega)
      have hb : Below gwbr1 wct wdp := ht.bel (fun k hk h => by rcases h with h | h <;> (injection h with h; injection h with h; omega))
      have HRwdp := Lib.hid (HGwdp.out.turnA ht (fun k hk _ => hnrwdp k (by omega)))
      have hswdp : wb.heap.size ≤ wdp.heap.size := (by have := ht.size; (try simp at this); omega)
      have hzwdp := ht.size
      (try simp at hzwdp)
      have HBwdp := Lib.hid hb
      clear hb ht hnrwdp HQwdp HGwdp
      have HBX1wdp : Hid (wdp.heap[w.heap.size]? = some (.cells #[.slice a1 L.length c1, .int .i64 F, .slice b1 S.length d1] 25 (0, 0))) := Lib.hid (by (repeat' (first | omega | (rw [hdrew]) | (with_reducible assumption) | (with_reducible exact Hid.out (by assumption)) | (with_reducible rfl) | ((with_reducible refine halloc_at _ _ _ ?_) <;> (first | (with_reducible rfl) | omega | (simp; done))) | (with_reducible refine chain6 ?_) | (with_reducible refine Eq.trans (hset_ne _ _ _ _ ?_) ?_) | (with_reducible refine Eq.trans (halloc_lt _ _ _ ?_) ?_) | (with_reducible refine Eq.trans (Below.block (Hid.out (by assumption)) _ ?_) ?_) | (simp; done) | (simp; omega))))
      have f1wdp0 := Joins.cell_of_block HBX1wdp.out 0
      have f1wdp1 := Joins.cell_of_block HBX1wdp.out 1
      have f1wdp2 := Joins.cell_of_block HBX1wdp.out 2
      simp only [List.getElem?_toArray, List.getElem?_cons_zero, List.getElem?_cons_succ] at f1wdp0 f1wdp1 f1wdp2
      have HBX2wdp : Hid (wdp.heap[w.heap.size + 1]? = some (.cells #[.slice a2 M.length c2, .int .i64 G, .slice b2 T.length d2] 25 (0, 0))) := Lib.hid (by (repeat' (first | omega | (rw [hdrew]) | (with_reducible assumption) | (with_reducible exact Hid.out (by assumption)) | (with_reducible rfl) | ((with_reducible refine halloc_at _ _ _ ?_) <;> (first | (with_reducible rfl) | omega | (simp; done))) | (with_reducible refine chain6 ?_) | (with_reducible refine Eq.trans (hset_ne _ _ _ _ ?_) ?_) | (with_reducible refine Eq.trans (halloc_lt _ _ _ ?_) ?_) | (with_reducible refine Eq.trans (Below.block (Hid.out (by assumption)) _ ?_) ?_) | (simp; done) | (simp; omega))))
      have f2wdp0 := Joins.cell_of_block HBX2wdp.out 0
      have f2wdp1 := Joins.cell_of_block HBX2wdp.out 1
      have f2wdp2 := Joins.cell_of_block HBX2wdp.out 2
      simp only [List.getElem?_toArray, List.getElem?_cons_zero, List.getElem?_cons_succ] at f2wdp0 f2wdp1 f2wdp2
      have hqwdp : (1 + 6 * (L.length : Int) + (S.length : Int) + 6 * (M.length : Int) + (T.length : Int) < 0) = False := by simp; omega
      go_wp2_with fail
      refine (eqS_same R awbs awbp cwbs cwbp _ _ _ (HRwdp.out.below (by (repeat' (first | (with_reducible exact Below.refl _ _) | (with_reducible refine Below.alloc ?_ ?_ _) | (with_reducible refine Below.setCell ?_ ?_ _) | (with_reducible refine Below.drew ?_) | (with_reducible refine below_drewN ?_ _) | (with_reducible refine Below.trans ?_ (Below.mono (Hid.out (by assumption)) ?_)) | omega | (simp; done) | (simp; omega))))) (HRwbp.out.below (by (repeat' (first | (with_reducible exact Below.refl _ _) | (with_reducible refine Below.alloc ?_ ?_ _) | (with_reducible refine Below.setCell ?_ ?_ _) | (with_reducible refine Below.drew ?_) | (with_reducible refine below_drewN ?_ _) | (with_reducible refine Below.trans ?_ (Below.mono (Hid.out (by assumption)) ?_)) | omega | (simp; done) | (simp; omega)))))).mono ?_
      rintro e wdq ⟨rfl, hb⟩
      have hzwdq := hb.size
      (try simp at hzwdq)
      have hswdq : wb.heap.size ≤ wdq.heap.size := (by have := hb.size; (try simp at this); omega)
      have HBwdq := Lib.hid hb
      clear hb
      have hq1wdq : w.heap.size < wdq.heap.size := by omega
      have hq2wdq : w.heap.size + 1 < wdq.heap.size := by omega
      have HBX1wdq : Hid (wdq.heap[w.heap.size]? = some (.cells #[.slice a1 L.length c1, .int .i64 F, .slice b1 S.length d1] 25 (0, 0))) := Lib.hid (by (repeat' (first | omega | (rw [hdrew]) | (with_reducible assumption) | (with_reducible exact Hid.out (by assumption)) | (with_reducible rfl) | ((with_reducible refine halloc_at _ _ _ ?_) <;> (first | (with_reducible rfl) | omega | (simp; done))) | (with_reducible refine chain6 ?_) | (with_reducible refine Eq.trans (hset_ne _ _ _ _ ?_) ?_) | (with_reducible refine Eq.trans (halloc_lt _ _ _ ?_) ?_) | (with_reducible refine Eq.trans (Below.block (Hid.out (by assumption)) _ ?_) ?_) | (simp; done) | (simp; omega))))
      have HBX2wdq : Hid (wdq.heap[w.heap.size + 1]? = some (.cells #[.slice a2 M.length c2, .int .i64 G, .slice b2 T.length d2] 25 (0, 0))) := Lib.hid (by (repeat' (first | omega | (rw [hdrew]) | (with_reducible assumption) | (with_reducible exact Hid.out (by assumption)) | (with_reducible rfl) | ((with_reducible refine halloc_at _ _ _ ?_) <;> (first | (with_reducible rfl) | omega | (simp; done))) | (with_reducible refine chain6 ?_) | (with_reducible refine Eq.trans (hset_ne _ _ _ _ ?_) ?_) | (with_reducible refine Eq.trans (halloc_lt _ _ _ ?_) ?_) | (with_reducible refine Eq.trans (Below.block (Hid.out (by assumption)) _ ?_) ?_) | (simp; done) | (simp; omega))))
      have f1wdq0 := Joins.cell_of_block HBX1wdq.out 0
      have f1wdq1 := Joins.cell_of_block HBX1wdq.out 1
      have f1wdq2 := Joins.cell_of_block HBX1wdq.out 2
      simp only [List.getElem?_toArray, List.getElem?_cons_zero, List.getElem?_cons_succ] at f1wdq0 f1wdq1 f1wdq2
      have f2wdq0 := Joins.cell_of_block HBX2wdq.out 0
      have f2wdq1 := Joins.cell_of_block HBX2wdq.out 1
      have f2wdq2 := Joins.cell_of_block HBX2wdq.out 2
      simp only [List.getElem?_toArray, List.getElem?_cons_zero, List.getElem?_cons_succ] at f2wdq0 f2wdq1 f2wdq2
      go_wp2_with fail
      have HQwdr := Lib.hid (HRwdp.out.below (w' := wdq) (by (repeat' (first | (with_reducible exact Below.refl _ _) | (with_reducible refine Below.alloc ?_ ?_ _) | (with_reducible refine Below.setCell ?_ ?_ _) | (with_reducible refine Below.drew ?_) | (with_reducible refine below_drewN ?_ _) | (with_reducible refine Below.trans ?_ (Below.mono (Hid.out (by assumption)) ?_)) | omega | (simp; done) | (simp; omega)))))
      refine (markS_any R awbs cwbs _ 1 (by decide) (by decide) _ HQwdr.out).mono ?_
      rintro e wdr ⟨rfl, hr, hbut, hb⟩
      have HRwdr := Lib.hid hr
      have hswdr : wb.heap.size ≤ wdr.heap.size := (by have := hbut.size; (try simp at this); omega)
      have hzwdr := hbut.size
      (try simp at hzwdr)
      have HBwdr := Lib.hid hb
      clear hb hr hbut
      have hq1wdr : w.heap.size < wdr.heap.size := by omega
      have hq2wdr : w.heap.size + 1 < wdr.heap.size := by omega
      have HBX1wdr : Hid (wdr.heap[w.heap.size]? = some (.cells #[.slice a1 L.length c1, .int .i64 F, .slice b1 S.length d1] 25 (0, 0))) := Lib.hid (by (repeat' (first | omega | (rw [hdrew]) | (with_reducible assumption) | (with_reducible exact Hid.out (by assumption)) | (with_reducible rfl) | ((with_reducible refine halloc_at _ _ _ ?_) <;> (first | (with_reducible rfl) | omega | (simp; done))) | (with_reducible refine chain6 ?_) | (with_reducible refine Eq.trans (hset_ne _ _ _ _ ?_) ?_) | (with_reducible refine Eq.trans (halloc_lt _ _ _ ?_) ?_) | (with_reducible refine Eq.trans (Below.block (Hid.out (by assumption)) _ ?_) ?_) | (simp; done) | (simp; omega))))
      have HBX2wdr : Hid (wdr.heap[w.heap.size + 1]? = some (.cells #[.slice a2 M.length c2, .int .i64 G, .slice b2 T.length d2] 25 (0, 0))) := Lib.hid (by (repeat' (first | omega | (rw [hdrew]) | (with_reducible assumption) | (with_reducible exact Hid.out (by assumption)) | (with_reducible rfl) | ((with_reducible refine halloc_at _ _ _ ?_) <;> (first | (with_reducible rfl) | omega | (simp; done))) | (with_reducible refine chain6 ?_) | (with_reducible refine Eq.trans (hset_ne _ _ _ _ ?_) ?_) | (with_reducible refine Eq.trans (halloc_lt _ _ _ ?_) ?_) | (with_reducible refine Eq.trans (Below.block (Hid.out (by assumption)) _ ?_) ?_) | (simp; done) | (simp; omega))))
      have f1wdr0 := Joins.cell_of_block HBX1wdr.out 0
      have f1wdr1 := Joins.cell_of_block HBX1wdr.out 1
      have f1wdr2 := Joins.cell_of_block HBX1wdr.out 2
      simp only [List.getElem?_toArray, List.getElem?_cons_zero, List.getElem?_cons_succ] at f1wdr0 f1wdr1 f1wdr2
      have f2wdr0 := Joins.cell_of_block HBX2wdr.out 0
      have f2wdr1 := Joins.cell_of_block HBX2wdr.out 1
      have f2wdr2 := Joins.cell_of_block HBX2wdr.out 2
      simp only [List.getElem?_toArray, List.getElem?_cons_zero, List.getElem?_cons_succ] at f2wdr0 f2wdr1 f2wdr2
      have hqr : (1 + (R.length : Int) < 0) = False := by simp; omega
      go_wp2_with fail
      refine (heldS_any R.length awbs cwbs _ 1 (by decide) (by decide) _ (HRwdr.out.below (by (repeat' (first | (with_reducible exact Below.refl _ _) | (with_reducible refine Below.alloc ?_ ?_ _) | (with_reducible refine Below.setCell ?_ ?_ _) | (with_reducible refine Below.drew ?_) | (with_reducible refine below_drewN ?_ _) | (with_reducible refine Below.trans ?_ (Below.mono (Hid.out (by assumption)) ?_)) | omega | (simp; done) | (simp; omega)))))).mono ?_
      rintro e wds ⟨rfl, hb⟩
      have hzwds := hb.size
      (try simp at hzwds)
      have hswds : wb.heap.size ≤ wds.heap.size := (by have := hb.size; (try simp at this); omega)
      have HBwds := Lib.hid hb
      clear hb
      have hq1wds : w.heap.size < wds.heap.size := by omega
      have hq2wds : w.heap.size + 1 < wds.heap.size := by omega
      have HBX1wds : Hid (wds.heap[w.heap.size]? = some (.cells #[.slice a1 L.length c1, .int .i64 F, .slice b1 S.length d1] 25 (0, 0))) := Lib.hid (by (repeat' (first | omega | (rw [hdrew]) | (with_reducible assumption) | (with_reducible exact Hid.out (by assumption)) | (with_reducible rfl) | ((with_reducible refine halloc_at _ _ _ ?_) <;> (first | (with_reducible rfl) | omega | (simp; done))) | (with_reducible refine chain6 ?_) | (with_reducible refine Eq.trans (hset_ne _ _ _ _ ?_) ?_) | (with_reducible refine Eq.trans (halloc_lt _ _ _ ?_) ?_) | (with_reducible refine Eq.trans (Below.block (Hid.out (by assumption)) _ ?_) ?_) | (simp; done) | (simp; omega))))
      have HBX2wds : Hid (wds.heap[w.heap.size + 1]? = some (.cells #[.slice a2 M.length c2, .int .i64 G, .slice b2 T.length d2] 25 (0, 0))) := Lib.hid (by (repeat' (first | omega | (rw [hdrew]) | (with_reducible assumption) | (with_reducible exact Hid.out (by assumption)) | (with_reducible rfl) | ((with_reducible refine halloc_at _ _ _ ?_) <;> (first | (with_reducible rfl) | omega | (simp; done))) | (with_reducible refine chain6 ?_) | (with_reducible refine Eq.trans (hset_ne _ _ _ _ ?_) ?_) | (with_reducible refine Eq.trans (halloc_lt _ _ _ ?_) ?_) | (with_reducible refine Eq.trans (Below.block (Hid.out (by assumption)) _ ?_) ?_) | (simp; done) | (simp; omega))))
      have f1wds0 := Joins.cell_of_block HBX1wds.out 0
      have f1wds1 := Joins.cell_of_block HBX1wds.out 1
      have f1wds2 := Joins.cell_of_block HBX1wds.out 2
      simp only [List.getElem?_toArray, List.getElem?_cons_zero, List.getElem?_cons_succ] at f1wds0 f1wds1 f1wds2
      have f2wds0 := Joins.cell_of_block HBX2wds.out 0
      have f2wds1 := Joins.cell_of_block HBX2wds.out 1
      have f2wds2 := Joins.cell_of_block HBX2wds.out 2
      simp only [List.getElem?_toArray, List.getElem?_cons_zero, List.getElem?_cons_succ] at f2wds0 f2wds1 f2wds2
      go_wp2_with fail
      have r10 : ∀ z, Below wds.heap.size wds z → z.cell? ⟨w.heap.size, 0, none⟩ = _ := fun z h => (h.cell (p := ⟨w.heap.size, 0, none⟩) (show w.heap.size < _ by omega)).trans f1wds0
      have r11 : ∀ z, Below wds.heap.size wds z → z.cell? ⟨w.heap.size, 1, none⟩ = _ := fun z h => (h.cell (p := ⟨w.heap.size, 1, none⟩) (show w.heap.size < _ by omega)).trans f1wds1
      have r12 : ∀ z, Below wds.heap.size wds z → z.cell? ⟨w.heap.size, 2, none⟩ = _ := fun z h => (h.cell (p := ⟨w.heap.size, 2, none⟩) (show w.heap.size < _ by omega)).trans f1wds2
      have HMI1 := Lib.hid fun z (_ : Hid (Below wds.heap.size wds z)) => HM1wb.out.below (w' := z) (by (repeat' (first | (with_reducible exact Below.refl _ _) | (with_reducible refine Below.alloc ?_ ?_ _) | (with_reducible refine Below.setCell ?_ ?_ _) | (with_reducible refine Below.drew ?_) | (with_reducible refine below_drewN ?_ _) | (with_reducible refine Below.trans ?_ (Below.mono (Hid.out (by assumption)) ?_)) | omega | (simp; done) | (simp; omega))))
      have HLI1 := Lib.hid fun z (_ : Hid (Below wds.heap.size wds z)) => HL1wb.out.below (w' := z) (by (repeat' (first | (with_reducible exact Below.refl _ _) | (with_reducible refine Below.alloc ?_ ?_ _) | (with_reducible refine Below.setCell ?_ ?_ _) | (with_reducible refine Below.drew ?_) | (with_reducible refine below_drewN ?_ _) | (with_reducible refine Below.trans ?_ (Below.mono (Hid.out (by assumption)) ?_)) | omega | (simp; done) | (simp; omega))))
      have r20 : ∀ z, Below wds.heap.size wds z → z.cell? ⟨w.heap.size + 1, 0, none⟩ = _ := fun z h => (h.cell (p := ⟨w.heap.size + 1, 0, none⟩) (show w.heap.size + 1 < _ by omega)).trans f2wds0
      have r21 : ∀ z, Below wds.heap.size wds z → z.cell? ⟨w.heap.size + 1, 1, none⟩ = _ := fun z h => (h.cell (p := ⟨w.heap.size + 1, 1, none⟩) (show w.heap.size + 1 < _ by omega)).trans f2wds1
      have r22 : ∀ z, Below wds.heap.size wds z → z.cell? ⟨w.heap.size + 1, 2, none⟩ = _ := fun z h => (h.cell (p := ⟨w.heap.size + 1, 2, none⟩) (show w.heap.size + 1 < _ by omega)).trans f2wds2
      have HMI2 := Lib.hid fun z (_ : Hid (Below wds.heap.size wds z)) => HM2wb.out.below (w' := z) (by (repeat' (first | (with_reducible exact Below.refl _ _) | (with_reducible refine Below.alloc ?_ ?_ _) | (with_reducible refine Below.setCell ?_ ?_ _) | (with_reducible refine Below.drew ?_) | (with_reducible refine below_drewN ?_ _) | (with_reducible refine Below.trans ?_ (Below.mono (Hid.out (by assumption)) ?_)) | omega | (simp; done) | (simp; omega))))
      have HLI2 := Lib.hid fun z (_ : Hid (Below wds.heap.size wds z)) => HL2wb.out.below (w' := z) (by (repeat' (first | (with_reducible exact Below.refl _ _) | (with_reducible refine Below.alloc ?_ ?_ _) | (with_reducible refine Below.setCell ?_ ?_ _) | (with_reducible refine Below.drew ?_) | (with_reducible refine below_drewN ?_ _) | (with_reducible refine Below.trans ?_ (Below.mono (Hid.out (by assumption)) ?_)) | omega | (simp; done) | (simp; omega))))
      go_region_held3 (fun w' => Below wds.heap.size wds w') (first | (with_reducible assumption) | ((repeat' (first | (with_reducible exact Below.refl _ _) | (with_reducible refine Below.alloc ?_ ?_ _) | (with_reducible refine Below.setCell ?_ ?_ _) | (with_reducible refine Below.drew ?_) | (with_reducible refine below_drewN ?_ _) | (with_reducible refine Below.trans ?_ (Below.mono (Hid.out (by assumption)) ?_)) | omega | (simp; done) | (simp; omega))); done)) (first
        | (go_at_call 13; (with_reducible refine (HCP1.out _ a1 b1 c1 d1 (HMI1.out _ (Lib.hid (by (repeat' (first | (with_reducible exact Below.refl _ _) | (with_reducible refine Below.alloc ?_ ?_ _) | (with_reducible refine Below.setCell ?_ ?_ _) | (with_reducible refine Below.drew ?_) | (with_reducible refine below_drewN ?_ _) | (with_reducible refine Below.trans ?_ (Below.mono (Hid.out (by assumption)) ?_)) | omega | (simp; done) | (simp; omega)))))) (HLI1.out _ (Lib.hid (by (repeat' (first | (with_reducible exact Below.refl _ _) | (with_reducible refine Below.alloc ?_ ?_ _) | (with_reducible refine Below.setCell ?_ ?_ _) | (with_reducible refine Below.drew ?_) | (with_reducible refine below_drewN ?_ _) | (with_reducible refine Below.trans ?_ (Below.mono (Hid.out (by assumption)) ?_)) | omega | (simp; done) | (simp; omega))))))).mono ?_); rintro e wdt ⟨gwdt1, gwdt2, rfl, hcop, hb⟩; have HCwdt := Lib.hid hcop; have hlowdt := hcop.lo; have hzwdt := hb.size; (try simp at hlowdt hzwdt); have HBwdt := Lib.hid hb; clear hb hcop)
        | (go_at_call 13; (with_reducible refine (HCP2.out _ a2 b2 c2 d2 (HMI2.out _ (Lib.hid (by (repeat' (first | (with_reducible exact Below.refl _ _) | (with_reducible refine Below.alloc ?_ ?_ _) | (with_reducible refine Below.setCell ?_ ?_ _) | (with_reducible refine Below.drew ?_) | (with_reducible refine below_drewN ?_ _) | (with_reducible refine Below.trans ?_ (Below.mono (Hid.out (by assumption)) ?_)) | omega | (simp; done) | (simp; omega)))))) (HLI2.out _ (Lib.hid (by (repeat' (first | (with_reducible exact Below.refl _ _) | (with_reducible refine Below.alloc ?_ ?_ _) | (with_reducible refine Below.setCell ?_ ?_ _) | (with_reducible refine Below.drew ?_) | (with_reducible refine below_drewN ?_ _) | (with_reducible refine Below.trans ?_ (Below.mono (Hid.out (by assumption)) ?_)) | omega | (simp; done) | (simp; omega))))))).mono ?_); rintro e wep ⟨gwep1, gwep2, rfl, hcop, hb⟩; have HCwep := Lib.hid hcop; have hlowep := hcop.lo; have hzwep := hb.size; (try simp at hlowep hzwep); have HBwep := Lib.hid hb; clear hb hcop)
        | (go_at_call 30; (with_reducible refine (HI.out _ _ _ _ _ ((HCwdt.out.below (by (repeat' (first | (with_reducible exact Below.refl _ _) | (with_reducible refine Below.alloc ?_ ?_ _) | (with_reducible refine Below.setCell ?_ ?_ _) | (with_reducible refine Below.drew ?_) | (with_reducible refine below_drewN ?_ _) | (with_reducible refine Below.trans ?_ (Below.mono (Hid.out (by assumption)) ?_)) | omega | (simp; done) | (simp; omega))))).maps.inRow) ((HCwdt.out.below (by (repeat' (first | (with_reducible exact Below.refl _ _) | (with_reducible refine Below.alloc ?_ ?_ _) | (with_reducible refine Below.setCell ?_ ?_ _) | (with_reducible refine Below.drew ?_) | (with_reducible refine below_drewN ?_ _) | (with_reducible refine Below.trans ?_ (Below.mono (Hid.out (by assumption)) ?_)) | omega | (simp; done) | (simp; omega))))).last.inRow) ((HCwep.out.below (by (repeat' (first | (with_reducible exact Below.refl _ _) | (with_reducible refine Below.alloc ?_ ?_ _) | (with_reducible refine Below.setCell ?_ ?_ _) | (with_reducible refine Below.drew ?_) | (with_reducible refine below_drewN ?_ _) | (with_reducible refine Below.trans ?_ (Below.mono (Hid.out (by assumption)) ?_)) | omega | (simp; done) | (simp; omega))))).maps.inRow) ((HCwep.out.below (by (repeat' (first | (with_reducible exact Below.refl _ _) | (with_reducible refine Below.alloc ?_ ?_ _) | (with_reducible refine Below.setCell ?_ ?_ _) | (with_reducible refine Below.drew ?_) | (with_reducible refine below_drewN ?_ _) | (with_reducible refine Below.trans ?_ (Below.mono (Hid.out (by assumption)) ?_)) | omega | (simp; done) | (simp; omega))))).last.inRow)).mono ?_); rintro e weq ⟨aweq, cweq, rfl, hr, hb⟩; have HRweq := Lib.hid hr; clear hr; have hzweq := hb.size; (try simp at hzweq); have HBweq := Lib.hid hb; clear hb))
      clear r10 r11 r12 r20 r21 r22
      have hsweq : wb.heap.size ≤ weq.heap.size := (by (try simp at hzwdt hzwep hzweq); omega)
      have hq1weq : w.heap.size < weq.heap.size := by omega
      have hq2weq : w.heap.size + 1 < weq.heap.size := by omega
      have HBX1weq : Hid (weq.heap[w.heap.size]? = some (.cells #[.slice a1 L.length c1, .int .i64 F, .slice b1 S.length d1] 25 (0, 0))) := Lib.hid (by (repeat' (first | omega | (rw [hdrew]) | (with_reducible assumption) | (with_reducible exact Hid.out (by assumption)) | (with_reducible rfl) | ((with_reducible refine halloc_at _ _ _ ?_) <;> (first | (with_reducible rfl) | omega | (simp; done))) | (with_reducible refine chain6 ?_) | (with_reducible refine Eq.trans (hset_ne _ _ _ _ ?_) ?_) | (with_reducible refine Eq.trans (halloc_lt _ _ _ ?_) ?_) | (with_reducible refine Eq.trans (Below.block (Hid.out (by assumption)) _ ?_) ?_) | (simp; done) | (simp; omega))))
      have HBX2weq : Hid (weq.heap[w.heap.size + 1]? = some (.cells #[.slice a2 M.length c2, .int .i64 G, .slice b2 T.length d2] 25 (0, 0))) := Lib.hid (by (repeat' (first | omega | (rw [hdrew]) | (with_reducible assumption) | (with_reducible exact Hid.out (by assumption)) | (with_reducible rfl) | ((with_reducible refine halloc_at _ _ _ ?_) <;> (first | (with_reducible rfl) | omega | (simp; done))) | (with_reducible refine chain6 ?_) | (with_reducible refine Eq.trans (hset_ne _ _ _ _ ?_) ?_) | (with_reducible refine Eq.trans (halloc_lt _ _ _ ?_) ?_) | (with_reducible refine Eq.trans (Below.block (Hid.out (by assumption)) _ ?_) ?_) | (simp; done) | (simp; omega))))
      have f1weq0 := Joins.cell_of_block HBX1weq.out 0
      have f1weq1 := Joins.cell_of_block HBX1weq.out 1
      have f1weq2 := Joins.cell_of_block HBX1weq.out 2
      simp only [List.getElem?_toArray, List.getElem?_cons_zero, List.getElem?_cons_succ] at f1weq0 f1weq1 f1weq2
      have f2weq0 := Joins.cell_of_block HBX2weq.out 0
      have f2weq1 := Joins.cell_of_block HBX2weq.out 1
      have f2weq2 := Joins.cell_of_block HBX2weq.out 2
      simp only [List.getElem?_toArray, List.getElem?_cons_zero, List.getElem?_cons_succ] at f2weq0 f2weq1 f2weq2
      go_wp2_with fail
      refine (eqS_same R aweq awbp cweq cwbp _ _ _ (HRweq.out.below (by (repeat' (first | (with_reducible exact Below.refl _ _) | (with_reducible refine Below.alloc ?_ ?_ _) | (with_reducible refine Below.setCell ?_ ?_ _) | (with_reducible refine Below.drew ?_) | (with_reducible refine below_drewN ?_ _) | (with_reducible refine Below.trans ?_ (Below.mono (Hid.out (by assumption)) ?_)) | omega | (simp; done) | (simp; omega))))) (HRwbp.out.below (by (repeat' (first | (with_reducible exact Below.refl _ _) | (with_reducible refine Below.alloc ?_ ?_ _) | (with_reducible refine Below.setCell ?_ ?_ _) | (with_reducible refine Below.drew ?_) | (with_reducible refine below_drewN ?_ _) | (with_reducible refine Below.trans ?_ (Below.mono (Hid.out (by assumption)) ?_)) | omega | (simp; done) | (simp; omega)))))).mono ?_
      rintro e wer ⟨rfl, hb⟩
      have hzwer := hb.size
      (try simp at hzwer)
      have hswer : wb.heap.size ≤ wer.heap.size := (by have := hb.size; (try simp at this); omega)
      have HBwer := Lib.hid hb
      clear hb
      have hq1wer : w.heap.size < wer.heap.size := by omega
      have hq2wer : w.heap.size + 1 < wer.heap.size := by omega
      have HBX1wer : Hid (wer.heap[w.heap.size]? = some (.cells #[.slice a1 L.length c1, .int .i64 F, .slice b1 S.length d1] 25 (0, 0))) := Lib.hid (by (repeat' (first | omega | (rw [hdrew]) | (with_reducible assumption) | (with_reducible exact Hid.out (by assumption)) | (with_reducible rfl) | ((with_reducible refine halloc_at _ _ _ ?_) <;> (first | (with_reducible rfl) | omega | (simp; done))) | (with_reducible refine chain6 ?_) | (with_reducible refine Eq.trans (hset_ne _ _ _ _ ?_) ?_) | (with_reducible refine Eq.trans (halloc_lt _ _ _ ?_) ?_) | (with_reducible refine Eq.trans (Below.block (Hid.out (by assumption)) _ ?_) ?_) | (simp; done) | (simp; omega))))
      have HBX2wer : Hid (wer.heap[w.heap.size + 1]? = some (.cells #[.slice a2 M.length c2, .int .i64 G, .slice b2 T.length d2] 25 (0, 0))) := Lib.hid (by (repeat' (first | omega | (rw [hdrew]) | (with_reducible assumption) | (with_reducible exact Hid.out (by assumption)) | (with_reducible rfl) | ((with_reducible refine halloc_at _ _ _ ?_) <;> (first | (with_reducible rfl) | omega | (simp; done))) | (with_reducible refine chain6 ?_) | (with_reducible refine Eq.trans (hset_ne _ _ _ _ ?_) ?_) | (with_reducible refine Eq.trans (halloc_lt _ _ _ ?_) ?_) | (with_reducible refine Eq.trans (Below.block (Hid.out (by assumption)) _ ?_) ?_) | (simp; done) | (simp; omega))))
      have f1wer0 := Joins.cell_of_block HBX1wer.out 0
      have f1wer1 := Joins.cell_of_block HBX1wer.out 1
      have f1wer2 := Joins.cell_of_block HBX1wer.out 2
      simp only [List.getElem?_toArray, List.getElem?_cons_zero, List.getElem?_cons_succ] at f1wer0 f1wer1 f1wer2
      have f2wer0 := Joins.cell_of_block HBX2wer.out 0
      have f2wer1 := Joins.cell_of_block HBX2wer.out 1
      have f2wer2 := Joins.cell_of_block HBX2wer.out 2
      simp only [List.getElem?_toArray, List.getElem?_cons_zero, List.getElem?_cons_succ] at f2wer0 f2wer1 f2wer2
      go_wp2_with fail
      refine (heldS_any R.length awbs cwbs _ 1 (by decide) (by decide) _ (HRwdr.out.below (by (repeat' (first | (with_reducible exact Below.refl _ _) | (with_reducible refine Below.alloc ?_ ?_ _) | (with_reducible refine Below.setCell ?_ ?_ _) | (with_reducible refine Below.drew ?_) | (with_reducible refine below_drewN ?_ _) | (with_reducible refine Below.trans ?_ (Below.mono (Hid.out (by assumption)) ?_)) | omega | (simp; done) | (simp; omega)))))).mono ?_
      rintro e wes ⟨rfl, hb⟩
      have hzwes := hb.size
      (try simp at hzwes)
      have hswes : wb.heap.size ≤ wes.heap.size := (by have := hb.size; (try simp at this); omega)
      have HBwes := Lib.hid hb
      clear hb
      have hq1wes : w.heap.size < wes.heap.size := by omega
      have hq2wes : w.heap.size + 1 < wes.heap.size := by omega
      have HBX1wes : Hid (wes.heap[w.heap.size]? = some (.cells #[.slice a1 L.length c1, .int .i64 F, .slice b1 S.length d1] 25 (0, 0))) := Lib.hid (by (repeat' (first | omega | (rw [hdrew]) | (with_reducible assumption) | (with_reducible exact Hid.out (by assumption)) | (with_reducible rfl) | ((with_reducible refine halloc_at _ _ _ ?_) <;> (first | (with_reducible rfl) | omega | (simp; done))) | (with_reducible refine chain6 ?_) | (with_reducible refine Eq.trans (hset_ne _ _ _ _ ?_) ?_) | (with_reducible refine Eq.trans (halloc_lt _ _ _ ?_) ?_) | (with_reducible refine Eq.trans (Below.block (Hid.out (by assumption)) _ ?_) ?_) | (simp; done) | (simp; omega))))
      have HBX2wes : Hid (wes.heap[w.heap.size + 1]? = some (.cells #[.slice a2 M.length c2, .int .i64 G, .slice b2 T.length d2] 25 (0, 0))) := Lib.hid (by (repeat' (first | omega | (rw [hdrew]) | (with_reducible assumption) | (with_reducible exact Hid.out (by assumption)) | (with_reducible rfl) | ((with_reducible refine halloc_at _ _ _ ?_) <;> (first | (with_reducible rfl) | omega | (simp; done))) | (with_reducible refine chain6 ?_) | (with_reducible refine Eq.trans (hset_ne _ _ _ _ ?_) ?_) | (with_reducible refine Eq.trans (halloc_lt _ _ _ ?_) ?_) | (with_reducible refine Eq.trans (Below.block (Hid.out (by assumption)) _ ?_) ?_) | (simp; done) | (simp; omega))))
      have f1wes0 := Joins.cell_of_block HBX1wes.out 0
      have f1wes1 := Joins.cell_of_block HBX1wes.out 1
      have f1wes2 := Joins.cell_of_block HBX1wes.out 2
      simp only [List.getElem?_toArray, List.getElem?_cons_zero, List.getElem?_cons_succ] at f1wes0 f1wes1 f1wes2
      have f2wes0 := Joins.cell_of_block HBX2wes.out 0
      have f2wes1 := Joins.cell_of_block HBX2wes.out 1
      have f2wes2 := Joins.cell_of_block HBX2wes.out 2
      simp only [List.getElem?_toArray, List.getElem?_cons_zero, List.getElem?_cons_succ] at f2wes0 f2wes1 f2wes2
      go_wp2_with fail
      go_ret
      refine ⟨rfl, ?_⟩
      have hall := HWB.out
      (repeat' (first | (with_reducible exact Below.refl _ _) | (with_reducible refine Below.alloc ?_ ?_ _) | (with_reducible refine Below.setCell ?_ ?_ _) | (with_reducible refine Below.drew ?_) | (with_reducible refine below_drewN ?_ _) | (with_reducible refine Below.trans ?_ (Below.mono (Hid.out (by assumption)) ?_)) | omega | (simp; done) | (simp; omega)))
    · have HNO := Lib.hid fun w => szA_no M.length T.length h42 h52 a2 b2 c2 d2 G (1048576 - (L.length : Int) - (S.length : Int)) (by omega) (by omega) (by omega) w
      go_enter Try.func8, Try.ntmps8
      go_wp2_with fail
      rw [← hwb]
      refine (HSZ1.out _).mono ?_
      rintro e wy ⟨rfl, hb⟩
      have hby := (hb.block _ (by omega)).trans HBX2wb.out
      have fy0 := Joins.cell_of_block hby 0
      have fy1 := Joins.cell_of_block hby 1
      have fy2 := Joins.cell_of_block hby 2
      simp only [List.getElem?_toArray, List.getElem?_cons_zero, List.getElem?_cons_succ] at fy0 fy1 fy2
      have HYB := Lib.hid (HWB.out.trans (hb.mono (by omega)))
      have hyz := hb.size
      clear hb hby
      have hng1 : ¬ (1048576 - (L.length : Int) - (S.length : Int) < 0) := by omega
      go_wp2_with fail
      refine (HNO.out _).mono ?_
      rintro e wz ⟨rfl, hb⟩
      have HZB := Lib.hid (HYB.out.trans (hb.mono (by omega)))
      clear hb
      go_wp2_with fail
      go_ret
      exact ⟨rfl, HZB.out⟩
  · have HNO := Lib.hid fun w => szA_no L.length S.length h41 h51 a1 b1 c1 d1 F (1048576) (by omega) (by omega) (by omega) w
    go_enter Try.func8, Try.ntmps8
    go_wp2_with fail
    rw [← hwb]
    refine (HNO.out _).mono ?_
    rintro e wz ⟨rfl, hb⟩
    have HZB := Lib.hid (HWB.out.trans (hb.mono (by omega)))
    clear hb
    go_wp2_with fail
    go_ret
    exact ⟨rfl, HZB.out⟩

end LFnExactFirstDifferent

namespace LFnExactFirstDifferent
set_option maxRecDepth 100000 in
theorem lifted (os : Os) (started : os.Started) (H : Type) (enc : TypeId × Value → H) :
    ReturnsInHanded {} Try.checked os 8 .any (Rows.fnExactFirstDifferentSpec.pre6 enc Try.prog Try.f8 Rows.fnExactFirstDifferentRow.domain false) (Rows.fnExactFirstDifferentSpec.post enc Try.prog Try.f8 false true false false) := by
  refine returnsInHanded_of_change (C := Try.checked) own started (by kernel_rfl) Try.func8
    (ChangeSpec.witness6 (enc := enc) (C := Try.checked) false ⟨#[], #[.agg #[.slice none 0 0, .int .i64 0, .slice none 0 0], .agg #[.slice none 0 0, .int .i64 0, .slice none 0 0]], []⟩ 8 (by kernel_rfl) (by kernel_rfl) (by kernel_rfl) (by kernel_rfl)) ?_
  intro W base args ds gs before hval0 hW _ _
  have hval : ∀ (j : Nat) t v, Try.f8.params[j]? = some t → args[j]? = some v → Value.okWide Try.prog W .any base t v := hval0
  have hW' := hW
  obtain ⟨p, q, hA0, hV, rfl, hfz, hnd⟩ := hW
  have hA : DataW.TrodAll enc Try.prog W 0 (fun _ => true) true Try.f8.params.toList args.toList ds p := hA0
  rw [Try.params8] at hA hval
  obtain ⟨v0, vs0, d0, ds0, p0, q0, hargs, rfl, rfl, h0, r0⟩ := trodAll_cons hA
  obtain ⟨v1, vs1, d1, ds1, p1, q1, rfl, rfl, rfl, h1, r1⟩ := trodAll_cons r0
  obtain ⟨rfl, rfl, rfl⟩ := trodAll_nil r1
  obtain rfl : args = #[v0, v1] := by cases args; simp_all
  obtain ⟨rfl, rfl⟩ := trodVars_none hV
  have k0 := h0
  have lt0 : ∀ x ∈ p0, x.block < W.heap.size := by obtain ⟨m, hm⟩ := k0; exact DataW.trod_lt m _ _ _ hm
  obtain ⟨a0, L0, c0, f0, b0, s0, e0, rfl, w0, x0, y0⟩ := open_acc (hval 0 25 v0 rfl rfl) h0
  have k1 := h1
  have lt1 : ∀ x ∈ p1, x.block < W.heap.size := by obtain ⟨m, hm⟩ := k1; exact DataW.trod_lt m _ _ _ hm
  obtain ⟨a1, L1, c1, f1, b1, s1, e1, rfl, w1, x1, y1⟩ := open_acc (hval 1 25 v1 rfl rfl) h1
  clear hA0 hval0
  refine (ex_any W a0 L0 c0 f0 b0 s0 e0 w0 x0 y0 a1 L1 c1 f1 b1 s1 e1 w1 x1 y1).mono fun e W' ⟨he, bel⟩ => ?_
  subst he
  exact ⟨_, rfl, _, _, _, [], _, [], hW', trodAll_mk1 (shut_bool Try.underlying4 _), (trodAll_cons_mk (Below.trod laidOut (by kernel_rfl) (of_decide_eq_true (by kernel_rfl)) k0 bel lt0) (trodAll_cons_mk (Below.trod laidOut (by kernel_rfl) (of_decide_eq_true (by kernel_rfl)) k1 bel lt1) trodAll_mk0)), rfl, bel.frame _, fun h => by cases h⟩
theorem joined : joinedFacts Try.pinned.checked.prog 8 Try.f8 Rows.fnExactFirstDifferentSpec Rows.fnExactFirstDifferentRow = true := by
  unfold joinedFacts
  simp only [Bool.and_eq_true]
  repeat' apply And.intro
  iterate 25 kernel_rfl
  exact mk_enter
  exact mk_lifts
  exact mk_make
  iterate 4 kernel_rfl
theorem over : Rows.fnExactFirstDifferentRow.holds Try.pinned (OpenSpec.ofChange Rows.fnExactFirstDifferentSpec) :=
  OpenClaim.holds_of_wide 8 Try.f8 rfl rfl rfl rfl rfl rfl rfl ⟨rfl, rfl, rfl, rfl, rfl⟩ rfl rfl rfl rfl rfl (by kernel_rfl) Try.func8 joined
    (of_decide_eq_true (by kernel_rfl)) (by unfold Func.isWrapper; rw [if_neg (of_decide_eq_false (by kernel_rfl))]; exact ⟨rfl, rfl⟩)
    (fun os started H enc _ => lifted os started H enc)
/-- The statement of FnExactFirstDifferent. -/
theorem proved : Rows.FnExactFirstDifferentSaid := over
#print axioms proved
end LFnExactFirstDifferent

end Go.Proofs.Ytiakoplfknkhmaa
