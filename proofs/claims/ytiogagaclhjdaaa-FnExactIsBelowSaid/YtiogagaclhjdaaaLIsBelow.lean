/- The law FnExactIsBelow is true at every input: impl.IsBelow and spec.IsBelow give the same answer and the same code, and the list that came in stays as it was. No conditions. -/
import Derived.Test.YtiogagaclhjdaaaMk
import Derived.Test.YtiogagaclhjdaaaBase
import Derived.Test.YtiogagaclhjdaaaIsb
import Derived.Test.YtiogagaclhjdaaaRowM
import Derived.Test.YtiogagaclhjdaaaMark
namespace Go.Proofs.Ytiogagaclhjdaaa
open Go.ChangeShapes Go.WideShapes Go.ChangeAt Go.RowKit
namespace LFnExactIsBelow

set_option maxRecDepth 100000 in
set_option maxHeartbeats 4000000 in
theorem ex_any (w : World) (a1 : Option Addr) (len1 cap1 : Nat) (L : List MapN) (hw1 : L.length = len1 ∧ InRowM w a1 L ∧ (a1 = none → cap1 = 0) ∧ len1 ≤ maxLen) (q : Int) (s : Nat → Int) (_ : (Lit.int .i64 q).wf = true) (_ : ∀ i, i < 5 → (Lit.int .i64 (s i)).wf = true) (r : Int) (t : Nat → Int) (_ : (Lit.int .i64 r).wf = true) (_ : ∀ i, i < 5 → (Lit.int .i64 (t i)).wf = true) :
    Calls Try.prog 8 #[.slice a1 len1 cap1, mv q s, mv r t] w fun e w' => e = .returned (.bool true) ∧ Below w.heap.size w w' := by
  obtain ⟨rfl, h1, _, h9⟩ := hw1
  have HM := Lib.hid h1
  have H9 := Lib.hid h9
  clear h1 h9
  by_cases hL : L.length ≤ 1048576
  · have hng : ¬ ((1048576 : Int) - (L.length : Int) < 0) := by omega
    have hq0 : (1 + 6 * (L.length : Int) < 0) = False := by simp; omega
    obtain ⟨P, C, hV⟩ : ∃ P C, isbV L q s r t = .tuple #[.bool P, .int .i64 C] := ⟨_, _, rfl⟩
    have HS := fun w (g1 : Nat) h1 => sisb_any (some ⟨g1, 0, none⟩) L.length L q s r t hL w h1
    have HI := fun w (g1 : Nat) h1 => iisb_any (some ⟨g1, 0, none⟩) L.length L q s r t (fun e => by cases e) hL w h1
    rw [hV] at HS HI
    clear hV
    have HS := Lib.hid HS
    have HI := Lib.hid HI
    (try simp only [mv, mcells] at HS HI)
    (try simp only [mv, mcells])
    go_enter Try.func8, Try.ntmps8
    go_wp2_with (go_at_call 15; (with_reducible refine (sz_any L.length a1 cap1 hL _).mono ?_); rintro e w ⟨rfl, rfl⟩)
    obtain ⟨wg, hwg⟩ : ∃ wg, wg = (w.alloc (.cells (mcells q s) 25)).alloc (.cells (mcells r t) 25) := ⟨_, rfl⟩
    have hgs : wg.heap.size = w.heap.size + 1 + 1 := by rw [hwg]; simp
    have HBX0 : w.heap.size < wg.heap.size := by omega
    have HBX1 : w.heap.size + 1 < wg.heap.size := by omega
    have hgs1 : wg.heap.size ≤ w.heap.size + 1 + 1 := by omega
    clear hgs
    have HBXwg : Hid (wg.heap[w.heap.size]? = some (.cells (mcells q s) 25 (0, 0))) := Lib.hid (by rw [hwg]; exact (halloc_lt _ _ _ (by simp)).trans (halloc_at _ _ _ rfl))
    have HBYwg : Hid (wg.heap[w.heap.size + 1]? = some (.cells (mcells r t) 25 (0, 0))) := Lib.hid (by rw [hwg]; exact halloc_at _ _ _ (by simp))
    have HWG : Hid (Below w.heap.size w wg) := Lib.hid (by rw [hwg]; exact ((Below.refl _ _).alloc (Nat.le_refl _) _).alloc (by simp) _)
    have HMwg := Lib.hid (HM.out.below HWG.out)
    try rw [← hwg]
    clear hwg
    have rb0 : ∀ z, Below wg.heap.size wg z → z.cell? ⟨w.heap.size, 0, none⟩ = some (.int .i64 q) := fun z h => by have := Joins.cell_of_block ((h.block (w.heap.size) (by omega)).trans HBXwg.out) 0; simpa using this
    have rb1 : ∀ z, Below wg.heap.size wg z → z.cell? ⟨w.heap.size, 1, none⟩ = some (.int .i64 (s 0)) := fun z h => by have := Joins.cell_of_block ((h.block (w.heap.size) (by omega)).trans HBXwg.out) 1; simpa using this
    have rb2 : ∀ z, Below wg.heap.size wg z → z.cell? ⟨w.heap.size, 2, none⟩ = some (.int .i64 (s 1)) := fun z h => by have := Joins.cell_of_block ((h.block (w.heap.size) (by omega)).trans HBXwg.out) 2; simpa using this
    have rb3 : ∀ z, Below wg.heap.size wg z → z.cell? ⟨w.heap.size, 3, none⟩ = some (.int .i64 (s 2)) := fun z h => by have := Joins.cell_of_block ((h.block (w.heap.size) (by omega)).trans HBXwg.out) 3; simpa using this
    have rb4 : ∀ z, Below wg.heap.size wg z → z.cell? ⟨w.heap.size, 4, none⟩ = some (.int .i64 (s 3)) := fun z h => by have := Joins.cell_of_block ((h.block (w.heap.size) (by omega)).trans HBXwg.out) 4; simpa using this
    have rb5 : ∀ z, Below wg.heap.size wg z → z.cell? ⟨w.heap.size, 5, none⟩ = some (.int .i64 (s 4)) := fun z h => by have := Joins.cell_of_block ((h.block (w.heap.size) (by omega)).trans HBXwg.out) 5; simpa using this
    have sb0 : ∀ z, Below wg.heap.size wg z → z.cell? ⟨w.heap.size + 1, 0, none⟩ = some (.int .i64 r) := fun z h => by have := Joins.cell_of_block ((h.block (w.heap.size + 1) (by omega)).trans HBYwg.out) 0; simpa using this
    have sb1 : ∀ z, Below wg.heap.size wg z → z.cell? ⟨w.heap.size + 1, 1, none⟩ = some (.int .i64 (t 0)) := fun z h => by have := Joins.cell_of_block ((h.block (w.heap.size + 1) (by omega)).trans HBYwg.out) 1; simpa using this
    have sb2 : ∀ z, Below wg.heap.size wg z → z.cell? ⟨w.heap.size + 1, 2, none⟩ = some (.int .i64 (t 1)) := fun z h => by have := Joins.cell_of_block ((h.block (w.heap.size + 1) (by omega)).trans HBYwg.out) 2; simpa using this
    have sb3 : ∀ z, Below wg.heap.size wg z → z.cell? ⟨w.heap.size + 1, 3, none⟩ = some (.int .i64 (t 2)) := fun z h => by have := Joins.cell_of_block ((h.block (w.heap.size + 1) (by omega)).trans HBYwg.out) 3; simpa using this
    have sb4 : ∀ z, Below wg.heap.size wg z → z.cell? ⟨w.heap.size + 1, 4, none⟩ = some (.int .i64 (t 3)) := fun z h => by have := Joins.cell_of_block ((h.block (w.heap.size + 1) (by omega)).trans HBYwg.out) 4; simpa using this
    have sb5 : ∀ z, Below wg.heap.size wg z → z.cell? ⟨w.heap.size + 1, 5, none⟩ = some (.int .i64 (t 4)) := fun z h => by have := Joins.cell_of_block ((h.block (w.heap.size + 1) (by omega)).trans HBYwg.out) 5; simpa using this
    go_cut [8, 9] from 18 to 27 (fun s1 s2 wx => s1 = (.bool P) ∧ s2 = .int .i64 C ∧ Below wg.heap.size wg wx)
    case first =>
      go_region_held3 (fun w' => Below wg.heap.size wg w') (first | (with_reducible assumption) | ((repeat' (first | (with_reducible exact Below.refl _ _) | (with_reducible refine Below.alloc ?_ ?_ _) | (with_reducible refine Below.setCell ?_ ?_ _) | (with_reducible refine Below.drew ?_) | (with_reducible refine below_drewN ?_ _) | (with_reducible refine Below.trans ?_ (Below.mono (Hid.out (by assumption)) ?_)) | omega | (simp; done) | (simp; omega))); done)) (first | (go_at_call 17; (with_reducible refine (toMS_any L hL a1 cap1 _ (HMwg.out.below (by (repeat' (first | (with_reducible exact Below.refl _ _) | (with_reducible refine Below.alloc ?_ ?_ _) | (with_reducible refine Below.setCell ?_ ?_ _) | (with_reducible refine Below.drew ?_) | (with_reducible refine below_drewN ?_ _) | (with_reducible refine Below.trans ?_ (Below.mono (Hid.out (by assumption)) ?_)) | omega | (simp; done) | (simp; omega)))))).mono ?_); rintro e wA ⟨_, rfl, hr, hb, rfl, hgA⟩; obtain ⟨hc, hf⟩ := bcell hb; have hzA := hb.size; have HbA := Lib.hid hb; (try simp at hzA hc hf); (try simp only [hdrew] at hr); have HRA := Lib.hid hr; have hlA : wg.heap.size ≤ wA.heap.size := (by omega); clear hb hr hf) | (go_at_call 18; (with_reducible refine (toMap_any q s _).mono ?_); rintro e wB1 ⟨rfl, hb⟩; (try simp only [mv, mcells]); obtain ⟨hc, hf⟩ := bcell hb; have hzB1 := hb.size; have HbB1 := Lib.hid hb; (try simp at hzB1 hc hf); have hlB1 : wg.heap.size ≤ wB1.heap.size := (by omega); clear hb hf) | (go_at_call 18; (with_reducible refine (toMap_any r t _).mono ?_); rintro e wB2 ⟨rfl, hb⟩; (try simp only [mv, mcells]); obtain ⟨hc, hf⟩ := bcell hb; have hzB2 := hb.size; have HbB2 := Lib.hid hb; (try simp at hzB2 hc hf); have hlB2 : wg.heap.size ≤ wB2.heap.size := (by omega); clear hb hf) | (go_at_call 31; (with_reducible refine (HS.out _ _ (HRA.out.below (by (repeat' (first | (with_reducible exact Below.refl _ _) | (with_reducible refine Below.alloc ?_ ?_ _) | (with_reducible refine Below.setCell ?_ ?_ _) | (with_reducible refine Below.drew ?_) | (with_reducible refine below_drewN ?_ _) | (with_reducible refine Below.trans ?_ (Below.mono (Hid.out (by assumption)) ?_)) | omega | (simp; done) | (simp; omega))))).inRow).mono ?_); rintro e wC ⟨rfl, hb⟩; obtain ⟨hc, hf⟩ := bcell hb; have hzC := hb.size; have HbC := Lib.hid hb; (try simp at hzC hc hf);  have hlC : wg.heap.size ≤ wC.heap.size := (by omega); clear hb hf))
      all_goals (go_wp2_with fail)
      all_goals (go_meet)
      all_goals exact ⟨rfl, rfl, by (repeat' (first | (with_reducible exact Below.refl _ _) | (with_reducible refine Below.alloc ?_ ?_ _) | (with_reducible refine Below.setCell ?_ ?_ _) | (with_reducible refine Below.drew ?_) | (with_reducible refine below_drewN ?_ _) | (with_reducible refine Below.trans ?_ (Below.mono (Hid.out (by assumption)) ?_)) | omega | (simp; done) | (simp; omega)))⟩
    case rest =>
      obtain ⟨rfl, rfl, hb⟩ := hcut
      obtain ⟨wcc, hwcc⟩ : ∃ wcc, wcc = wc := ⟨_, rfl⟩
      subst hwcc
      have HBwcc := Lib.hid hb
      have hzwcc := hb.size
      have hlwcc : w.heap.size < wcc.heap.size := (by omega)
      clear hb rb0 rb1 rb2 rb3 rb4 rb5 sb0 sb1 sb2 sb3 sb4 sb5
      go_wp2_with fail
      refine (toMS_any L hL a1 cap1 _ (HM.out.below (by (repeat' (first | (with_reducible exact Below.refl _ _) | (with_reducible refine Below.alloc ?_ ?_ _) | (with_reducible refine Below.setCell ?_ ?_ _) | (with_reducible refine Below.drew ?_) | (with_reducible refine below_drewN ?_ _) | (with_reducible refine Below.trans ?_ (Below.mono (Hid.out (by assumption)) ?_)) | omega | (simp; done) | (simp; omega)))))).mono ?_
      rintro e wd ⟨_, rfl, hr, hb, rfl, hgrwd⟩
      obtain ⟨hc, hf⟩ := bcell hb
      have hzwd := hb.size
      have HBwd := Lib.hid hb
      (try simp at hzwd hc hf)
      have hlwd : w.heap.size + 1 < wd.heap.size := (by omega)
      have hlwd0 : w.heap.size < wd.heap.size := (by omega)
      (try simp only [World.size_alloc] at hr)
      have Rwd := Lib.hid hr
      clear hb hf hr
      have HXwd := Lib.hid (bel_at (show Below wg.heap.size wg wd by (repeat' (first | (with_reducible exact Below.refl _ _) | (with_reducible refine Below.alloc ?_ ?_ _) | (with_reducible refine Below.setCell ?_ ?_ _) | (with_reducible refine Below.drew ?_) | (with_reducible refine below_drewN ?_ _) | (with_reducible refine Below.trans ?_ (Below.mono (Hid.out (by assumption)) ?_)) | omega | (simp; done) | (simp; omega)))) HBXwg.out)
      have HYwd := Lib.hid (bel_at (show Below wg.heap.size wg wd by (repeat' (first | (with_reducible exact Below.refl _ _) | (with_reducible refine Below.alloc ?_ ?_ _) | (with_reducible refine Below.setCell ?_ ?_ _) | (with_reducible refine Below.drew ?_) | (with_reducible refine below_drewN ?_ _) | (with_reducible refine Below.trans ?_ (Below.mono (Hid.out (by assumption)) ?_)) | omega | (simp; done) | (simp; omega)))) HBYwg.out)
      have rb0 : ∀ z, Below wd.heap.size wd z → z.cell? ⟨w.heap.size, 0, none⟩ = some (.int .i64 q) := fun z h => by have := Joins.cell_of_block ((h.block (w.heap.size) (by omega)).trans HXwd.out) 0; simpa using this
      have rb1 : ∀ z, Below wd.heap.size wd z → z.cell? ⟨w.heap.size, 1, none⟩ = some (.int .i64 (s 0)) := fun z h => by have := Joins.cell_of_block ((h.block (w.heap.size) (by omega)).trans HXwd.out) 1; simpa using this
      have rb2 : ∀ z, Below wd.heap.size wd z → z.cell? ⟨w.heap.size, 2, none⟩ = some (.int .i64 (s 1)) := fun z h => by have := Joins.cell_of_block ((h.block (w.heap.size) (by omega)).trans HXwd.out) 2; simpa using this
      have rb3 : ∀ z, Below wd.heap.size wd z → z.cell? ⟨w.heap.size, 3, none⟩ = some (.int .i64 (s 2)) := fun z h => by have := Joins.cell_of_block ((h.block (w.heap.size) (by omega)).trans HXwd.out) 3; simpa using this
      have rb4 : ∀ z, Below wd.heap.size wd z → z.cell? ⟨w.heap.size, 4, none⟩ = some (.int .i64 (s 3)) := fun z h => by have := Joins.cell_of_block ((h.block (w.heap.size) (by omega)).trans HXwd.out) 4; simpa using this
      have rb5 : ∀ z, Below wd.heap.size wd z → z.cell? ⟨w.heap.size, 5, none⟩ = some (.int .i64 (s 4)) := fun z h => by have := Joins.cell_of_block ((h.block (w.heap.size) (by omega)).trans HXwd.out) 5; simpa using this
      have sb0 : ∀ z, Below wd.heap.size wd z → z.cell? ⟨w.heap.size + 1, 0, none⟩ = some (.int .i64 r) := fun z h => by have := Joins.cell_of_block ((h.block (w.heap.size + 1) (by omega)).trans HYwd.out) 0; simpa using this
      have sb1 : ∀ z, Below wd.heap.size wd z → z.cell? ⟨w.heap.size + 1, 1, none⟩ = some (.int .i64 (t 0)) := fun z h => by have := Joins.cell_of_block ((h.block (w.heap.size + 1) (by omega)).trans HYwd.out) 1; simpa using this
      have sb2 : ∀ z, Below wd.heap.size wd z → z.cell? ⟨w.heap.size + 1, 2, none⟩ = some (.int .i64 (t 1)) := fun z h => by have := Joins.cell_of_block ((h.block (w.heap.size + 1) (by omega)).trans HYwd.out) 2; simpa using this
      have sb3 : ∀ z, Below wd.heap.size wd z → z.cell? ⟨w.heap.size + 1, 3, none⟩ = some (.int .i64 (t 2)) := fun z h => by have := Joins.cell_of_block ((h.block (w.heap.size + 1) (by omega)).trans HYwd.out) 3; simpa using this
      have sb4 : ∀ z, Below wd.heap.size wd z → z.cell? ⟨w.heap.size + 1, 4, none⟩ = some (.int .i64 (t 3)) := fun z h => by have := Joins.cell_of_block ((h.block (w.heap.size + 1) (by omega)).trans HYwd.out) 4; simpa using this
      have sb5 : ∀ z, Below wd.heap.size wd z → z.cell? ⟨w.heap.size + 1, 5, none⟩ = some (.int .i64 (t 4)) := fun z h => by have := Joins.cell_of_block ((h.block (w.heap.size + 1) (by omega)).trans HYwd.out) 5; simpa using this
      go_upto_region 7 with fail
      go_cut [11, 12] from 30 to 38 (fun s1 s2 wx => s1 = (.bool P) ∧ s2 = .int .i64 C ∧ Below wd.heap.size wd wx)
      case first =>
        go_region_held3 (fun w' => Below wd.heap.size wd w') (first | (with_reducible assumption) | ((repeat' (first | (with_reducible exact Below.refl _ _) | (with_reducible refine Below.alloc ?_ ?_ _) | (with_reducible refine Below.setCell ?_ ?_ _) | (with_reducible refine Below.drew ?_) | (with_reducible refine below_drewN ?_ _) | (with_reducible refine Below.trans ?_ (Below.mono (Hid.out (by assumption)) ?_)) | omega | (simp; done) | (simp; omega))); done)) (first | (go_at_call 18; (with_reducible refine (toMap_any q s _).mono ?_); rintro e wB1 ⟨rfl, hb⟩; (try simp only [mv, mcells]); obtain ⟨hc, hf⟩ := bcell hb; have hzB1 := hb.size; have HbB1 := Lib.hid hb; (try simp at hzB1 hc hf); have hlB1 : wd.heap.size ≤ wB1.heap.size := (by omega); clear hb hf) | (go_at_call 18; (with_reducible refine (toMap_any r t _).mono ?_); rintro e wB2 ⟨rfl, hb⟩; (try simp only [mv, mcells]); obtain ⟨hc, hf⟩ := bcell hb; have hzB2 := hb.size; have HbB2 := Lib.hid hb; (try simp at hzB2 hc hf); have hlB2 : wd.heap.size ≤ wB2.heap.size := (by omega); clear hb hf) | (go_at_call 32; (with_reducible refine (HI.out _ _ (Rwd.out.below (by (repeat' (first | (with_reducible exact Below.refl _ _) | (with_reducible refine Below.alloc ?_ ?_ _) | (with_reducible refine Below.setCell ?_ ?_ _) | (with_reducible refine Below.drew ?_) | (with_reducible refine below_drewN ?_ _) | (with_reducible refine Below.trans ?_ (Below.mono (Hid.out (by assumption)) ?_)) | omega | (simp; done) | (simp; omega))))).inRow).mono ?_); rintro e wC ⟨rfl, hb⟩; obtain ⟨hc, hf⟩ := bcell hb; have hzC := hb.size; have HbC := Lib.hid hb; (try simp at hzC hc hf);  have hlC : wd.heap.size ≤ wC.heap.size := (by omega); clear hb hf))
        all_goals (go_wp2_with fail)
        all_goals (go_meet)
        all_goals exact ⟨rfl, rfl, by (repeat' (first | (with_reducible exact Below.refl _ _) | (with_reducible refine Below.alloc ?_ ?_ _) | (with_reducible refine Below.setCell ?_ ?_ _) | (with_reducible refine Below.drew ?_) | (with_reducible refine below_drewN ?_ _) | (with_reducible refine Below.trans ?_ (Below.mono (Hid.out (by assumption)) ?_)) | omega | (simp; done) | (simp; omega)))⟩
      case rest =>
      obtain ⟨rfl, rfl, hb⟩ := hcut
      obtain ⟨wf, hwf⟩ : ∃ wf, wf = wc := ⟨_, rfl⟩
      subst hwf
      have HBwf := Lib.hid hb
      have hzwf := hb.size
      have hlwf : w.heap.size < wf.heap.size := (by omega)
      clear hb rb0 rb1 rb2 rb3 rb4 rb5 sb0 sb1 sb2 sb3 sb4 sb5
      go_wp2_with fail
      refine (toMS_any L hL a1 cap1 _ (HM.out.below (by (repeat' (first | (with_reducible exact Below.refl _ _) | (with_reducible refine Below.alloc ?_ ?_ _) | (with_reducible refine Below.setCell ?_ ?_ _) | (with_reducible refine Below.drew ?_) | (with_reducible refine below_drewN ?_ _) | (with_reducible refine Below.trans ?_ (Below.mono (Hid.out (by assumption)) ?_)) | omega | (simp; done) | (simp; omega)))))).mono ?_
      rintro e wh ⟨_, rfl, hr, hb, rfl, hgrwh⟩
      obtain ⟨hc, hf⟩ := bcell hb
      have hzwh := hb.size
      have HBwh := Lib.hid hb
      (try simp at hzwh hc hf)
      have hlwh : w.heap.size ≤ wh.heap.size := (by omega)
      (try simp only [World.size_alloc] at hr)
      have Rwh := Lib.hid hr
      clear hb hf hr
      have X1 : Hid (RdM wh _ _ L) := Lib.hid (Rwd.out.below (by (repeat' (first | (with_reducible exact Below.refl _ _) | (with_reducible refine Below.alloc ?_ ?_ _) | (with_reducible refine Below.setCell ?_ ?_ _) | (with_reducible refine Below.drew ?_) | (with_reducible refine below_drewN ?_ _) | (with_reducible refine Below.trans ?_ (Below.mono (Hid.out (by assumption)) ?_)) | omega | (simp; done) | (simp; omega)))))
      go_wp2_with fail
      refine (eqMS_same L _ _ L.length L.length (by omega) _ X1.out.inRow Rwh.out.inRow).mono ?_
      rintro e wi ⟨rfl, hb⟩
      obtain ⟨hc, hf⟩ := bcell hb
      have hzwi := hb.size
      have HBwi := Lib.hid hb
      (try simp at hzwi hc hf)
      have hlwi : w.heap.size < wi.heap.size := (by omega)
      clear hb hf
      go_wp2_with fail
      go_ret
      refine ⟨rfl, ?_⟩
      (repeat' (first | (with_reducible exact Below.refl _ _) | (with_reducible refine Below.alloc ?_ ?_ _) | (with_reducible refine Below.setCell ?_ ?_ _) | (with_reducible refine Below.drew ?_) | (with_reducible refine below_drewN ?_ _) | (with_reducible refine Below.trans ?_ (Below.mono (Hid.out (by assumption)) ?_)) | omega | (simp; done) | (simp; omega)))
  · have hbig : 1048576 < L.length := by omega
    simp only [mv, mcells]
    go_enter Try.func8, Try.ntmps8
    go_wp2_with (go_at_call 15; (with_reducible refine (sz_big L.length a1 cap1 hbig H9.out _).mono ?_); rintro e w ⟨rfl, rfl⟩)
    go_ret
    refine ⟨rfl, ?_⟩
    (repeat' (first | (with_reducible exact Below.refl _ _) | (with_reducible refine Below.alloc ?_ ?_ _) | (with_reducible refine Below.setCell ?_ ?_ _) | (with_reducible refine Below.drew ?_) | (with_reducible refine below_drewN ?_ _) | (with_reducible refine Below.trans ?_ (Below.mono (Hid.out (by assumption)) ?_)) | omega | (simp; done) | (simp; omega)))

end LFnExactIsBelow

namespace LFnExactIsBelow
set_option maxRecDepth 100000 in
theorem lifted (os : Os) (started : os.Started) (H : Type) (enc : TypeId × Value → H) :
    ReturnsInHanded {} Try.checked os 8 .any (Rows.fnExactIsBelowSpec.pre6 enc Try.prog Try.f8 Rows.fnExactIsBelowRow.domain false) (Rows.fnExactIsBelowSpec.post enc Try.prog Try.f8 false true false false) := by
  refine returnsInHanded_of_change (C := Try.checked) own started (by kernel_rfl) Try.func8
    (ChangeSpec.witness6 (enc := enc) (C := Try.checked) false ⟨#[], #[.slice none 0 0, .agg #[.int .i64 0, .int .i64 0, .int .i64 0, .int .i64 0, .int .i64 0, .int .i64 0], .agg #[.int .i64 0, .int .i64 0, .int .i64 0, .int .i64 0, .int .i64 0, .int .i64 0]], []⟩ 8 (by kernel_rfl) (by kernel_rfl) (by kernel_rfl) (by kernel_rfl)) ?_
  intro W base args ds gs before hval0 hW _ _
  have hval : ∀ (j : Nat) t v, Try.f8.params[j]? = some t → args[j]? = some v → Value.okWide Try.prog W .any base t v := hval0
  have hW' := hW
  obtain ⟨p, q, hA0, hV, rfl, hfz, hnd⟩ := hW
  have hA : DataW.TrodAll enc Try.prog W 0 (fun _ => true) true Try.f8.params.toList args.toList ds p := hA0
  rw [Try.params8] at hA hval
  obtain ⟨v0, vs0, d0, ds0, p0, q0, hargs, rfl, rfl, h0, r0⟩ := trodAll_cons hA
  obtain ⟨v1, vs1, d1, ds1, p1, q1, rfl, rfl, rfl, h1, r1⟩ := trodAll_cons r0
  obtain ⟨v2, vs2, d2, ds2, p2, q2, rfl, rfl, rfl, h2, r2⟩ := trodAll_cons r1
  obtain ⟨rfl, rfl, rfl⟩ := trodAll_nil r2
  obtain rfl : args = #[v0, v1, v2] := by cases args; simp_all
  obtain ⟨rfl, rfl⟩ := trodVars_none hV
  have k0 := h0
  have lt0 : ∀ x ∈ p0, x.block < W.heap.size := by obtain ⟨m, hm⟩ := k0; exact DataW.trod_lt m _ _ _ hm
  obtain ⟨a0, len0, cap0, rfl⟩ := okWide_slice Try.underlying22 (hval 0 22 v0 rfl rfl)
  obtain ⟨z0, w0⟩ := open_rowM h0
  have k1 := h1
  have lt1 : ∀ x ∈ p1, x.block < W.heap.size := by obtain ⟨m, hm⟩ := k1; exact DataW.trod_lt m _ _ _ hm
  obtain ⟨a1, t1, rfl, wa1, wt1⟩ := open_lmap (hval 1 25 v1 rfl rfl) h1
  have k2 := h2
  have lt2 : ∀ x ∈ p2, x.block < W.heap.size := by obtain ⟨m, hm⟩ := k2; exact DataW.trod_lt m _ _ _ hm
  obtain ⟨a2, t2, rfl, wa2, wt2⟩ := open_lmap (hval 2 25 v2 rfl rfl) h2
  clear hA0 hval0
  refine (ex_any W a0 len0 cap0 z0 w0 a1 t1 wa1 wt1 a2 t2 wa2 wt2).mono fun e W' ⟨he, bel⟩ => ?_
  subst he
  exact ⟨_, rfl, _, _, _, [], _, [], hW', trodAll_mk1 (shut_bool Try.underlying4 _), (trodAll_cons_mk (Below.trod laidOut (by kernel_rfl) (of_decide_eq_true (by kernel_rfl)) k0 bel lt0) (trodAll_cons_mk (Below.trod laidOut (by kernel_rfl) (of_decide_eq_true (by kernel_rfl)) k1 bel lt1) (trodAll_cons_mk (Below.trod laidOut (by kernel_rfl) (of_decide_eq_true (by kernel_rfl)) k2 bel lt2) trodAll_mk0))), rfl, bel.frame _, fun h => by cases h⟩
theorem joined : joinedFacts Try.pinned.checked.prog 8 Try.f8 Rows.fnExactIsBelowSpec Rows.fnExactIsBelowRow = true := by
  unfold joinedFacts
  simp only [Bool.and_eq_true]
  repeat' apply And.intro
  iterate 25 kernel_rfl
  exact mk_enter
  exact mk_lifts
  exact mk_make
  iterate 4 kernel_rfl
theorem over : Rows.fnExactIsBelowRow.holds Try.pinned (OpenSpec.ofChange Rows.fnExactIsBelowSpec) :=
  OpenClaim.holds_of_wide 8 Try.f8 rfl rfl rfl rfl rfl rfl rfl ⟨rfl, rfl, rfl, rfl, rfl⟩ rfl rfl rfl rfl rfl (by kernel_rfl) Try.func8 joined
    (of_decide_eq_true (by kernel_rfl)) (by unfold Func.isWrapper; rw [if_neg (of_decide_eq_false (by kernel_rfl))]; exact ⟨rfl, rfl⟩)
    (fun os started H enc _ => lifted os started H enc)
/-- The statement of FnExactIsBelow. -/
theorem proved : Rows.FnExactIsBelowSaid := over
#print axioms proved
end LFnExactIsBelow

end Go.Proofs.Ytiogagaclhjdaaa
