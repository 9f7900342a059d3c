/- The law FnExactNewDesk is true: impl.NewDesk and spec.NewDesk give the same desk, in memory of its own, and a change of the one leaves a later one as it is. No conditions. -/
import Derived.Test.YtpkapgidpgmdoaaMk
import Derived.Test.YtpkapgidpgmdoaaDsk
namespace Go.Proofs.Ytpkapgidpgmdoaa
open Go.ChangeShapes Go.WideShapes Go.ChangeAt Go.RowKit
namespace LFnExactNewDesk

set_option maxRecDepth 100000 in
set_option maxHeartbeats 8000000 in
theorem ex_any (w : World) : Calls Try.prog 17 #[] w fun e w' => e = .returned (.bool true) ∧ Below w.heap.size w w' := by
  have HS := Lib.hid fun wx => sNew_any wx
  have HI := Lib.hid fun wx => iNew_any wx
  have HE := Lib.hid fun wx (g1 g2 : Nat) c1 c2 h1 h2 => eqDk_same nwL (by decide) (some ⟨g1, 0, none⟩) (some ⟨g2, 0, none⟩) c1 c2 2 (tOf 1 0 0 0 0) wx h1 h2
  have HM := Lib.hid fun B wx (g : Nat) c hB h => markDk_any nwL (some ⟨g, 0, none⟩) c B 1 (by decide) (by decide) 2 (tOf 1 0 0 0 0) wx hB h
  have HH := Lib.hid fun B wx (g : Nat) c h => heldDk_any 2 (by decide) (some ⟨g, 0, none⟩) c B 1 (by decide) (by decide) 2 (tOf 1 0 0 0 0) wx h
  simp only [show nwL.length = 2 from rfl] at HE HM
  simp only [show (1 : Int) + 6 * ((2 : Nat) : Int) = 13 from rfl] at HM HH
  unfold RetDk at HS HI
  simp only [show nwL.length = 2 from rfl] at HS HI
  unfold dkc at *
  go_enter Try.func17, Try.ntmps17
  go_wp2_with fail
  refine (HS.out _).mono ?_
  rintro e w1 ⟨g1, d1, rfl, hr, hb, hg1⟩
  have HR1 := Lib.hid hr
  have hz1 := hb.size
  have HB1 := Lib.hid hb
  clear hb hr
  go_wp2_with fail
  refine (HI.out _).mono ?_
  rintro e w2 ⟨g2, d2, rfl, hr, hb, hg2⟩
  have Kxw2 := Lib.hid ((hb.block w1.heap.size (by simp)).trans (halloc_at _ _ _ rfl))
  have hz2 := hb.size
  (try simp at hz2)
  have HR2 := Lib.hid hr
  have HB2 := Lib.hid hb
  clear hb hr
  obtain ⟨x0, x1, x2, x3, x4, x5, x6⟩ := blk7 Kxw2.out
  have lxw2 := (Array.getElem?_eq_some_iff.1 Kxw2.out).1
  go_wp2_with fail
  refine (HE.out _ _ _ _ _ (HR2.out.inRow.below (by (repeat' (first | (with_reducible exact Below.refl _ _) | (with_reducible refine Below.alloc ?_ ?_ _) | (with_reducible refine Below.setCell ?_ ?_ _) | (with_reducible refine Below.drew ?_) | (with_reducible refine below_drewN ?_ _) | (with_reducible refine Below.trans ?_ (Below.mono (Hid.out (by assumption)) ?_)) | omega | (simp; done) | (simp; omega))))) (HR1.out.inRow.below (by (repeat' (first | (with_reducible exact Below.refl _ _) | (with_reducible refine Below.alloc ?_ ?_ _) | (with_reducible refine Below.setCell ?_ ?_ _) | (with_reducible refine Below.drew ?_) | (with_reducible refine below_drewN ?_ _) | (with_reducible refine Below.trans ?_ (Below.mono (Hid.out (by assumption)) ?_)) | omega | (simp; done) | (simp; omega)))))).mono ?_
  rintro e w3 ⟨rfl, hb⟩
  have Kxw3 := Lib.hid ((hb.block w1.heap.size (by simp; omega)).trans ((halloc_lt _ _ _ (by omega)).trans Kxw2.out))
  have Kyw3 := Lib.hid ((hb.block w2.heap.size (by simp)).trans (halloc_at _ _ _ rfl))
  have hz3 := hb.size
  (try simp at hz3)
  have HB3 := Lib.hid hb
  clear hb x0 x1 x2 x3 x4 x5 x6
  obtain ⟨x0, x1, x2, x3, x4, x5, x6⟩ := blk7 Kxw3.out
  have lxw3 := (Array.getElem?_eq_some_iff.1 Kxw3.out).1
  obtain ⟨y0, y1, y2, y3, y4, y5, y6⟩ := blk7 Kyw3.out
  have lyw3 := (Array.getElem?_eq_some_iff.1 Kyw3.out).1
  go_wp2_with fail
  have hr2b : g2 ≠ w1.heap.size ∧ g2 < w2.heap.size := by
    rcases HR2.out.2 with h1 | ⟨k, ha, hB, hg, _⟩
    · cases h1
    · injection ha with ha
      injection ha with ha
      simp at hB
      omega
  refine (HM.out (w1.heap.size + 1) _ _ _ (by omega) ((HR2.out.mono (by simp)).below (by (repeat' (first | (with_reducible exact Below.refl _ _) | (with_reducible refine Below.alloc ?_ ?_ _) | (with_reducible refine Below.setCell ?_ ?_ _) | (with_reducible refine Below.drew ?_) | (with_reducible refine below_drewN ?_ _) | (with_reducible refine Below.trans ?_ (Below.mono (Hid.out (by assumption)) ?_)) | omega | (simp; done) | (simp; omega)))))).mono ?_
  rintro e w4 ⟨rfl, hr, hb, hbut⟩
  have Kxw4 := Lib.hid ((hbut w1.heap.size (by omega) (by intro e; injection e with e; injection e with e; omega)).trans Kxw3.out)
  have Kyw4 := Lib.hid ((hbut w2.heap.size (by omega) (by intro e; injection e with e; injection e with e; omega)).trans Kyw3.out)
  have hz4 := hb.size
  have HB4 := Lib.hid hb
  have HR4 := Lib.hid hr
  clear hb hr hbut x0 x1 x2 x3 x4 x5 x6 y0 y1 y2 y3 y4 y5 y6
  obtain ⟨x0, x1, x2, x3, x4, x5, x6⟩ := blk7 Kxw4.out
  have lxw4 := (Array.getElem?_eq_some_iff.1 Kxw4.out).1
  obtain ⟨y0, y1, y2, y3, y4, y5, y6⟩ := blk7 Kyw4.out
  have lyw4 := (Array.getElem?_eq_some_iff.1 Kyw4.out).1
  go_wp2_with fail
  refine (HH.out _ _ _ _ HR4.out).mono ?_
  rintro e w5 ⟨rfl, hb⟩
  have Kxw5 := Lib.hid ((hb.block (w1.heap.size) (by omega)).trans Kxw4.out)
  have Kyw5 := Lib.hid ((hb.block (w2.heap.size) (by omega)).trans Kyw4.out)
  have hz5 := hb.size
  have HB5 := Lib.hid hb
  clear hb x0 x1 x2 x3 x4 x5 x6 y0 y1 y2 y3 y4 y5 y6
  obtain ⟨x0, x1, x2, x3, x4, x5, x6⟩ := blk7 Kxw5.out
  have lxw5 := (Array.getElem?_eq_some_iff.1 Kxw5.out).1
  obtain ⟨y0, y1, y2, y3, y4, y5, y6⟩ := blk7 Kyw5.out
  have lyw5 := (Array.getElem?_eq_some_iff.1 Kyw5.out).1
  go_wp2_with fail
  refine (HI.out _).mono ?_
  rintro e w6 ⟨g6, d6, rfl, hr, hb, hg6⟩
  have Kxw6 := Lib.hid ((hb.block (w1.heap.size) (by omega)).trans Kxw5.out)
  have Kyw6 := Lib.hid ((hb.block (w2.heap.size) (by omega)).trans Kyw5.out)
  have hz6 := hb.size
  have HB6 := Lib.hid hb
  have HR6 := Lib.hid hr
  clear hb hr x0 x1 x2 x3 x4 x5 x6 y0 y1 y2 y3 y4 y5 y6
  obtain ⟨x0, x1, x2, x3, x4, x5, x6⟩ := blk7 Kxw6.out
  have lxw6 := (Array.getElem?_eq_some_iff.1 Kxw6.out).1
  obtain ⟨y0, y1, y2, y3, y4, y5, y6⟩ := blk7 Kyw6.out
  have lyw6 := (Array.getElem?_eq_some_iff.1 Kyw6.out).1
  go_wp2_with fail
  refine (HE.out _ _ _ _ _ (HR6.out.inRow.below (by (repeat' (first | (with_reducible exact Below.refl _ _) | (with_reducible refine Below.alloc ?_ ?_ _) | (with_reducible refine Below.setCell ?_ ?_ _) | (with_reducible refine Below.drew ?_) | (with_reducible refine below_drewN ?_ _) | (with_reducible refine Below.trans ?_ (Below.mono (Hid.out (by assumption)) ?_)) | omega | (simp; done) | (simp; omega))))) (HR1.out.inRow.below (by (repeat' (first | (with_reducible exact Below.refl _ _) | (with_reducible refine Below.alloc ?_ ?_ _) | (with_reducible refine Below.setCell ?_ ?_ _) | (with_reducible refine Below.drew ?_) | (with_reducible refine below_drewN ?_ _) | (with_reducible refine Below.trans ?_ (Below.mono (Hid.out (by assumption)) ?_)) | omega | (simp; done) | (simp; omega)))))).mono ?_
  rintro e w7 ⟨rfl, hb⟩
  have Kxw7 := Lib.hid ((hb.block (w1.heap.size) (by simp; omega)).trans ((halloc_lt _ _ _ (by omega)).trans Kxw6.out))
  have Kyw7 := Lib.hid ((hb.block (w2.heap.size) (by simp; omega)).trans ((halloc_lt _ _ _ (by omega)).trans Kyw6.out))
  have Kzw7 := Lib.hid ((hb.block (w6.heap.size) (by simp)).trans (halloc_at _ _ _ rfl))
  have hz7 := hb.size
  (try simp at hz7)
  have HB7 := Lib.hid hb
  clear hb x0 x1 x2 x3 x4 x5 x6 y0 y1 y2 y3 y4 y5 y6
  obtain ⟨x0, x1, x2, x3, x4, x5, x6⟩ := blk7 Kxw7.out
  have lxw7 := (Array.getElem?_eq_some_iff.1 Kxw7.out).1
  obtain ⟨y0, y1, y2, y3, y4, y5, y6⟩ := blk7 Kyw7.out
  have lyw7 := (Array.getElem?_eq_some_iff.1 Kyw7.out).1
  obtain ⟨z0, z1, z2, z3, z4, z5, z6⟩ := blk7 Kzw7.out
  have lzw7 := (Array.getElem?_eq_some_iff.1 Kzw7.out).1
  go_wp2_with fail
  refine (HH.out _ _ _ _ (HR4.out.below (by (repeat' (first | (with_reducible exact Below.refl _ _) | (with_reducible refine Below.alloc ?_ ?_ _) | (with_reducible refine Below.setCell ?_ ?_ _) | (with_reducible refine Below.drew ?_) | (with_reducible refine below_drewN ?_ _) | (with_reducible refine Below.trans ?_ (Below.mono (Hid.out (by assumption)) ?_)) | omega | (simp; done) | (simp; omega)))))).mono ?_
  rintro e w8 ⟨rfl, hb⟩
  have HB8 := Lib.hid hb
  clear hb
  go_wp2_with fail
  go_ret
  refine ⟨rfl, ?_⟩
  (repeat' (first | (with_reducible exact Below.refl _ _) | (with_reducible refine Below.alloc ?_ ?_ _) | (with_reducible refine Below.setCell ?_ ?_ _) | (with_reducible refine Below.drew ?_) | (with_reducible refine below_drewN ?_ _) | (with_reducible refine Below.trans ?_ (Below.mono (Hid.out (by assumption)) ?_)) | omega | (simp; done) | (simp; omega)))
end LFnExactNewDesk

namespace LFnExactNewDesk
set_option maxRecDepth 100000 in
theorem lifted (os : Os) (started : os.Started) (H : Type) (enc : TypeId × Value → H) :
    ReturnsInHanded {} Try.checked os 17 .any (Rows.fnExactNewDeskSpec.pre6 enc Try.prog Try.f17 Rows.fnExactNewDeskRow.domain false) (Rows.fnExactNewDeskSpec.post enc Try.prog Try.f17 false true false false) := by
  refine returnsInHanded_of_change (C := Try.checked) own started (by kernel_rfl) Try.func17
    (ChangeSpec.witness6 (enc := enc) (C := Try.checked) false ⟨#[], #[], []⟩ 8 (by kernel_rfl) (by kernel_rfl) (by kernel_rfl) (by kernel_rfl)) ?_
  intro W base args ds gs before hval0 hW _ _
  have hval : ∀ (j : Nat) t v, Try.f17.params[j]? = some t → args[j]? = some v → Value.okWide Try.prog W .any base t v := hval0
  have hW' := hW
  obtain ⟨p, q, hA0, hV, rfl, hfz, hnd⟩ := hW
  have hA : DataW.TrodAll enc Try.prog W 0 (fun _ => true) true Try.f17.params.toList args.toList ds p := hA0
  rw [Try.params17] at hA hval
  obtain ⟨hargs, rfl, rfl⟩ := trodAll_nil hA
  obtain rfl : args = #[] := by cases args; simp_all
  obtain ⟨rfl, rfl⟩ := trodVars_none hV
  clear hA0 hval0
  refine (ex_any  W).mono fun e W' ⟨he, bel⟩ => ?_
  subst he
  exact ⟨_, rfl, _, _, _, [], _, [], hW', trodAll_mk1 (shut_bool Try.underlying4 _), trodAll_mk0, rfl, bel.frame _, fun h => by cases h⟩
theorem joined : joinedFacts Try.pinned.checked.prog 17 Try.f17 Rows.fnExactNewDeskSpec Rows.fnExactNewDeskRow = true := by
  unfold joinedFacts
  simp only [Bool.and_eq_true]
  repeat' apply And.intro
  iterate 25 kernel_rfl
  exact mk_enter
  exact mk_lifts
  exact mk_make
  iterate 4 kernel_rfl
theorem over : Rows.fnExactNewDeskRow.holds Try.pinned (OpenSpec.ofChange Rows.fnExactNewDeskSpec) :=
  OpenClaim.holds_of_wide 17 Try.f17 rfl rfl rfl rfl rfl rfl rfl ⟨rfl, rfl, rfl, rfl, rfl⟩ rfl rfl rfl rfl rfl (by kernel_rfl) Try.func17 joined
    (of_decide_eq_true (by kernel_rfl)) (by unfold Func.isWrapper; rw [if_neg (of_decide_eq_false (by kernel_rfl))]; exact ⟨rfl, rfl⟩)
    (fun os started H enc _ => lifted os started H enc)
/-- The statement of FnExactNewDesk. -/
theorem proved : Rows.FnExactNewDeskSaid := over
#print axioms proved
end LFnExactNewDesk

end Go.Proofs.Ytpkapgidpgmdoaa
