/- The law FnExactCycleType is true at every input: impl.CycleType and spec.CycleType give the same lengths and the same code, in memory of its own. No conditions. -/
import Derived.Test.YtpphihjbgikjkaaMk
import Derived.Test.YtpphihjbgikjkaaScy
import Derived.Test.YtpphihjbgikjkaaSri
import Derived.Test.YtpphihjbgikjkaaRow
namespace Go.Proofs.Ytpphihjbgikjkaa
open Go.ChangeShapes Go.WideShapes Go.ChangeAt Go.RowKit
namespace LFnExactCycleType

set_option maxRecDepth 100000 in
set_option maxHeartbeats 2000000 in
theorem ex_any (p : Int) (t : Nat → Int) (_ : (Lit.int .i64 p).wf = true) (_ : ∀ i, i < 5 → (Lit.int .i64 (t i)).wf = true) (w : World) :
    Calls Try.prog 3 #[mv p t] w fun e w' => e = .returned (.bool true) ∧ Below w.heap.size w w' := by
  have HS := Lib.hid fun w => sCyt_any p t w
  have HI := Lib.hid fun w => iCyt_any p t w
  generalize cytR p t = L at *
  generalize ipC p t = C at *
  simp only [mv, mcells]
  go_enter Try.func3, Try.ntmps3
  go_wp2_with fail
  refine (toMap_any p t _).mono ?_
  rintro e wa ⟨rfl, hb⟩
  obtain ⟨hc, hf⟩ := bcell hb
  have hzwa := hb.size
  have HBwa := Lib.hid hb
  (try simp at hzwa hc hf)
  have hlwa : w.heap.size < wa.heap.size := (by omega)
  clear hb hf
  simp only [mv, mcells]
  go_wp2_with fail
  refine (HS.out _).mono ?_
  rintro e wb ⟨awb, cwb, rfl, hr, hb⟩
  obtain ⟨hc, hf⟩ := bcell hb
  have hzwb := hb.size
  have HBwb := Lib.hid hb
  (try simp at hzwb hc hf)
  have hlwb : w.heap.size < wb.heap.size := (by omega)
  have Rwb := Lib.hid hr
  clear hb hf hr
  go_wp2_with fail
  refine (toMap_any p t _).mono ?_
  rintro e wc ⟨rfl, hb⟩
  obtain ⟨hc, hf⟩ := bcell hb
  have hzwc := hb.size
  have HBwc := Lib.hid hb
  (try simp at hzwc hc hf)
  have hlwc : w.heap.size < wc.heap.size := (by omega)
  clear hb hf
  simp only [mv, mcells]
  go_wp2_with fail
  refine (HI.out _).mono ?_
  rintro e wd ⟨awd, cwd, rfl, hr, hb⟩
  obtain ⟨hc, hf⟩ := bcell hb
  have hzwd := hb.size
  have HBwd := Lib.hid hb
  (try simp at hzwd hc hf)
  have hlwd : w.heap.size < wd.heap.size := (by omega)
  have Rwd := Lib.hid hr
  clear hb hf hr
  have R1 : Rd wd wa.heap.size awb L := Rwb.out.below (by (repeat' (first | (with_reducible exact Below.refl _ _) | (with_reducible refine Below.alloc ?_ ?_ _) | (with_reducible refine Below.setCell ?_ ?_ _) | (with_reducible refine Below.drew ?_) | (with_reducible refine below_drewN ?_ _) | (with_reducible refine Below.trans ?_ (Below.mono (Hid.out (by assumption)) ?_)) | omega | (simp; done) | (simp; omega))))
  have hlen : L.length ≤ 2000000 := R1.1
  have R1 := Lib.hid R1
  go_wp2_with fail
  refine (eqS_same L awd awb cwd cwb _ _ _ Rwd.out R1.out).mono ?_
  rintro e we ⟨rfl, hb⟩
  obtain ⟨hc, hf⟩ := bcell hb
  have hzwe := hb.size
  have HBwe := Lib.hid hb
  (try simp at hzwe hc hf)
  have hlwe : w.heap.size < we.heap.size := (by omega)
  clear hb hf
  have R2 : Hid (Rd we wc.heap.size awd L) := Lib.hid (Rwd.out.below (by (repeat' (first | (with_reducible exact Below.refl _ _) | (with_reducible refine Below.alloc ?_ ?_ _) | (with_reducible refine Below.setCell ?_ ?_ _) | (with_reducible refine Below.drew ?_) | (with_reducible refine below_drewN ?_ _) | (with_reducible refine Below.trans ?_ (Below.mono (Hid.out (by assumption)) ?_)) | omega | (simp; done) | (simp; omega)))))
  go_wp2_with fail
  refine (markS_any L awd cwd _ 1 (by decide) (by decide) _ R2.out).mono ?_
  rintro e wf ⟨rfl, hr, hbut, hb⟩
  obtain ⟨hc, hf⟩ := bcell hb
  have hzwf := hb.size
  have HBwf := Lib.hid hb
  (try simp at hzwf hc hf)
  have hlwf : w.heap.size < wf.heap.size := (by omega)
  have Rwf := Lib.hid hr
  have BTwf := Lib.hid hbut
  clear hb hf hr hbut
  go_wp2_with fail
  refine (heldS_any L.length awd cwd _ 1 (by decide) (by decide) _ Rwf.out).mono ?_
  rintro e wg ⟨rfl, hb⟩
  obtain ⟨hc, hf⟩ := bcell hb
  have hzwg := hb.size
  have HBwg := Lib.hid hb
  (try simp at hzwg hc hf)
  have hlwg : w.heap.size < wg.heap.size := (by omega)
  clear hb hf
  have hq : (1 + (L.length : Int) < 0) = False := by simp; omega
  go_wp2_with fail
  refine (toMap_any p t _).mono ?_
  rintro e wh ⟨rfl, hb⟩
  obtain ⟨hc, hf⟩ := bcell hb
  have hzwh := hb.size
  have HBwh := Lib.hid hb
  (try simp at hzwh hc hf)
  have hlwh : w.heap.size < wh.heap.size := (by omega)
  clear hb hf
  simp only [mv, mcells]
  go_wp2_with fail
  refine (HI.out _).mono ?_
  rintro e wi ⟨awi, cwi, rfl, hr, hb⟩
  obtain ⟨hc, hf⟩ := bcell hb
  have hzwi := hb.size
  have HBwi := Lib.hid hb
  (try simp at hzwi hc hf)
  have hlwi : w.heap.size < wi.heap.size := (by omega)
  have Rwi := Lib.hid hr
  clear hb hf hr
  have R3 : Hid (Rd wi wa.heap.size awb L) := Lib.hid (Rwb.out.below (by (repeat' (first | (with_reducible exact Below.refl _ _) | (with_reducible refine Below.alloc ?_ ?_ _) | (with_reducible refine Below.setCell ?_ ?_ _) | (with_reducible refine Below.drew ?_) | (with_reducible refine below_drewN ?_ _) | (with_reducible refine Below.trans ?_ (Below.mono (Hid.out (by assumption)) ?_)) | omega | (simp; done) | (simp; omega)))))
  go_wp2_with fail
  refine (eqS_same L awi awb cwi cwb _ _ _ Rwi.out R3.out).mono ?_
  rintro e wj ⟨rfl, hb⟩
  obtain ⟨hc, hf⟩ := bcell hb
  have hzwj := hb.size
  have HBwj := Lib.hid hb
  (try simp at hzwj hc hf)
  have hlwj : w.heap.size < wj.heap.size := (by omega)
  clear hb hf
  have R4 : Hid (Rd wj wc.heap.size awd (mk L.length 1)) := Lib.hid (Rwf.out.below (by (repeat' (first | (with_reducible exact Below.refl _ _) | (with_reducible refine Below.alloc ?_ ?_ _) | (with_reducible refine Below.setCell ?_ ?_ _) | (with_reducible refine Below.drew ?_) | (with_reducible refine below_drewN ?_ _) | (with_reducible refine Below.trans ?_ (Below.mono (Hid.out (by assumption)) ?_)) | omega | (simp; done) | (simp; omega)))))
  go_wp2_with fail
  refine (heldS_any L.length awd cwd _ 1 (by decide) (by decide) _ R4.out).mono ?_
  rintro e wk ⟨rfl, hb⟩
  obtain ⟨hc, hf⟩ := bcell hb
  have hzwk := hb.size
  have HBwk := Lib.hid hb
  (try simp at hzwk hc hf)
  have hlwk : w.heap.size < wk.heap.size := (by omega)
  clear hb hf
  go_wp2_with fail
  go_ret
  refine ⟨rfl, ?_⟩
  (repeat' (first | (with_reducible exact Below.refl _ _) | (with_reducible refine Below.alloc ?_ ?_ _) | (with_reducible refine Below.setCell ?_ ?_ _) | (with_reducible refine Below.drew ?_) | (with_reducible refine below_drewN ?_ _) | (with_reducible refine Below.trans ?_ (Below.mono (Hid.out (by assumption)) ?_)) | omega | (simp; done) | (simp; omega)))

end LFnExactCycleType

namespace LFnExactCycleType
set_option maxRecDepth 100000 in
theorem lifted (os : Os) (started : os.Started) (H : Type) (enc : TypeId × Value → H) :
    ReturnsInHanded {} Try.checked os 3 .any (Rows.fnExactCycleTypeSpec.pre6 enc Try.prog Try.f3 Rows.fnExactCycleTypeRow.domain false) (Rows.fnExactCycleTypeSpec.post enc Try.prog Try.f3 false true false false) := by
  refine returnsInHanded_of_change (C := Try.checked) own started (by kernel_rfl) Try.func3
    (ChangeSpec.witness6 (enc := enc) (C := Try.checked) false ⟨#[], #[.agg #[.int .i64 0, .int .i64 0, .int .i64 0, .int .i64 0, .int .i64 0, .int .i64 0]], []⟩ 8 (by kernel_rfl) (by kernel_rfl) (by kernel_rfl) (by kernel_rfl)) ?_
  intro W base args ds gs before hval0 hW _ _
  have hval : ∀ (j : Nat) t v, Try.f3.params[j]? = some t → args[j]? = some v → Value.okWide Try.prog W .any base t v := hval0
  have hW' := hW
  obtain ⟨p, q, hA0, hV, rfl, hfz, hnd⟩ := hW
  have hA : DataW.TrodAll enc Try.prog W 0 (fun _ => true) true Try.f3.params.toList args.toList ds p := hA0
  rw [Try.params3] at hA hval
  obtain ⟨v0, vs0, d0, ds0, p0, q0, hargs, rfl, rfl, h0, r0⟩ := trodAll_cons hA
  obtain ⟨rfl, rfl, rfl⟩ := trodAll_nil r0
  obtain rfl : args = #[v0] := by cases args; simp_all
  obtain ⟨rfl, rfl⟩ := trodVars_none hV
  have k0 := h0
  have lt0 : ∀ x ∈ p0, x.block < W.heap.size := by obtain ⟨m, hm⟩ := k0; exact DataW.trod_lt m _ _ _ hm
  obtain ⟨a0, t0, rfl, wa0, wt0⟩ := open_lmap (hval 0 24 v0 rfl rfl) h0
  clear hA0 hval0
  refine (ex_any a0 t0 wa0 wt0 W).mono fun e W' ⟨he, bel⟩ => ?_
  subst he
  exact ⟨_, rfl, _, _, _, [], _, [], hW', trodAll_mk1 (shut_bool Try.underlying4 _), (trodAll_cons_mk (Below.trod laidOut (by kernel_rfl) (of_decide_eq_true (by kernel_rfl)) k0 bel lt0) trodAll_mk0), rfl, bel.frame _, fun h => by cases h⟩
theorem joined : joinedFacts Try.pinned.checked.prog 3 Try.f3 Rows.fnExactCycleTypeSpec Rows.fnExactCycleTypeRow = true := by
  unfold joinedFacts
  simp only [Bool.and_eq_true]
  repeat' apply And.intro
  iterate 25 kernel_rfl
  exact mk_enter
  exact mk_lifts
  exact mk_make
  iterate 4 kernel_rfl
theorem over : Rows.fnExactCycleTypeRow.holds Try.pinned (OpenSpec.ofChange Rows.fnExactCycleTypeSpec) :=
  OpenClaim.holds_of_wide 3 Try.f3 rfl rfl rfl rfl rfl rfl rfl ⟨rfl, rfl, rfl, rfl, rfl⟩ rfl rfl rfl rfl rfl (by kernel_rfl) Try.func3 joined
    (of_decide_eq_true (by kernel_rfl)) (by unfold Func.isWrapper; rw [if_neg (of_decide_eq_false (by kernel_rfl))]; exact ⟨rfl, rfl⟩)
    (fun os started H enc _ => lifted os started H enc)
/-- The statement of FnExactCycleType. -/
theorem proved : Rows.FnExactCycleTypeSaid := over
#print axioms proved
end LFnExactCycleType

end Go.Proofs.Ytpphihjbgikjkaa
