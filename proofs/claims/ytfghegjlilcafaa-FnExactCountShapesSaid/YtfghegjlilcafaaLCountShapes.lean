/- The law FnExactCountShapes is true at every input: impl.CountShapes and spec.CountShapes give the same number and the same code. No conditions. -/
import Derived.Test.YtfghegjlilcafaaMk
import Derived.Test.YtfghegjlilcafaaSsh
import Derived.Test.YtfghegjlilcafaaIsh
namespace Go.Proofs.Ytfghegjlilcafaa
open Go.ChangeShapes Go.WideShapes Go.ChangeAt Go.RowKit
namespace LFnExactCountShapes

set_option maxRecDepth 100000 in
set_option maxHeartbeats 2000000 in
theorem ex_any (k : Int) (_ : (Lit.int .i64 k).wf = true) (w : World) :
    Calls Try.prog 8 #[.int .i64 k] w fun e w' => e = .returned (.bool true) ∧ Below w.heap.size w w' := by
  obtain ⟨X, C, hV⟩ : ∃ X C, shV k = .tuple #[.int .i64 X, .int .i64 C] := ⟨_, _, rfl⟩
  have HS := fun w => sshp_any k w
  have HI := fun w => ishp_any k w
  rw [hV] at HS HI
  clear hV
  have HS := Lib.hid HS
  have HI := Lib.hid HI
  go_enter Try.func8, Try.ntmps8
  go_wp2_with fail
  refine (HS.out _).mono ?_
  rintro e wb ⟨rfl, hb⟩
  obtain ⟨hc, hf⟩ := bcell hb
  have hzwb := hb.size
  have HBwb := Lib.hid hb
  (try simp at hzwb hc hf)
  have hlwb : w.heap.size ≤ wb.heap.size := (by omega)
  clear hb hf
  go_wp2_with fail
  refine (HI.out _).mono ?_
  rintro e wd ⟨rfl, hb⟩
  obtain ⟨hc, hf⟩ := bcell hb
  have hzwd := hb.size
  have HBwd := Lib.hid hb
  (try simp at hzwd hc hf)
  have hlwd : w.heap.size ≤ wd.heap.size := (by omega)
  clear hb hf
  go_wp2_with fail
  go_ret
  refine ⟨rfl, ?_⟩
  (repeat' (first | (with_reducible exact Below.refl _ _) | (with_reducible refine Below.alloc ?_ ?_ _) | (with_reducible refine Below.setCell ?_ ?_ _) | (with_reducible refine Below.drew ?_) | (with_reducible refine below_drewN ?_ _) | (with_reducible refine Below.trans ?_ (Below.mono (Hid.out (by assumption)) ?_)) | omega | (simp; done) | (simp; omega)))

end LFnExactCountShapes

namespace LFnExactCountShapes
set_option maxRecDepth 100000 in
theorem lifted (os : Os) (started : os.Started) (H : Type) (enc : TypeId × Value → H) :
    ReturnsInHanded {} Try.checked os 8 .any (Rows.fnExactCountShapesSpec.pre6 enc Try.prog Try.f8 Rows.fnExactCountShapesRow.domain false) (Rows.fnExactCountShapesSpec.post enc Try.prog Try.f8 false true false false) := by
  refine returnsInHanded_of_change (C := Try.checked) own started (by kernel_rfl) Try.func8
    (ChangeSpec.witness6 (enc := enc) (C := Try.checked) false ⟨#[], #[.int .i64 0], []⟩ 8 (by kernel_rfl) (by kernel_rfl) (by kernel_rfl) (by kernel_rfl)) ?_
  intro W base args ds gs before hval0 hW _ _
  have hval : ∀ (j : Nat) t v, Try.f8.params[j]? = some t → args[j]? = some v → Value.okWide Try.prog W .any base t v := hval0
  have hW' := hW
  obtain ⟨p, q, hA0, hV, rfl, hfz, hnd⟩ := hW
  have hA : DataW.TrodAll enc Try.prog W 0 (fun _ => true) true Try.f8.params.toList args.toList ds p := hA0
  rw [Try.params8] at hA hval
  obtain ⟨v0, vs0, d0, ds0, p0, q0, hargs, rfl, rfl, h0, r0⟩ := trodAll_cons hA
  obtain ⟨rfl, rfl, rfl⟩ := trodAll_nil r0
  obtain rfl : args = #[v0] := by cases args; simp_all
  obtain ⟨rfl, rfl⟩ := trodVars_none hV
  have k0 := h0
  have lt0 : ∀ x ∈ p0, x.block < W.heap.size := by obtain ⟨m, hm⟩ := k0; exact DataW.trod_lt m _ _ _ hm
  obtain ⟨a0, rfl, rfl, rfl, w0⟩ := open_int Try.underlying2 (hval 0 2 v0 rfl rfl) h0
  clear hA0 hval0
  refine (ex_any a0 w0 W).mono fun e W' ⟨he, bel⟩ => ?_
  subst he
  exact ⟨_, rfl, _, _, _, [], _, [], hW', trodAll_mk1 (shut_bool Try.underlying4 _), (trodAll_cons_mk (Below.trod laidOut (by kernel_rfl) (of_decide_eq_true (by kernel_rfl)) k0 bel lt0) trodAll_mk0), rfl, bel.frame _, fun h => by cases h⟩
theorem joined : joinedFacts Try.pinned.checked.prog 8 Try.f8 Rows.fnExactCountShapesSpec Rows.fnExactCountShapesRow = true := by
  unfold joinedFacts
  simp only [Bool.and_eq_true]
  repeat' apply And.intro
  iterate 25 kernel_rfl
  exact mk_enter
  exact mk_lifts
  exact mk_make
  iterate 4 kernel_rfl
theorem over : Rows.fnExactCountShapesRow.holds Try.pinned (OpenSpec.ofChange Rows.fnExactCountShapesSpec) :=
  OpenClaim.holds_of_wide 8 Try.f8 rfl rfl rfl rfl rfl rfl rfl ⟨rfl, rfl, rfl, rfl, rfl⟩ rfl rfl rfl rfl rfl (by kernel_rfl) Try.func8 joined
    (of_decide_eq_true (by kernel_rfl)) (by unfold Func.isWrapper; rw [if_neg (of_decide_eq_false (by kernel_rfl))]; exact ⟨rfl, rfl⟩)
    (fun os started H enc _ => lifted os started H enc)
/-- The statement of FnExactCountShapes. -/
theorem proved : Rows.FnExactCountShapesSaid := over
#print axioms proved
end LFnExactCountShapes

end Go.Proofs.Ytfghegjlilcafaa
