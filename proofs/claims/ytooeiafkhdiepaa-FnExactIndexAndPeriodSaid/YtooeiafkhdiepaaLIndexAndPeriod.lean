/- The law FnExactIndexAndPeriod is true at every input: impl.IndexAndPeriod and spec.IndexAndPeriod give the same answer. No conditions. -/
import Derived.Test.YtooeiafkhdiepaaTo
import Derived.Test.YtooeiafkhdiepaaIdx
import Derived.Test.YtooeiafkhdiepaaRow
namespace Go.Proofs.Ytooeiafkhdiepaa
open Go.ChangeShapes Go.WideShapes Go.ChangeAt Go.RowKit
namespace LFnExactIndexAndPeriod

theorem ex_any (p : Int) (t : Nat → Int) (_ : (Lit.int .i64 p).wf = true) (_ : ∀ i, i < 5 → (Lit.int .i64 (t i)).wf = true) (w : World) :
    Calls Try.prog 7 #[mv p t] w fun e w' => e = .returned (.bool true) ∧ Below w.heap.size w w' := by
  obtain ⟨a, b, c, hV⟩ : ∃ a b c, idxV p t = .tuple #[.int .i64 a, .int .i64 b, .int .i64 c] := by unfold idxV; split <;> exact ⟨_, _, _, rfl⟩
  have HS := fun w => sIdx_any p t w
  have HI := fun w => iIdx_any p t w
  rw [hV] at HS HI
  clear hV
  have HS := Lib.hid HS
  have HI := Lib.hid HI
  simp only [mv, mcells]
  go_enter Try.func7, Try.ntmps7
  go_wp2_with (first
    | (go_at_call 68; (with_reducible refine (toMap_any p t _).mono ?_); rintro e w1 ⟨rfl, hb⟩; simp only [mv, mcells]; obtain ⟨hc, hf⟩ := bcell hb; have hz := hb.size; have Hb := Lib.hid hb; (try simp at hz hc hf); (try (have hy := Nat.lt_of_succ_le hz)); have hz0 : w.heap.size < w1.heap.size := (by omega); clear hb)
    | (go_at_call 46; (with_reducible refine (HS.out _).mono ?_); rintro e w1 ⟨rfl, hb⟩; obtain ⟨hc, hf⟩ := bcell hb; have hz := hb.size; have Hb := Lib.hid hb; (try simp at hz hc hf); (try (have hy := Nat.lt_of_succ_le hz)); have hz0 : w.heap.size < w1.heap.size := (by omega); clear hb)
    | (go_at_call 45; (with_reducible refine (HI.out _).mono ?_); rintro e w1 ⟨rfl, hb⟩; obtain ⟨hc, hf⟩ := bcell hb; have hz := hb.size; have Hb := Lib.hid hb; (try simp at hz hc hf); (try (have hy := Nat.lt_of_succ_le hz)); have hz0 : w.heap.size < w1.heap.size := (by omega); clear hb))
  go_ret
  refine ⟨rfl, ?_⟩
  (repeat' (first | (with_reducible exact Below.refl _ _) | (with_reducible refine Below.alloc ?_ ?_ _) | (with_reducible refine Below.setCell ?_ ?_ _) | (with_reducible refine Below.drew ?_) | (with_reducible refine below_drewN ?_ _) | (with_reducible refine Below.trans ?_ (Below.mono (Hid.out (by assumption)) ?_)) | omega | (simp; done) | (simp; omega)))

end LFnExactIndexAndPeriod

namespace LFnExactIndexAndPeriod
set_option maxRecDepth 100000 in
theorem lifted (os : Os) (started : os.Started) (H : Type) (enc : TypeId × Value → H) :
    ReturnsInHanded {} Try.checked os 7 .any (Rows.fnExactIndexAndPeriodSpec.pre6 enc Try.prog Try.f7 Rows.fnExactIndexAndPeriodRow.domain false) (Rows.fnExactIndexAndPeriodSpec.post enc Try.prog Try.f7 false true false false) := by
  refine returnsInHanded_of_change (C := Try.checked) own started (by kernel_rfl) Try.func7
    (ChangeSpec.witness6 (enc := enc) (C := Try.checked) false ⟨#[], #[.agg #[.int .i64 0, .int .i64 0, .int .i64 0, .int .i64 0, .int .i64 0, .int .i64 0]], []⟩ 8 (by kernel_rfl) (by kernel_rfl) (by kernel_rfl) (by kernel_rfl)) ?_
  intro W base args ds gs before hval0 hW _ _
  have hval : ∀ (j : Nat) t v, Try.f7.params[j]? = some t → args[j]? = some v → Value.okWide Try.prog W .any base t v := hval0
  have hW' := hW
  obtain ⟨p, q, hA0, hV, rfl, hfz, hnd⟩ := hW
  have hA : DataW.TrodAll enc Try.prog W 0 (fun _ => true) true Try.f7.params.toList args.toList ds p := hA0
  rw [Try.params7] at hA hval
  obtain ⟨v0, vs0, d0, ds0, p0, q0, hargs, rfl, rfl, h0, r0⟩ := trodAll_cons hA
  obtain ⟨rfl, rfl, rfl⟩ := trodAll_nil r0
  obtain rfl : args = #[v0] := by cases args; simp_all
  obtain ⟨rfl, rfl⟩ := trodVars_none hV
  have k0 := h0
  have lt0 : ∀ x ∈ p0, x.block < W.heap.size := by obtain ⟨m, hm⟩ := k0; exact DataW.trod_lt m _ _ _ hm
  obtain ⟨a0, t0, rfl, wa0, wt0⟩ := open_lmap (hval 0 57 v0 rfl rfl) h0
  clear hA0 hval0
  refine (ex_any a0 t0 wa0 wt0 W).mono fun e W' ⟨he, bel⟩ => ?_
  subst he
  exact ⟨_, rfl, _, _, _, [], _, [], hW', trodAll_mk1 (shut_bool Try.underlying4 _), (trodAll_cons_mk (Below.trod laidOut (by kernel_rfl) (of_decide_eq_true (by kernel_rfl)) k0 bel lt0) trodAll_mk0), rfl, bel.frame _, fun h => by cases h⟩
theorem over : Rows.fnExactIndexAndPeriodRow.holds Try.pinned (OpenSpec.ofChange Rows.fnExactIndexAndPeriodSpec) :=
  OpenClaim.holds_of_wide 7 Try.f7 rfl rfl rfl rfl rfl rfl rfl ⟨rfl, rfl, rfl, rfl, rfl⟩ rfl rfl rfl rfl rfl (by kernel_rfl) Try.func7 (by kernel_rfl)
    (of_decide_eq_true (by kernel_rfl)) (by unfold Func.isWrapper; rw [if_neg (of_decide_eq_false (by kernel_rfl))]; exact ⟨rfl, rfl⟩)
    (fun os started H enc _ => lifted os started H enc)
/-- The statement of FnExactIndexAndPeriod. -/
theorem proved : Rows.FnExactIndexAndPeriodSaid := over
#print axioms proved
end LFnExactIndexAndPeriod

end Go.Proofs.Ytooeiafkhdiepaa
