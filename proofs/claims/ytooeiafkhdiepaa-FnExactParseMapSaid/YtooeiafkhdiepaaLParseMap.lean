/- The law FnExactParseMap is true at every input: impl.ParseMap and spec.ParseMap give the same code and the same map. No conditions. -/
import Derived.Test.YtooeiafkhdiepaaTo
import Derived.Test.YtooeiafkhdiepaaParse
import Derived.Test.YtooeiafkhdiepaaEq
import Derived.Test.YtooeiafkhdiepaaRow
import Derived.ChangeMaps5
namespace Go.Proofs.Ytooeiafkhdiepaa
open Go.ChangeShapes Go.WideShapes Go.ChangeAt Go.RowKit Go.ChangeMaps
namespace LFnExactParseMap

set_option maxHeartbeats 1000000 in
theorem ex_any (s : ByteArray) {Q : Prop} (_ : Q) (w : World) :
    Calls Try.prog 12 #[.string s] w fun e w' => e = .returned (.bool true) ∧ Below w.heap.size w w' := by
  by_cases hs : s.size ≤ 1048576
  · have hgt : ¬ (1048576 < (s.size : Int)) := by omega
    obtain ⟨P, T, C, hV⟩ : ∃ P T C, prsV s = .tuple #[mv P T, .int .i64 C] := ⟨_, _, _, rfl⟩
    have HS := fun w => sPrs_any s hs w
    have HI := fun w => iPrs_any s hs w
    rw [hV] at HS HI
    clear hV
    have HS := Lib.hid HS
    have HI := Lib.hid HI
    go_enter Try.func12, Try.ntmps12
    go_wp2_with fail
    (refine (HS.out _).mono ?_; rintro e w1 ⟨rfl, hb⟩; simp only [mv, mcells]; obtain ⟨hc, hf⟩ := bcell hb; have hz := hb.size; have Hb := Lib.hid hb; (try simp at hz hc hf); (try (have hy := Nat.lt_of_succ_le hz)); clear hb)
    obtain ⟨wa, hwa⟩ : ∃ wa, wa = w1 := ⟨_, rfl⟩
    subst hwa
    have Hba := Hb
    go_wp2_with fail
    (refine (HI.out _).mono ?_; rintro e w1 ⟨rfl, hb⟩; simp only [mv, mcells]; obtain ⟨hc, hf⟩ := bcell hb; have hz := hb.size; have Hb := Lib.hid hb; (try simp at hz hc hf); (try (have hy := Nat.lt_of_succ_le hz)); clear hb)
    have ha1 : wa.heap.size < w1.heap.size := by omega
    have Hbb := Hb
    go_wp2_with fail
    (refine (eqMap_same P T _).mono ?_; rintro e w1 ⟨rfl, hb⟩; obtain ⟨hc, hf⟩ := bcell hb; have hz := hb.size; have Hb := Lib.hid hb; (try simp at hz hc hf); (try (have hy := Nat.lt_of_succ_le hz)); clear hb)
    go_wp2_with fail
    go_ret
    refine ⟨rfl, ?_⟩
    (repeat' (first | (with_reducible exact Below.refl _ _) | (with_reducible refine Below.alloc ?_ ?_ _) | (with_reducible refine Below.setCell ?_ ?_ _) | (with_reducible refine Below.drew ?_) | (with_reducible refine below_drewN ?_ _) | (with_reducible refine Below.trans ?_ (Below.mono (Hid.out (by assumption)) ?_)) | omega | (simp; done) | (simp; omega)))
  · have hgt : 1048576 < (s.size : Int) := by omega
    go_enter Try.func12, Try.ntmps12
    go_wp2_with fail
    go_ret
    exact ⟨rfl, Below.refl _ _⟩

end LFnExactParseMap

namespace LFnExactParseMap
set_option maxRecDepth 100000 in
theorem lifted (os : Os) (started : os.Started) (H : Type) (enc : TypeId × Value → H) :
    ReturnsInHanded {} Try.checked os 12 .any (Rows.fnExactParseMapSpec.pre6 enc Try.prog Try.f12 Rows.fnExactParseMapRow.domain false) (Rows.fnExactParseMapSpec.post enc Try.prog Try.f12 false true false false) := by
  refine returnsInHanded_of_change (C := Try.checked) own started (by kernel_rfl) Try.func12
    (ChangeSpec.witness6 (enc := enc) (C := Try.checked) false ⟨#[], #[.string ⟨#[]⟩], []⟩ 8 (by kernel_rfl) (by kernel_rfl) (by kernel_rfl) (by kernel_rfl)) ?_
  intro W base args ds gs before hval0 hW _ _
  have hval : ∀ (j : Nat) t v, Try.f12.params[j]? = some t → args[j]? = some v → Value.okWide Try.prog W .any base t v := hval0
  have hW' := hW
  obtain ⟨p, q, hA0, hV, rfl, hfz, hnd⟩ := hW
  have hA : DataW.TrodAll enc Try.prog W 0 (fun _ => true) true Try.f12.params.toList args.toList ds p := hA0
  rw [Try.params12] at hA hval
  obtain ⟨v0, vs0, d0, ds0, p0, q0, hargs, rfl, rfl, h0, r0⟩ := trodAll_cons hA
  obtain ⟨rfl, rfl, rfl⟩ := trodAll_nil r0
  obtain rfl : args = #[v0] := by cases args; simp_all
  obtain ⟨rfl, rfl⟩ := trodVars_none hV
  have k0 := h0
  have lt0 : ∀ x ∈ p0, x.block < W.heap.size := by obtain ⟨m, hm⟩ := k0; exact DataW.trod_lt m _ _ _ hm
  obtain ⟨a0, rfl, rfl, rfl, w0⟩ := open_string Try.underlying9 (hval 0 9 v0 rfl rfl) h0
  clear hA0 hval0
  refine (ex_any a0 w0 W).mono fun e W' ⟨he, bel⟩ => ?_
  subst he
  exact ⟨_, rfl, _, _, _, [], _, [], hW', trodAll_mk1 (shut_bool Try.underlying4 _), (trodAll_cons_mk (Below.trod laidOut (by kernel_rfl) (of_decide_eq_true (by kernel_rfl)) k0 bel lt0) trodAll_mk0), rfl, bel.frame _, fun h => by cases h⟩
theorem over : Rows.fnExactParseMapRow.holds Try.pinned (OpenSpec.ofChange Rows.fnExactParseMapSpec) :=
  OpenClaim.holds_of_wide 12 Try.f12 rfl rfl rfl rfl rfl rfl rfl ⟨rfl, rfl, rfl, rfl, rfl⟩ rfl rfl rfl rfl rfl (by kernel_rfl) Try.func12 (by kernel_rfl)
    (of_decide_eq_true (by kernel_rfl)) (by unfold Func.isWrapper; rw [if_neg (of_decide_eq_false (by kernel_rfl))]; exact ⟨rfl, rfl⟩)
    (fun os started H enc _ => lifted os started H enc)
/-- The statement of FnExactParseMap. -/
theorem proved : Rows.FnExactParseMapSaid := over
#print axioms proved
end LFnExactParseMap

end Go.Proofs.Ytooeiafkhdiepaa
