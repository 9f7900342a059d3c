/- The law FnExactIsInverseMonoid is true at every input: impl.IsInverseMonoid and spec.IsInverseMonoid give the same answer and the same code, and the list that came in stays as it was. No conditions. -/
import Derived.Test.YtiogagaclhjdaaaMk
import Derived.Test.YtiogagaclhjdaaaBase
import Derived.Test.YtiogagaclhjdaaaRgm
import Derived.Test.YtiogagaclhjdaaaRowM
import Derived.Test.YtiogagaclhjdaaaMark
namespace Go.Proofs.Ytiogagaclhjdaaa
open Go.ChangeShapes Go.WideShapes Go.ChangeAt Go.RowKit
namespace LFnExactIsInverseMonoid

set_option maxRecDepth 100000 in
set_option maxHeartbeats 2000000 in
theorem ex_any (w : World) (a1 : Option Addr) (len1 cap1 : Nat) (L : List MapN) (hw1 : L.length = len1 ∧ InRowM w a1 L ∧ (a1 = none → cap1 = 0) ∧ len1 ≤ maxLen) :
    Calls Try.prog 7 #[.slice a1 len1 cap1] w fun e w' => e = .returned (.bool true) ∧ Below w.heap.size w w' := by
  obtain ⟨rfl, h1, _, h9⟩ := hw1
  have HM := Lib.hid h1
  have H9 := Lib.hid h9
  clear h1 h9
  by_cases hL : L.length ≤ 1048576
  · have hng : ¬ ((1048576 : Int) - (L.length : Int) < 0) := by omega
    have hq0 : (1 + 6 * (L.length : Int) < 0) = False := by simp; omega
    obtain ⟨P, C, hV⟩ : ∃ P C, alV unqC L = .tuple #[.bool P, .int .i64 C] := ⟨_, _, rfl⟩
    have HS := fun w (g1 : Nat) h1 => sunq_any (some ⟨g1, 0, none⟩) L.length L hL w h1
    have HI := fun w (g1 : Nat) h1 => iunqM_any (some ⟨g1, 0, none⟩) L.length L (fun e => by cases e) hL w h1
    rw [hV] at HS HI
    clear hV
    have HS := Lib.hid HS
    have HI := Lib.hid HI
    (try simp only [mv, mcells] at HS HI)
    (try simp only [mv, mcells])
    go_enter Try.func7, Try.ntmps7
    go_wp2_with (go_at_call 15; (with_reducible refine (sz_any L.length a1 cap1 hL _).mono ?_); rintro e w ⟨rfl, rfl⟩)
    refine (toMS_any L hL a1 cap1 _ (HM.out.below (by (repeat' (first | (with_reducible exact Below.refl _ _) | (with_reducible refine Below.alloc ?_ ?_ _) | (with_reducible refine Below.setCell ?_ ?_ _) | (with_reducible refine Below.drew ?_) | (with_reducible refine below_drewN ?_ _) | (with_reducible refine Below.trans ?_ (Below.mono (Hid.out (by assumption)) ?_)) | omega | (simp; done) | (simp; omega)))))).mono ?_
    rintro e wa ⟨_, rfl, hr, hb, rfl, hgrwa⟩
    obtain ⟨hc, hf⟩ := bcell hb
    have hzwa := hb.size
    have HBwa := Lib.hid hb
    (try simp at hzwa hc hf)
    have hlwa : w.heap.size ≤ wa.heap.size := (by omega)
    (try simp only [World.size_alloc] at hr)
    have Rwa := Lib.hid hr
    clear hb hf hr
    have Ywa := Rwa
    go_wp2_with fail
    refine (HS.out _ _ Ywa.out.inRow).mono ?_
    rintro e wc ⟨rfl, hb⟩
    obtain ⟨hc, hf⟩ := bcell hb
    have hzwc := hb.size
    have HBwc := Lib.hid hb
    (try simp at hzwc hc hf)
    have hlwc : w.heap.size < wc.heap.size := (by omega)
    clear hb hf
    go_wp2_with fail
    refine (toMS_any L hL a1 cap1 _ (HM.out.below (by (repeat' (first | (with_reducible exact Below.refl _ _) | (with_reducible refine Below.alloc ?_ ?_ _) | (with_reducible refine Below.setCell ?_ ?_ _) | (with_reducible refine Below.drew ?_) | (with_reducible refine below_drewN ?_ _) | (with_reducible refine Below.trans ?_ (Below.mono (Hid.out (by assumption)) ?_)) | omega | (simp; done) | (simp; omega)))))).mono ?_
    rintro e wd ⟨_, rfl, hr, hb, rfl, hgrwd⟩
    obtain ⟨hc, hf⟩ := bcell hb
    have hzwd := hb.size
    have HBwd := Lib.hid hb
    (try simp at hzwd hc hf)
    have hlwd : w.heap.size ≤ wd.heap.size := (by omega)
    (try simp only [World.size_alloc] at hr)
    have Rwd := Lib.hid hr
    clear hb hf hr
    have Ywd := Rwd
    go_wp2_with fail
    refine (HI.out _ _ Ywd.out.inRow).mono ?_
    rintro e wf ⟨rfl, hb⟩
    obtain ⟨hc, hf⟩ := bcell hb
    have hzwf := hb.size
    have HBwf := Lib.hid hb
    (try simp at hzwf hc hf)
    have hlwf : w.heap.size < wf.heap.size := (by omega)
    clear hb hf
    go_wp2_with fail
    refine (toMS_any L hL a1 cap1 _ (HM.out.below (by (repeat' (first | (with_reducible exact Below.refl _ _) | (with_reducible refine Below.alloc ?_ ?_ _) | (with_reducible refine Below.setCell ?_ ?_ _) | (with_reducible refine Below.drew ?_) | (with_reducible refine below_drewN ?_ _) | (with_reducible refine Below.trans ?_ (Below.mono (Hid.out (by assumption)) ?_)) | omega | (simp; done) | (simp; omega)))))).mono ?_
    rintro e wh ⟨_, rfl, hr, hb, rfl, hgrwh⟩
    obtain ⟨hc, hf⟩ := bcell hb
    have hzwh := hb.size
    have HBwh := Lib.hid hb
    (try simp at hzwh hc hf)
    have hlwh : w.heap.size ≤ wh.heap.size := (by omega)
    (try simp only [World.size_alloc] at hr)
    have Rwh := Lib.hid hr
    clear hb hf hr
    have X1 : Hid (RdM wh _ _ L) := Lib.hid (Rwd.out.below (by (repeat' (first | (with_reducible exact Below.refl _ _) | (with_reducible refine Below.alloc ?_ ?_ _) | (with_reducible refine Below.setCell ?_ ?_ _) | (with_reducible refine Below.drew ?_) | (with_reducible refine below_drewN ?_ _) | (with_reducible refine Below.trans ?_ (Below.mono (Hid.out (by assumption)) ?_)) | omega | (simp; done) | (simp; omega)))))
    go_wp2_with fail
    refine (eqMS_same L _ _ L.length L.length (by omega) _ X1.out.inRow Rwh.out.inRow).mono ?_
    rintro e wi ⟨rfl, hb⟩
    obtain ⟨hc, hf⟩ := bcell hb
    have hzwi := hb.size
    have HBwi := Lib.hid hb
    (try simp at hzwi hc hf)
    have hlwi : w.heap.size < wi.heap.size := (by omega)
    clear hb hf
    go_wp2_with fail
    go_ret
    refine ⟨rfl, ?_⟩
    (repeat' (first | (with_reducible exact Below.refl _ _) | (with_reducible refine Below.alloc ?_ ?_ _) | (with_reducible refine Below.setCell ?_ ?_ _) | (with_reducible refine Below.drew ?_) | (with_reducible refine below_drewN ?_ _) | (with_reducible refine Below.trans ?_ (Below.mono (Hid.out (by assumption)) ?_)) | omega | (simp; done) | (simp; omega)))
  · have hbig : 1048576 < L.length := by omega
    go_enter Try.func7, Try.ntmps7
    go_wp2_with (go_at_call 15; (with_reducible refine (sz_big L.length a1 cap1 hbig H9.out _).mono ?_); rintro e w ⟨rfl, rfl⟩)
    go_ret
    exact ⟨rfl, Below.refl _ _⟩

end LFnExactIsInverseMonoid

namespace LFnExactIsInverseMonoid
set_option maxRecDepth 100000 in
theorem lifted (os : Os) (started : os.Started) (H : Type) (enc : TypeId × Value → H) :
    ReturnsInHanded {} Try.checked os 7 .any (Rows.fnExactIsInverseMonoidSpec.pre6 enc Try.prog Try.f7 Rows.fnExactIsInverseMonoidRow.domain false) (Rows.fnExactIsInverseMonoidSpec.post enc Try.prog Try.f7 false true false false) := by
  refine returnsInHanded_of_change (C := Try.checked) own started (by kernel_rfl) Try.func7
    (ChangeSpec.witness6 (enc := enc) (C := Try.checked) false ⟨#[], #[.slice none 0 0], []⟩ 8 (by kernel_rfl) (by kernel_rfl) (by kernel_rfl) (by kernel_rfl)) ?_
  intro W base args ds gs before hval0 hW _ _
  have hval : ∀ (j : Nat) t v, Try.f7.params[j]? = some t → args[j]? = some v → Value.okWide Try.prog W .any base t v := hval0
  have hW' := hW
  obtain ⟨p, q, hA0, hV, rfl, hfz, hnd⟩ := hW
  have hA : DataW.TrodAll enc Try.prog W 0 (fun _ => true) true Try.f7.params.toList args.toList ds p := hA0
  rw [Try.params7] at hA hval
  obtain ⟨v0, vs0, d0, ds0, p0, q0, hargs, rfl, rfl, h0, r0⟩ := trodAll_cons hA
  obtain ⟨rfl, rfl, rfl⟩ := trodAll_nil r0
  obtain rfl : args = #[v0] := by cases args; simp_all
  obtain ⟨rfl, rfl⟩ := trodVars_none hV
  have k0 := h0
  have lt0 : ∀ x ∈ p0, x.block < W.heap.size := by obtain ⟨m, hm⟩ := k0; exact DataW.trod_lt m _ _ _ hm
  obtain ⟨a0, len0, cap0, rfl⟩ := okWide_slice Try.underlying22 (hval 0 22 v0 rfl rfl)
  obtain ⟨z0, w0⟩ := open_rowM h0
  clear hA0 hval0
  refine (ex_any W a0 len0 cap0 z0 w0).mono fun e W' ⟨he, bel⟩ => ?_
  subst he
  exact ⟨_, rfl, _, _, _, [], _, [], hW', trodAll_mk1 (shut_bool Try.underlying4 _), (trodAll_cons_mk (Below.trod laidOut (by kernel_rfl) (of_decide_eq_true (by kernel_rfl)) k0 bel lt0) trodAll_mk0), rfl, bel.frame _, fun h => by cases h⟩
theorem joined : joinedFacts Try.pinned.checked.prog 7 Try.f7 Rows.fnExactIsInverseMonoidSpec Rows.fnExactIsInverseMonoidRow = true := by
  unfold joinedFacts
  simp only [Bool.and_eq_true]
  repeat' apply And.intro
  iterate 25 kernel_rfl
  exact mk_enter
  exact mk_lifts
  exact mk_make
  iterate 4 kernel_rfl
theorem over : Rows.fnExactIsInverseMonoidRow.holds Try.pinned (OpenSpec.ofChange Rows.fnExactIsInverseMonoidSpec) :=
  OpenClaim.holds_of_wide 7 Try.f7 rfl rfl rfl rfl rfl rfl rfl ⟨rfl, rfl, rfl, rfl, rfl⟩ rfl rfl rfl rfl rfl (by kernel_rfl) Try.func7 joined
    (of_decide_eq_true (by kernel_rfl)) (by unfold Func.isWrapper; rw [if_neg (of_decide_eq_false (by kernel_rfl))]; exact ⟨rfl, rfl⟩)
    (fun os started H enc _ => lifted os started H enc)
/-- The statement of FnExactIsInverseMonoid. -/
theorem proved : Rows.FnExactIsInverseMonoidSaid := over
#print axioms proved
end LFnExactIsInverseMonoid

end Go.Proofs.Ytiogagaclhjdaaa
