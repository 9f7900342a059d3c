/- The law FnExactMapOf is true at every input: impl.MapOf and spec.MapOf give the same code and the same map, and the argument stays as it was. No conditions. -/
import Derived.Test.YtlfoaicfmobhjaaTo
import Derived.Test.YtlfoaicfmobhjaaMapOf
import Derived.Test.YtlfoaicfmobhjaaEq
import Derived.Test.YtlfoaicfmobhjaaRowS
namespace Go.Proofs.Ytlfoaicfmobhjaa
open Go.ChangeShapes Go.WideShapes Go.ChangeAt Go.RowKit
namespace LFnExactMapOf

set_option maxRecDepth 100000 in
set_option maxHeartbeats 2000000 in
theorem ex_any (w : World) (a : Option Addr) (len cap : Nat) (L : List Int) (hw : L.length = len ∧ InRow w a L) :
    Calls Try.prog 6 #[.slice a len cap] w fun e w' => e = .returned (.bool true) ∧ Below w.heap.size w w' := by
  obtain ⟨rfl, h⟩ := hw
  by_cases hL1 : L.length ≤ 1048576
  · have hgt : ¬ (1048576 < (L.length : Int)) := by omega
    obtain ⟨P, T, C, hV⟩ : ∃ P T C, mapV L = .tuple #[mv P T, .int .i64 C] := ⟨_, _, _, rfl⟩
    have HS := fun w a c h => sMapOf_any L hL1 a c w h
    have HI := fun w a c h => iMapOf_any L hL1 a c w h
    rw [hV] at HS HI
    clear hV
    have HS := Lib.hid HS
    have HI := Lib.hid HI
    go_enter Try.func6, Try.ntmps6
    go_wp2_with fail
    refine (toS_any L hL1 a cap _ h).mono ?_
    rintro e wa ⟨aa, rfl, hr, hb⟩
    obtain ⟨hc, hf⟩ := bcell hb
    have hzwa := hb.size
    have HBwa := Lib.hid hb
    (try simp at hzwa hc hf)
    have hlwa : w.heap.size ≤ wa.heap.size := (by omega)
    have Ra := Lib.hid hr
    clear hr
    clear hb hf
    go_wp2_with fail
    refine (HS.out _ aa L.length Ra.out.inRow).mono ?_
    rintro e wb ⟨rfl, hb⟩
    obtain ⟨hc, hf⟩ := bcell hb
    have hzwb := hb.size
    have HBwb := Lib.hid hb
    (try simp at hzwb hc hf)
    have hlwb : w.heap.size ≤ wb.heap.size := (by omega)
    clear hb hf
    simp only [mv, mcells]
    have h2 : Hid (InRow (wb.alloc (.cells (mcells P T) 26)) a L) := Lib.hid (h.below (by (repeat' (first | (with_reducible exact Below.refl _ _) | (with_reducible refine Below.alloc ?_ ?_ _) | (with_reducible refine Below.setCell ?_ ?_ _) | (with_reducible refine Below.drew ?_) | (with_reducible refine below_drewN ?_ _) | (with_reducible refine Below.trans ?_ (Below.mono (Hid.out (by assumption)) ?_)) | omega | (simp; done) | (simp; omega)))))
    go_wp2_with fail
    refine (toS_any L hL1 a cap _ h2.out).mono ?_
    rintro e wc ⟨ac, rfl, hr, hb⟩
    obtain ⟨hc, hf⟩ := bcell hb
    have hzwc := hb.size
    have HBwc := Lib.hid hb
    (try simp at hzwc hc hf)
    have hlwc : w.heap.size ≤ wc.heap.size := (by omega)
    have Rc := Lib.hid hr
    have hbc : wb.heap.size < wc.heap.size := (by omega)
    clear hr
    clear hb hf
    go_wp2_with fail
    refine (HI.out _ ac L.length Rc.out.inRow).mono ?_
    rintro e wd ⟨rfl, hb⟩
    obtain ⟨hc, hf⟩ := bcell hb
    have hzwd := hb.size
    have HBwd := Lib.hid hb
    (try simp at hzwd hc hf)
    have hlwd : w.heap.size ≤ wd.heap.size := (by omega)
    have hbd : wb.heap.size < wd.heap.size := (by omega)
    clear hb hf
    simp only [mv, mcells]
    go_wp2_with fail
    refine (eqMap_same P T _).mono ?_
    rintro e we ⟨rfl, hb⟩
    obtain ⟨hc, hf⟩ := bcell hb
    have hzwe := hb.size
    have HBwe := Lib.hid hb
    (try simp at hzwe hc hf)
    have hlwe : w.heap.size ≤ we.heap.size := (by omega)
    have hbe : wb.heap.size < we.heap.size := (by omega)
    clear hb hf
    have h3 : Hid (InRow we a L) := Lib.hid (h.below (by (repeat' (first | (with_reducible exact Below.refl _ _) | (with_reducible refine Below.alloc ?_ ?_ _) | (with_reducible refine Below.setCell ?_ ?_ _) | (with_reducible refine Below.drew ?_) | (with_reducible refine below_drewN ?_ _) | (with_reducible refine Below.trans ?_ (Below.mono (Hid.out (by assumption)) ?_)) | omega | (simp; done) | (simp; omega)))))
    go_wp2_with fail
    refine (toS_any L hL1 a cap _ h3.out).mono ?_
    rintro e wf ⟨af, rfl, hr, hb⟩
    obtain ⟨hc, hf⟩ := bcell hb
    have hzwf := hb.size
    have HBwf := Lib.hid hb
    (try simp at hzwf hc hf)
    have hlwf : w.heap.size ≤ wf.heap.size := (by omega)
    have Rf := Lib.hid hr
    clear hr
    clear hb hf
    have R1 : Hid (Rd wf _ ac L) := Lib.hid (Rc.out.below (by (repeat' (first | (with_reducible exact Below.refl _ _) | (with_reducible refine Below.alloc ?_ ?_ _) | (with_reducible refine Below.setCell ?_ ?_ _) | (with_reducible refine Below.drew ?_) | (with_reducible refine below_drewN ?_ _) | (with_reducible refine Below.trans ?_ (Below.mono (Hid.out (by assumption)) ?_)) | omega | (simp; done) | (simp; omega)))))
    go_wp2_with fail
    refine (eqS_same L ac af L.length L.length _ _ _ R1.out Rf.out).mono ?_
    rintro e wg ⟨rfl, hb⟩
    obtain ⟨hc, hf⟩ := bcell hb
    have hzwg := hb.size
    have HBwg := Lib.hid hb
    (try simp at hzwg hc hf)
    have hlwg : w.heap.size ≤ wg.heap.size := (by omega)
    clear hb hf
    go_wp2_with fail
    go_ret
    refine ⟨rfl, ?_⟩
    (repeat' (first | (with_reducible exact Below.refl _ _) | (with_reducible refine Below.alloc ?_ ?_ _) | (with_reducible refine Below.setCell ?_ ?_ _) | (with_reducible refine Below.drew ?_) | (with_reducible refine below_drewN ?_ _) | (with_reducible refine Below.trans ?_ (Below.mono (Hid.out (by assumption)) ?_)) | omega | (simp; done) | (simp; omega)))
  · have hgt : 1048576 < (L.length : Int) := by omega
    clear h hL1
    go_enter Try.func6, Try.ntmps6
    go_wp2_with fail
    go_ret
    exact ⟨rfl, Below.refl _ _⟩

end LFnExactMapOf

namespace LFnExactMapOf
set_option maxRecDepth 100000 in
theorem lifted (os : Os) (started : os.Started) (H : Type) (enc : TypeId × Value → H) :
    ReturnsInHanded {} Try.checked os 6 .any (Rows.fnExactMapOfSpec.pre6 enc Try.prog Try.f6 Rows.fnExactMapOfRow.domain false) (Rows.fnExactMapOfSpec.post enc Try.prog Try.f6 false true false false) := by
  refine returnsInHanded_of_change (C := Try.checked) own started (by kernel_rfl) Try.func6
    (ChangeSpec.witness6 (enc := enc) (C := Try.checked) false ⟨#[], #[.slice none 0 0], []⟩ 8 (by kernel_rfl) (by kernel_rfl) (by kernel_rfl) (by kernel_rfl)) ?_
  intro W base args ds gs before hval0 hW _ _
  have hval : ∀ (j : Nat) t v, Try.f6.params[j]? = some t → args[j]? = some v → Value.okWide Try.prog W .any base t v := hval0
  have hW' := hW
  obtain ⟨p, q, hA0, hV, rfl, hfz, hnd⟩ := hW
  have hA : DataW.TrodAll enc Try.prog W 0 (fun _ => true) true Try.f6.params.toList args.toList ds p := hA0
  rw [Try.params6] at hA hval
  obtain ⟨v0, vs0, d0, ds0, p0, q0, hargs, rfl, rfl, h0, r0⟩ := trodAll_cons hA
  obtain ⟨rfl, rfl, rfl⟩ := trodAll_nil r0
  obtain rfl : args = #[v0] := by cases args; simp_all
  obtain ⟨rfl, rfl⟩ := trodVars_none hV
  have k0 := h0
  have lt0 : ∀ x ∈ p0, x.block < W.heap.size := by obtain ⟨m, hm⟩ := k0; exact DataW.trod_lt m _ _ _ hm
  obtain ⟨a0, len0, cap0, rfl⟩ := okWide_slice Try.underlying37 (hval 0 37 v0 rfl rfl)
  obtain ⟨z0, w0⟩ := open_row h0
  clear hA0 hval0
  refine (ex_any W a0 len0 cap0 z0 w0).mono fun e W' ⟨he, bel⟩ => ?_
  subst he
  exact ⟨_, rfl, _, _, _, [], _, [], hW', trodAll_mk1 (shut_bool Try.underlying4 _), (trodAll_cons_mk (Below.trod laidOut (by kernel_rfl) (of_decide_eq_true (by kernel_rfl)) k0 bel lt0) trodAll_mk0), rfl, bel.frame _, fun h => by cases h⟩
theorem over : Rows.fnExactMapOfRow.holds Try.pinned (OpenSpec.ofChange Rows.fnExactMapOfSpec) :=
  OpenClaim.holds_of_wide 6 Try.f6 rfl rfl rfl rfl rfl rfl rfl ⟨rfl, rfl, rfl, rfl, rfl⟩ rfl rfl rfl rfl rfl (by kernel_rfl) Try.func6 (by kernel_rfl)
    (of_decide_eq_true (by kernel_rfl)) (by unfold Func.isWrapper; rw [if_neg (of_decide_eq_false (by kernel_rfl))]; exact ⟨rfl, rfl⟩)
    (fun os started H enc _ => lifted os started H enc)
/-- The statement of FnExactMapOf. -/
theorem proved : Rows.FnExactMapOfSaid := over
#print axioms proved
end LFnExactMapOf

end Go.Proofs.Ytlfoaicfmobhjaa
