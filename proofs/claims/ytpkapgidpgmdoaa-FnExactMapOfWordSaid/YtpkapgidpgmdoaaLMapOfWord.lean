/- The law FnExactMapOfWord is true at every input: impl.MapOfWord and spec.MapOfWord give the same code and the same map, and the lists that came in stay as they were. No conditions. -/
import Derived.Test.YtpkapgidpgmdoaaMk
import Derived.Test.YtpkapgidpgmdoaaBase
import Derived.Test.YtpkapgidpgmdoaaMows
import Derived.Test.YtpkapgidpgmdoaaRowM
import Derived.Test.YtpkapgidpgmdoaaRowS
import Derived.Test.YtpkapgidpgmdoaaSl
namespace Go.Proofs.Ytpkapgidpgmdoaa
open Go.ChangeShapes Go.WideShapes Go.ChangeAt Go.RowKit
namespace LFnExactMapOfWord

set_option maxRecDepth 100000 in
set_option maxHeartbeats 1000000 in
theorem ex_any (w : World) (a1 : Option Addr) (len1 cap1 : Nat) (L : List MapN) (hw1 : L.length = len1 ∧ InRowM w a1 L ∧ (a1 = none → cap1 = 0) ∧ len1 ≤ maxLen) (a2 : Option Addr) (len2 cap2 : Nat) (W : List Int) (hw2 : W.length = len2 ∧ InRow w a2 W) :
    Calls Try.prog 6 #[.slice a1 len1 cap1, .slice a2 len2 cap2] w fun e w' => e = .returned (.bool true) ∧ Below w.heap.size w w' := by
  obtain ⟨rfl, h1, _, h9⟩ := hw1
  obtain ⟨rfl, h2⟩ := hw2
  have HM := Lib.hid h1
  have HN := Lib.hid h2
  have H9 := Lib.hid h9
  clear h1 h2 h9
  by_cases hW : W.length ≤ 1048576
  · have hgt : ¬ (1048576 < (W.length : Int)) := by omega
    by_cases hL : L.length ≤ 1048576
    · have hng : ¬ ((1048576 : Int) - (L.length : Int) < 0) := by omega
      obtain ⟨P, T, C, hV⟩ : ∃ P T C, mowV L W = .tuple #[mv P T, .int .i64 C] := ⟨_, _, _, rfl⟩
      have HS := fun w (g1 g2 : Nat) h1 h2 => sMow_any (some ⟨g1, 0, none⟩) (some ⟨g2, 0, none⟩) L.length W.length L W hL hW w h1 h2
      have HI := fun w (g1 g2 : Nat) h1 h2 => iMow_any (some ⟨g1, 0, none⟩) (some ⟨g2, 0, none⟩) L.length W.length L W (fun e => by cases e) hL hW w h1 h2
      rw [hV] at HS HI
      clear hV
      have HS := Lib.hid HS
      have HI := Lib.hid HI
      go_enter Try.func6, Try.ntmps6
      go_wp2_with (go_at_call 19; (with_reducible refine (sz_any L.length a1 cap1 hL _).mono ?_); rintro e w ⟨rfl, rfl⟩)
      refine (toMS_any L hL a1 cap1 _ HM.out).mono ?_
      rintro e wa ⟨_, rfl, hr, hb, rfl, hgrwa⟩
      obtain ⟨hc, hf⟩ := bcell hb
      have hzwa := hb.size
      have HBwa := Lib.hid hb
      (try simp at hzwa hc hf)
      have hlwa : w.heap.size ≤ wa.heap.size := (by omega)
      (try simp only [World.size_alloc] at hr)
      have Rwa := Lib.hid hr
      clear hr
      clear hb hf
      go_wp2_with fail
      refine (toS_any W hW a2 cap2 _ (HN.out.below (by (repeat' (first | (with_reducible exact Below.refl _ _) | (with_reducible refine Below.alloc ?_ ?_ _) | (with_reducible refine Below.setCell ?_ ?_ _) | (with_reducible refine Below.drew ?_) | (with_reducible refine below_drewN ?_ _) | (with_reducible refine Below.trans ?_ (Below.mono (Hid.out (by assumption)) ?_)) | omega | (simp; done) | (simp; omega)))))).mono ?_
      rintro e wb ⟨_, rfl, hr, hb, rfl, hgrwb⟩
      obtain ⟨hc, hf⟩ := bcell hb
      have hzwb := hb.size
      have HBwb := Lib.hid hb
      (try simp at hzwb hc hf)
      have hlwb : w.heap.size ≤ wb.heap.size := (by omega)
      (try simp only [World.size_alloc] at hr)
      have Rwb := Lib.hid hr
      clear hr
      clear hb hf
      have X0 : Hid (RdM wb w.heap.size (some ⟨w.heap.size, 0, none⟩) L) := Lib.hid (Rwa.out.below (by (repeat' (first | (with_reducible exact Below.refl _ _) | (with_reducible refine Below.alloc ?_ ?_ _) | (with_reducible refine Below.setCell ?_ ?_ _) | (with_reducible refine Below.drew ?_) | (with_reducible refine below_drewN ?_ _) | (with_reducible refine Below.trans ?_ (Below.mono (Hid.out (by assumption)) ?_)) | omega | (simp; done) | (simp; omega)))))
      go_wp2_with fail
      refine (HS.out _ _ _ X0.out.inRow Rwb.out.inRow).mono ?_
      rintro e wc ⟨rfl, hb⟩
      obtain ⟨hc, hf⟩ := bcell hb
      have hzwc := hb.size
      have HBwc := Lib.hid hb
      (try simp at hzwc hc hf)
      have hlwc : w.heap.size ≤ wc.heap.size := (by omega)
      clear hb hf
      simp only [mv, mcells]
      have hcc : wc.heap.size < (wc.alloc (.cells (mcells P T) 39)).heap.size := by simp
      go_wp2_with fail
      refine (toMS_any L hL a1 cap1 _ (HM.out.below (by (repeat' (first | (with_reducible exact Below.refl _ _) | (with_reducible refine Below.alloc ?_ ?_ _) | (with_reducible refine Below.setCell ?_ ?_ _) | (with_reducible refine Below.drew ?_) | (with_reducible refine below_drewN ?_ _) | (with_reducible refine Below.trans ?_ (Below.mono (Hid.out (by assumption)) ?_)) | omega | (simp; done) | (simp; omega)))))).mono ?_
      rintro e wd ⟨_, rfl, hr, hb, rfl, hgrwd⟩
      obtain ⟨hc, hf⟩ := bcell hb
      have hzwd := hb.size
      have HBwd := Lib.hid hb
      (try simp at hzwd hc hf)
      have hlwd : w.heap.size ≤ wd.heap.size := (by omega)
      (try simp only [World.size_alloc] at hr)
      have Rwd := Lib.hid hr
      clear hr
      clear hb hf
      have hcd : wc.heap.size < wd.heap.size := (by omega)
      go_wp2_with fail
      refine (toS_any W hW a2 cap2 _ (HN.out.below (by (repeat' (first | (with_reducible exact Below.refl _ _) | (with_reducible refine Below.alloc ?_ ?_ _) | (with_reducible refine Below.setCell ?_ ?_ _) | (with_reducible refine Below.drew ?_) | (with_reducible refine below_drewN ?_ _) | (with_reducible refine Below.trans ?_ (Below.mono (Hid.out (by assumption)) ?_)) | omega | (simp; done) | (simp; omega)))))).mono ?_
      rintro e we ⟨_, rfl, hr, hb, rfl, hgrwe⟩
      obtain ⟨hc, hf⟩ := bcell hb
      have hzwe := hb.size
      have HBwe := Lib.hid hb
      (try simp at hzwe hc hf)
      have hlwe : w.heap.size ≤ we.heap.size := (by omega)
      (try simp only [World.size_alloc] at hr)
      have Rwe := Lib.hid hr
      clear hr
      clear hb hf
      have hce : wc.heap.size < we.heap.size := (by omega)
      have X1 : Hid (RdM we _ _ L) := Lib.hid (Rwd.out.below (by (repeat' (first | (with_reducible exact Below.refl _ _) | (with_reducible refine Below.alloc ?_ ?_ _) | (with_reducible refine Below.setCell ?_ ?_ _) | (with_reducible refine Below.drew ?_) | (with_reducible refine below_drewN ?_ _) | (with_reducible refine Below.trans ?_ (Below.mono (Hid.out (by assumption)) ?_)) | omega | (simp; done) | (simp; omega)))))
      go_wp2_with fail
      refine (HI.out _ _ _ X1.out.inRow Rwe.out.inRow).mono ?_
      rintro e wf ⟨rfl, hb⟩
      obtain ⟨hc, hf⟩ := bcell hb
      have hzwf := hb.size
      have HBwf := Lib.hid hb
      (try simp at hzwf hc hf)
      have hlwf : w.heap.size ≤ wf.heap.size := (by omega)
      clear hb hf
      simp only [mv, mcells]
      have hcf : wc.heap.size < wf.heap.size := (by omega)
      go_wp2_with fail
      refine (eqMap_same P T _).mono ?_
      rintro e wg ⟨rfl, hb⟩
      obtain ⟨hc, hf⟩ := bcell hb
      have hzwg := hb.size
      have HBwg := Lib.hid hb
      (try simp at hzwg hc hf)
      have hlwg : w.heap.size ≤ wg.heap.size := (by omega)
      clear hb hf
      go_wp2_with fail
      refine (toMS_any L hL a1 cap1 _ (HM.out.below (by (repeat' (first | (with_reducible exact Below.refl _ _) | (with_reducible refine Below.alloc ?_ ?_ _) | (with_reducible refine Below.setCell ?_ ?_ _) | (with_reducible refine Below.drew ?_) | (with_reducible refine below_drewN ?_ _) | (with_reducible refine Below.trans ?_ (Below.mono (Hid.out (by assumption)) ?_)) | omega | (simp; done) | (simp; omega)))))).mono ?_
      rintro e wh ⟨_, rfl, hr, hb, rfl, hgrwh⟩
      obtain ⟨hc, hf⟩ := bcell hb
      have hzwh := hb.size
      have HBwh := Lib.hid hb
      (try simp at hzwh hc hf)
      have hlwh : w.heap.size ≤ wh.heap.size := (by omega)
      (try simp only [World.size_alloc] at hr)
      have Rwh := Lib.hid hr
      clear hr
      clear hb hf
      have X2 : Hid (RdM wh _ _ L) := Lib.hid (Rwd.out.below (by (repeat' (first | (with_reducible exact Below.refl _ _) | (with_reducible refine Below.alloc ?_ ?_ _) | (with_reducible refine Below.setCell ?_ ?_ _) | (with_reducible refine Below.drew ?_) | (with_reducible refine below_drewN ?_ _) | (with_reducible refine Below.trans ?_ (Below.mono (Hid.out (by assumption)) ?_)) | omega | (simp; done) | (simp; omega)))))
      go_wp2_with fail
      refine (eqMS_same L _ _ L.length L.length (by omega) _ X2.out.inRow Rwh.out.inRow).mono ?_
      rintro e wi ⟨rfl, hb⟩
      obtain ⟨hc, hf⟩ := bcell hb
      have hzwi := hb.size
      have HBwi := Lib.hid hb
      (try simp at hzwi hc hf)
      have hlwi : w.heap.size ≤ wi.heap.size := (by omega)
      clear hb hf
      go_wp2_with fail
      refine (toS_any W hW a2 cap2 _ (HN.out.below (by (repeat' (first | (with_reducible exact Below.refl _ _) | (with_reducible refine Below.alloc ?_ ?_ _) | (with_reducible refine Below.setCell ?_ ?_ _) | (with_reducible refine Below.drew ?_) | (with_reducible refine below_drewN ?_ _) | (with_reducible refine Below.trans ?_ (Below.mono (Hid.out (by assumption)) ?_)) | omega | (simp; done) | (simp; omega)))))).mono ?_
      rintro e wj ⟨_, rfl, hr, hb, rfl, hgrwj⟩
      obtain ⟨hc, hf⟩ := bcell hb
      have hzwj := hb.size
      have HBwj := Lib.hid hb
      (try simp at hzwj hc hf)
      have hlwj : w.heap.size ≤ wj.heap.size := (by omega)
      (try simp only [World.size_alloc] at hr)
      have Rwj := Lib.hid hr
      clear hr
      clear hb hf
      have X3 : Hid (Rd wj _ _ W) := Lib.hid (Rwe.out.below (by (repeat' (first | (with_reducible exact Below.refl _ _) | (with_reducible refine Below.alloc ?_ ?_ _) | (with_reducible refine Below.setCell ?_ ?_ _) | (with_reducible refine Below.drew ?_) | (with_reducible refine below_drewN ?_ _) | (with_reducible refine Below.trans ?_ (Below.mono (Hid.out (by assumption)) ?_)) | omega | (simp; done) | (simp; omega)))))
      go_wp2_with fail
      refine (eqS_same W _ _ W.length W.length _ _ _ X3.out Rwj.out).mono ?_
      rintro e wk ⟨rfl, hb⟩
      obtain ⟨hc, hf⟩ := bcell hb
      have hzwk := hb.size
      have HBwk := Lib.hid hb
      (try simp at hzwk hc hf)
      have hlwk : w.heap.size ≤ wk.heap.size := (by omega)
      clear hb hf
      go_wp2_with fail
      go_ret
      refine ⟨rfl, ?_⟩
      (repeat' (first | (with_reducible exact Below.refl _ _) | (with_reducible refine Below.alloc ?_ ?_ _) | (with_reducible refine Below.setCell ?_ ?_ _) | (with_reducible refine Below.drew ?_) | (with_reducible refine below_drewN ?_ _) | (with_reducible refine Below.trans ?_ (Below.mono (Hid.out (by assumption)) ?_)) | omega | (simp; done) | (simp; omega)))
    · have hbig : 1048576 < L.length := by omega
      go_enter Try.func6, Try.ntmps6
      go_wp2_with (go_at_call 19; (with_reducible refine (sz_big L.length a1 cap1 hbig H9.out _).mono ?_); rintro e w ⟨rfl, rfl⟩)
      go_ret
      exact ⟨rfl, Below.refl _ _⟩
  · have hgt : 1048576 < (W.length : Int) := by omega
    go_enter Try.func6, Try.ntmps6
    go_wp2_with fail
    go_ret
    exact ⟨rfl, Below.refl _ _⟩

end LFnExactMapOfWord

namespace LFnExactMapOfWord
set_option maxRecDepth 100000 in
theorem lifted (os : Os) (started : os.Started) (H : Type) (enc : TypeId × Value → H) :
    ReturnsInHanded {} Try.checked os 6 .any (Rows.fnExactMapOfWordSpec.pre6 enc Try.prog Try.f6 Rows.fnExactMapOfWordRow.domain false) (Rows.fnExactMapOfWordSpec.post enc Try.prog Try.f6 false true false false) := by
  refine returnsInHanded_of_change (C := Try.checked) own started (by kernel_rfl) Try.func6
    (ChangeSpec.witness6 (enc := enc) (C := Try.checked) false ⟨#[], #[.slice none 0 0, .slice none 0 0], []⟩ 8 (by kernel_rfl) (by kernel_rfl) (by kernel_rfl) (by kernel_rfl)) ?_
  intro W base args ds gs before hval0 hW _ _
  have hval : ∀ (j : Nat) t v, Try.f6.params[j]? = some t → args[j]? = some v → Value.okWide Try.prog W .any base t v := hval0
  have hW' := hW
  obtain ⟨p, q, hA0, hV, rfl, hfz, hnd⟩ := hW
  have hA : DataW.TrodAll enc Try.prog W 0 (fun _ => true) true Try.f6.params.toList args.toList ds p := hA0
  rw [Try.params6] at hA hval
  obtain ⟨v0, vs0, d0, ds0, p0, q0, hargs, rfl, rfl, h0, r0⟩ := trodAll_cons hA
  obtain ⟨v1, vs1, d1, ds1, p1, q1, rfl, rfl, rfl, h1, r1⟩ := trodAll_cons r0
  obtain ⟨rfl, rfl, rfl⟩ := trodAll_nil r1
  obtain rfl : args = #[v0, v1] := by cases args; simp_all
  obtain ⟨rfl, rfl⟩ := trodVars_none hV
  have k0 := h0
  have lt0 : ∀ x ∈ p0, x.block < W.heap.size := by obtain ⟨m, hm⟩ := k0; exact DataW.trod_lt m _ _ _ hm
  obtain ⟨a0, len0, cap0, rfl⟩ := okWide_slice Try.underlying22 (hval 0 22 v0 rfl rfl)
  obtain ⟨z0, w0⟩ := open_rowM h0
  have k1 := h1
  have lt1 : ∀ x ∈ p1, x.block < W.heap.size := by obtain ⟨m, hm⟩ := k1; exact DataW.trod_lt m _ _ _ hm
  obtain ⟨a1, len1, cap1, rfl⟩ := okWide_slice Try.underlying36 (hval 1 36 v1 rfl rfl)
  obtain ⟨z1, w1⟩ := open_row h1
  clear hA0 hval0
  refine (ex_any W a0 len0 cap0 z0 w0 a1 len1 cap1 z1 w1).mono fun e W' ⟨he, bel⟩ => ?_
  subst he
  exact ⟨_, rfl, _, _, _, [], _, [], hW', trodAll_mk1 (shut_bool Try.underlying4 _), (trodAll_cons_mk (Below.trod laidOut (by kernel_rfl) (of_decide_eq_true (by kernel_rfl)) k0 bel lt0) (trodAll_cons_mk (Below.trod laidOut (by kernel_rfl) (of_decide_eq_true (by kernel_rfl)) k1 bel lt1) trodAll_mk0)), rfl, bel.frame _, fun h => by cases h⟩
theorem joined : joinedFacts Try.pinned.checked.prog 6 Try.f6 Rows.fnExactMapOfWordSpec Rows.fnExactMapOfWordRow = true := by
  unfold joinedFacts
  simp only [Bool.and_eq_true]
  repeat' apply And.intro
  iterate 25 kernel_rfl
  exact mk_enter
  exact mk_lifts
  exact mk_make
  iterate 4 kernel_rfl
theorem over : Rows.fnExactMapOfWordRow.holds Try.pinned (OpenSpec.ofChange Rows.fnExactMapOfWordSpec) :=
  OpenClaim.holds_of_wide 6 Try.f6 rfl rfl rfl rfl rfl rfl rfl ⟨rfl, rfl, rfl, rfl, rfl⟩ rfl rfl rfl rfl rfl (by kernel_rfl) Try.func6 joined
    (of_decide_eq_true (by kernel_rfl)) (by unfold Func.isWrapper; rw [if_neg (of_decide_eq_false (by kernel_rfl))]; exact ⟨rfl, rfl⟩)
    (fun os started H enc _ => lifted os started H enc)
/-- The statement of FnExactMapOfWord. -/
theorem proved : Rows.FnExactMapOfWordSaid := over
#print axioms proved
end LFnExactMapOfWord

end Go.Proofs.Ytpkapgidpgmdoaa
