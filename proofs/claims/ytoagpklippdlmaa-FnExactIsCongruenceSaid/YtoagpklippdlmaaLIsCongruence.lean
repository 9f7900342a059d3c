/- The law FnExactIsCongruence is true at every input: impl.IsCongruence and spec.IsCongruence give the same truth and the same code, and the lists that came in stay as they were. No conditions. -/
import Derived.Test.YtoagpklippdlmaaMk
import Derived.Test.YtoagpklippdlmaaIcg
import Derived.Test.YtoagpklippdlmaaRowM
import Derived.Test.YtoagpklippdlmaaRowS
import Derived.Test.YtoagpklippdlmaaMark
import Derived.Test.YtoagpklippdlmaaSl
namespace Go.Proofs.Ytoagpklippdlmaa
open Go.ChangeShapes Go.WideShapes Go.ChangeAt Go.RowKit
namespace LFnExactIsCongruence

set_option maxRecDepth 100000 in
set_option maxHeartbeats 4000000 in
theorem ex_any (w : World) (a1 : Option Addr) (len1 cap1 : Nat) (L : List MapN) (hw1 : L.length = len1 ∧ InRowM w a1 L ∧ (a1 = none → cap1 = 0) ∧ len1 ≤ maxLen) (a2 : Option Addr) (len2 cap2 : Nat) (X : List Int) (hw2 : X.length = len2 ∧ InRow w a2 X) (wf2 : ∀ x ∈ X, (Lit.int .i64 x).wf = true) :
    Calls Try.prog 6 #[.slice a1 len1 cap1, .slice a2 len2 cap2] w fun e w' => e = .returned (.bool true) ∧ Below w.heap.size w w' := by
  obtain ⟨rfl, h1, _, h91⟩ := hw1
  have HM1 := Lib.hid h1
  have H91 := Lib.hid h91
  clear h1 h91
  obtain ⟨rfl, h2⟩ := hw2
  have HM2 := Lib.hid h2
  clear h2
  by_cases hl2 : X.length ≤ 1048576
  · have hng2 : ¬ (1048576 < (X.length : Int)) := by omega
    by_cases hl1 : L.length ≤ 1048576
    · have hng1 : ¬ ((1048576 : Int) - (L.length : Int) < 0) := by omega
      obtain ⟨P, C, hV⟩ : ∃ P C, icV true L X = .tuple #[.bool P, .int .i64 C] := ⟨_, _, rfl⟩
      have HS := fun w (g1 : Nat) (g2 : Nat) h1 h2 => sisc_v L hl1 X hl2 wf2 (some ⟨g1, 0, none⟩) L.length (fun e => by cases e) (some ⟨g2, 0, none⟩) X.length w h1 h2
      have HI := fun w (g1 : Nat) (g2 : Nat) h1 h2 => iisc_v L hl1 X hl2 wf2 (some ⟨g1, 0, none⟩) L.length (fun e => by cases e) (some ⟨g2, 0, none⟩) X.length w h1 h2
      rw [hV] at HS HI
      clear hV
      have HS := Lib.hid HS
      have HI := Lib.hid HI
      go_enter Try.func6, Try.ntmps6
      go_wp2_with (go_at_call 13; (with_reducible refine (sz_any L.length a1 cap1 hl1 _).mono ?_); rintro e w ⟨rfl, rfl⟩)
      refine (toMS_any L hl1 a1 cap1 _ HM1.out).mono ?_
      rintro e wab ⟨_, rfl, hr, hb, rfl, hgrwab⟩
      obtain ⟨hc, hf⟩ := bcell hb
      have hzwab := hb.size
      have HBwab := Lib.hid hb
      (try simp at hzwab hc hf)
      have hlwab : w.heap.size ≤ wab.heap.size := (by omega)
      (try simp only [World.size_alloc] at hr)
      have Rwab := Lib.hid hr
      clear hb hf hr
      go_wp2_with fail
      refine (toS_any X hl2 a2 cap2 _ (HM2.out.below (by (repeat' (first | (with_reducible exact Below.refl _ _) | (with_reducible refine Below.alloc ?_ ?_ _) | (with_reducible refine Below.setCell ?_ ?_ _) | (with_reducible refine Below.drew ?_) | (with_reducible refine below_drewN ?_ _) | (with_reducible refine Below.trans ?_ (Below.mono (Hid.out (by assumption)) ?_)) | omega | (simp; done) | (simp; omega)))))).mono ?_
      rintro e wac ⟨_, rfl, hr, hb, rfl, hgrwac⟩
      obtain ⟨hc, hf⟩ := bcell hb
      have hzwac := hb.size
      have HBwac := Lib.hid hb
      (try simp at hzwac hc hf)
      have hlwac : w.heap.size ≤ wac.heap.size := (by omega)
      (try simp only [World.size_alloc] at hr)
      have Rwac := Lib.hid hr
      clear hb hf hr
      have Y0 : Hid (RdM wac _ _ L) := Lib.hid (Rwab.out.below (by (repeat' (first | (with_reducible exact Below.refl _ _) | (with_reducible refine Below.alloc ?_ ?_ _) | (with_reducible refine Below.setCell ?_ ?_ _) | (with_reducible refine Below.drew ?_) | (with_reducible refine below_drewN ?_ _) | (with_reducible refine Below.trans ?_ (Below.mono (Hid.out (by assumption)) ?_)) | omega | (simp; done) | (simp; omega)))))
      go_wp2_with fail
      refine (HS.out _ _ _ Y0.out.inRow Rwac.out.inRow).mono ?_
      rintro e wad ⟨rfl, hb⟩
      obtain ⟨hc, hf⟩ := bcell hb
      have hzwad := hb.size
      have HBwad := Lib.hid hb
      (try simp at hzwad hc hf)
      have hlwad : w.heap.size < wad.heap.size := (by omega)
      clear hb hf
      go_wp2_with fail
      refine (toMS_any L hl1 a1 cap1 _ (HM1.out.below (by (repeat' (first | (with_reducible exact Below.refl _ _) | (with_reducible refine Below.alloc ?_ ?_ _) | (with_reducible refine Below.setCell ?_ ?_ _) | (with_reducible refine Below.drew ?_) | (with_reducible refine below_drewN ?_ _) | (with_reducible refine Below.trans ?_ (Below.mono (Hid.out (by assumption)) ?_)) | omega | (simp; done) | (simp; omega)))))).mono ?_
      rintro e wae ⟨_, rfl, hr, hb, rfl, hgrwae⟩
      obtain ⟨hc, hf⟩ := bcell hb
      have hzwae := hb.size
      have HBwae := Lib.hid hb
      (try simp at hzwae hc hf)
      have hlwae : w.heap.size ≤ wae.heap.size := (by omega)
      (try simp only [World.size_alloc] at hr)
      have Rwae := Lib.hid hr
      clear hb hf hr
      go_wp2_with fail
      refine (toS_any X hl2 a2 cap2 _ (HM2.out.below (by (repeat' (first | (with_reducible exact Below.refl _ _) | (with_reducible refine Below.alloc ?_ ?_ _) | (with_reducible refine Below.setCell ?_ ?_ _) | (with_reducible refine Below.drew ?_) | (with_reducible refine below_drewN ?_ _) | (with_reducible refine Below.trans ?_ (Below.mono (Hid.out (by assumption)) ?_)) | omega | (simp; done) | (simp; omega)))))).mono ?_
      rintro e wba ⟨_, rfl, hr, hb, rfl, hgrwba⟩
      obtain ⟨hc, hf⟩ := bcell hb
      have hzwba := hb.size
      have HBwba := Lib.hid hb
      (try simp at hzwba hc hf)
      have hlwba : w.heap.size ≤ wba.heap.size := (by omega)
      (try simp only [World.size_alloc] at hr)
      have Rwba := Lib.hid hr
      clear hb hf hr
      have Y1 : Hid (RdM wba _ _ L) := Lib.hid (Rwae.out.below (by (repeat' (first | (with_reducible exact Below.refl _ _) | (with_reducible refine Below.alloc ?_ ?_ _) | (with_reducible refine Below.setCell ?_ ?_ _) | (with_reducible refine Below.drew ?_) | (with_reducible refine below_drewN ?_ _) | (with_reducible refine Below.trans ?_ (Below.mono (Hid.out (by assumption)) ?_)) | omega | (simp; done) | (simp; omega)))))
      go_wp2_with fail
      refine (HI.out _ _ _ Y1.out.inRow Rwba.out.inRow).mono ?_
      rintro e wbb ⟨rfl, hb⟩
      obtain ⟨hc, hf⟩ := bcell hb
      have hzwbb := hb.size
      have HBwbb := Lib.hid hb
      (try simp at hzwbb hc hf)
      have hlwbb : w.heap.size < wbb.heap.size := (by omega)
      clear hb hf
      go_wp2_with fail
      refine (toMS_any L hl1 a1 cap1 _ (HM1.out.below (by (repeat' (first | (with_reducible exact Below.refl _ _) | (with_reducible refine Below.alloc ?_ ?_ _) | (with_reducible refine Below.setCell ?_ ?_ _) | (with_reducible refine Below.drew ?_) | (with_reducible refine below_drewN ?_ _) | (with_reducible refine Below.trans ?_ (Below.mono (Hid.out (by assumption)) ?_)) | omega | (simp; done) | (simp; omega)))))).mono ?_
      rintro e wbc ⟨_, rfl, hr, hb, rfl, hgrwbc⟩
      obtain ⟨hc, hf⟩ := bcell hb
      have hzwbc := hb.size
      have HBwbc := Lib.hid hb
      (try simp at hzwbc hc hf)
      have hlwbc : w.heap.size ≤ wbc.heap.size := (by omega)
      (try simp only [World.size_alloc] at hr)
      have Rwbc := Lib.hid hr
      clear hb hf hr
      have Y2 : Hid (RdM wbc _ _ L) := Lib.hid (Rwae.out.below (by (repeat' (first | (with_reducible exact Below.refl _ _) | (with_reducible refine Below.alloc ?_ ?_ _) | (with_reducible refine Below.setCell ?_ ?_ _) | (with_reducible refine Below.drew ?_) | (with_reducible refine below_drewN ?_ _) | (with_reducible refine Below.trans ?_ (Below.mono (Hid.out (by assumption)) ?_)) | omega | (simp; done) | (simp; omega)))))
      go_wp2_with fail
      refine (eqMS_same L _ _ L.length L.length (by omega) _ Y2.out.inRow Rwbc.out.inRow).mono ?_
      rintro e wbd ⟨rfl, hb⟩
      obtain ⟨hc, hf⟩ := bcell hb
      have hzwbd := hb.size
      have HBwbd := Lib.hid hb
      (try simp at hzwbd hc hf)
      have hlwbd : w.heap.size < wbd.heap.size := (by omega)
      clear hb hf
      go_wp2_with fail
      refine (toS_any X hl2 a2 cap2 _ (HM2.out.below (by (repeat' (first | (with_reducible exact Below.refl _ _) | (with_reducible refine Below.alloc ?_ ?_ _) | (with_reducible refine Below.setCell ?_ ?_ _) | (with_reducible refine Below.drew ?_) | (with_reducible refine below_drewN ?_ _) | (with_reducible refine Below.trans ?_ (Below.mono (Hid.out (by assumption)) ?_)) | omega | (simp; done) | (simp; omega)))))).mono ?_
      rintro e wbe ⟨_, rfl, hr, hb, rfl, hgrwbe⟩
      obtain ⟨hc, hf⟩ := bcell hb
      have hzwbe := hb.size
      have HBwbe := Lib.hid hb
      (try simp at hzwbe hc hf)
      have hlwbe : w.heap.size ≤ wbe.heap.size := (by omega)
      (try simp only [World.size_alloc] at hr)
      have Rwbe := Lib.hid hr
      clear hb hf hr
      have Y3 : Hid (Rd wbe _ _ X) := Lib.hid (Rwba.out.below (by (repeat' (first | (with_reducible exact Below.refl _ _) | (with_reducible refine Below.alloc ?_ ?_ _) | (with_reducible refine Below.setCell ?_ ?_ _) | (with_reducible refine Below.drew ?_) | (with_reducible refine below_drewN ?_ _) | (with_reducible refine Below.trans ?_ (Below.mono (Hid.out (by assumption)) ?_)) | omega | (simp; done) | (simp; omega)))))
      go_wp2_with fail
      refine (eqS_same X _ _ X.length X.length _ _ _ Y3.out Rwbe.out).mono ?_
      rintro e wca ⟨rfl, hb⟩
      obtain ⟨hc, hf⟩ := bcell hb
      have hzwca := hb.size
      have HBwca := Lib.hid hb
      (try simp at hzwca hc hf)
      have hlwca : w.heap.size < wca.heap.size := (by omega)
      clear hb hf
      go_wp2_with fail
      go_ret
      refine ⟨rfl, ?_⟩
      (repeat' (first | (with_reducible exact Below.refl _ _) | (with_reducible refine Below.alloc ?_ ?_ _) | (with_reducible refine Below.setCell ?_ ?_ _) | (with_reducible refine Below.drew ?_) | (with_reducible refine below_drewN ?_ _) | (with_reducible refine Below.trans ?_ (Below.mono (Hid.out (by assumption)) ?_)) | omega | (simp; done) | (simp; omega)))
    · have hbig : 1048576 < L.length := by omega
      go_enter Try.func6, Try.ntmps6
      go_wp2_with (go_at_call 13; (with_reducible refine (sz_big L.length a1 cap1 hbig H91.out _).mono ?_); rintro e w ⟨rfl, rfl⟩)
      go_ret
      exact ⟨rfl, Below.refl _ _⟩
  · have hbig : 1048576 < (X.length : Int) := by omega
    go_enter Try.func6, Try.ntmps6
    go_wp2_with fail
    go_ret
    exact ⟨rfl, Below.refl _ _⟩

end LFnExactIsCongruence

namespace LFnExactIsCongruence
set_option maxRecDepth 100000 in
theorem lifted (os : Os) (started : os.Started) (H : Type) (enc : TypeId × Value → H) :
    ReturnsInHanded {} Try.checked os 6 .any (Rows.fnExactIsCongruenceSpec.pre6 enc Try.prog Try.f6 Rows.fnExactIsCongruenceRow.domain false) (Rows.fnExactIsCongruenceSpec.post enc Try.prog Try.f6 false true false false) := by
  refine returnsInHanded_of_change (C := Try.checked) own started (by kernel_rfl) Try.func6
    (ChangeSpec.witness6 (enc := enc) (C := Try.checked) false ⟨#[], #[.slice none 0 0, .slice none 0 0], []⟩ 8 (by kernel_rfl) (by kernel_rfl) (by kernel_rfl) (by kernel_rfl)) ?_
  intro W base args ds gs before hval0 hW _ _
  have hval : ∀ (j : Nat) t v, Try.f6.params[j]? = some t → args[j]? = some v → Value.okWide Try.prog W .any base t v := hval0
  have hW' := hW
  obtain ⟨p, q, hA0, hV, rfl, hfz, hnd⟩ := hW
  have hA : DataW.TrodAll enc Try.prog W 0 (fun _ => true) true Try.f6.params.toList args.toList ds p := hA0
  rw [Try.params6] at hA hval
  obtain ⟨v0, vs0, d0, ds0, p0, q0, hargs, rfl, rfl, h0, r0⟩ := trodAll_cons hA
  obtain ⟨v1, vs1, d1, ds1, p1, q1, rfl, rfl, rfl, h1, r1⟩ := trodAll_cons r0
  obtain ⟨rfl, rfl, rfl⟩ := trodAll_nil r1
  obtain rfl : args = #[v0, v1] := by cases args; simp_all
  obtain ⟨rfl, rfl⟩ := trodVars_none hV
  have k0 := h0
  have lt0 : ∀ x ∈ p0, x.block < W.heap.size := by obtain ⟨m, hm⟩ := k0; exact DataW.trod_lt m _ _ _ hm
  obtain ⟨a0, len0, cap0, rfl⟩ := okWide_slice Try.underlying22 (hval 0 22 v0 rfl rfl)
  obtain ⟨z0, w0⟩ := open_rowM h0
  have k1 := h1
  have lt1 : ∀ x ∈ p1, x.block < W.heap.size := by obtain ⟨m, hm⟩ := k1; exact DataW.trod_lt m _ _ _ hm
  obtain ⟨a1, len1, cap1, rfl⟩ := okWide_slice Try.underlying26 (hval 1 26 v1 rfl rfl)
  obtain ⟨z1, w1, u1⟩ := open_rowW h1
  clear hA0 hval0
  refine (ex_any W a0 len0 cap0 z0 w0 a1 len1 cap1 z1 w1 u1).mono fun e W' ⟨he, bel⟩ => ?_
  subst he
  exact ⟨_, rfl, _, _, _, [], _, [], hW', trodAll_mk1 (shut_bool Try.underlying4 _), (trodAll_cons_mk (Below.trod laidOut (by kernel_rfl) (of_decide_eq_true (by kernel_rfl)) k0 bel lt0) (trodAll_cons_mk (Below.trod laidOut (by kernel_rfl) (of_decide_eq_true (by kernel_rfl)) k1 bel lt1) trodAll_mk0)), rfl, bel.frame _, fun h => by cases h⟩
theorem joined : joinedFacts Try.pinned.checked.prog 6 Try.f6 Rows.fnExactIsCongruenceSpec Rows.fnExactIsCongruenceRow = true := by
  unfold joinedFacts
  simp only [Bool.and_eq_true]
  repeat' apply And.intro
  iterate 25 kernel_rfl
  exact mk_enter
  exact mk_lifts
  exact mk_make
  iterate 4 kernel_rfl
theorem over : Rows.fnExactIsCongruenceRow.holds Try.pinned (OpenSpec.ofChange Rows.fnExactIsCongruenceSpec) :=
  OpenClaim.holds_of_wide 6 Try.f6 rfl rfl rfl rfl rfl rfl rfl ⟨rfl, rfl, rfl, rfl, rfl⟩ rfl rfl rfl rfl rfl (by kernel_rfl) Try.func6 joined
    (of_decide_eq_true (by kernel_rfl)) (by unfold Func.isWrapper; rw [if_neg (of_decide_eq_false (by kernel_rfl))]; exact ⟨rfl, rfl⟩)
    (fun os started H enc _ => lifted os started H enc)
/-- The statement of FnExactIsCongruence. -/
theorem proved : Rows.FnExactIsCongruenceSaid := over
#print axioms proved
end LFnExactIsCongruence

end Go.Proofs.Ytoagpklippdlmaa
