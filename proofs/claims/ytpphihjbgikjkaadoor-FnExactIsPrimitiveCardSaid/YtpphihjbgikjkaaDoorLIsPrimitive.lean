/- The law FnExactIsPrimitive is true at every input: impl.IsPrimitive and spec.IsPrimitive give the same answer and the same code, and the list that came in stays as it was. One condition, tied to the program's text by the card: the package's error lies in its variable as its initialiser lays it. -/
import Derived.Test.YtpphihjbgikjkaaDoorMk
import Derived.Test.YtpphihjbgikjkaaDoorPrv
import Derived.Test.YtpphihjbgikjkaaDoorRowM
import Derived.Test.YtpphihjbgikjkaaDoorMark
import Derived.Test.YtpphihjbgikjkaaDoorErp
import Derived.Test.YtpphihjbgikjkaaDoorCards
import Derived.Test.YtpphihjbgikjkaaDoorTie
import Derived.SevenTiedAt
namespace Go.Proofs.YtpphihjbgikjkaaDoor
open Go.ChangeShapes Go.WideShapes Go.ChangeAt Go.RowKit
namespace LFnExactIsPrimitive

set_option maxRecDepth 100000 in
set_option maxHeartbeats 4000000 in
theorem ex_any (w : World) (hER : Er w) (a1 : Option Addr) (len1 cap1 : Nat) (L : List MapN) (hw1 : L.length = len1 ∧ InRowM w a1 L ∧ (a1 = none → cap1 = 0) ∧ len1 ≤ maxLen) :
    Calls Tryd.prog 7 #[.slice a1 len1 cap1] w fun e w' => e = .returned (.bool true) ∧ Below w.heap.size w w' := by
  have HER := Lib.hid hER
  clear hER
  obtain ⟨rfl, h1, _, h91⟩ := hw1
  have HM1 := Lib.hid h1
  have H91 := Lib.hid h91
  clear h1 h91
  by_cases hl1 : L.length ≤ 1048576
  · have hng1 : ¬ ((1048576 : Int) - (L.length : Int) < 0) := by omega
    obtain ⟨B, C, hV⟩ : ∃ B C, prmV L = .tuple #[.bool B, .int .i64 C] := ⟨_, _, rfl⟩
    have HS := fun w (g1 : Nat) h1 => sPrm_any L hl1 (some ⟨g1, 0, none⟩) L.length (fun e => by cases e) w h1
    have HI := fun w (g1 : Nat) h1 he => iPrm_any L hl1 (some ⟨g1, 0, none⟩) L.length (fun e => by cases e) w h1 he
    rw [hV] at HS HI
    clear hV
    have HS := Lib.hid HS
    have HI := Lib.hid HI
    go_enter Tryd.func7, Tryd.ntmps7
    go_wp2_with (go_at_call 9; (with_reducible refine (sz_any L.length a1 cap1 hl1 _).mono ?_); rintro e w ⟨rfl, rfl⟩)
    refine (toMS_any L hl1 a1 cap1 _ HM1.out).mono ?_
    rintro e wab ⟨_, rfl, hr, hb, rfl, hgrwab⟩
    obtain ⟨hc, hf⟩ := bcell hb
    have hzwab := hb.size
    have HBwab := Lib.hid hb
    (try simp at hzwab hc hf)
    have hlwab : w.heap.size ≤ wab.heap.size := (by omega)
    (try simp only [World.size_alloc] at hr)
    have Rwab := Lib.hid hr
    clear hb hf hr
    go_wp2_with fail
    refine (HS.out _ _ Rwab.out.inRow).mono ?_
    rintro e wac ⟨rfl, hb⟩
    obtain ⟨hc, hf⟩ := bcell hb
    have hzwac := hb.size
    have HBwac := Lib.hid hb
    (try simp at hzwac hc hf)
    have hlwac : w.heap.size < wac.heap.size := (by omega)
    clear hb hf
    go_wp2_with fail
    refine (toMS_any L hl1 a1 cap1 _ (HM1.out.below (by (repeat' (first | (with_reducible exact Below.refl _ _) | (with_reducible refine Below.alloc ?_ ?_ _) | (with_reducible refine Below.setCell ?_ ?_ _) | (with_reducible refine Below.drew ?_) | (with_reducible refine below_drewN ?_ _) | (with_reducible refine Below.trans ?_ (Below.mono (Hid.out (by assumption)) ?_)) | omega | (simp; done) | (simp; omega)))))).mono ?_
    rintro e wad ⟨_, rfl, hr, hb, rfl, hgrwad⟩
    obtain ⟨hc, hf⟩ := bcell hb
    have hzwad := hb.size
    have HBwad := Lib.hid hb
    (try simp at hzwad hc hf)
    have hlwad : w.heap.size ≤ wad.heap.size := (by omega)
    (try simp only [World.size_alloc] at hr)
    have Rwad := Lib.hid hr
    clear hb hf hr
    go_wp2_with fail
    refine (HI.out _ _ Rwad.out.inRow (HER.out.bel (by (repeat' (first | (with_reducible exact Below.refl _ _) | (with_reducible refine Below.alloc ?_ ?_ _) | (with_reducible refine Below.setCell ?_ ?_ _) | (with_reducible refine Below.drew ?_) | (with_reducible refine below_drewN ?_ _) | (with_reducible refine Below.trans ?_ (Below.mono (Hid.out (by assumption)) ?_)) | omega | (simp; done) | (simp; omega)))))).mono ?_
    rintro e wae ⟨rfl, hb⟩
    obtain ⟨hc, hf⟩ := bcell hb
    have hzwae := hb.size
    have HBwae := Lib.hid hb
    (try simp at hzwae hc hf)
    have hlwae : w.heap.size < wae.heap.size := (by omega)
    clear hb hf
    go_wp2_with fail
    refine (toMS_any L hl1 a1 cap1 _ (HM1.out.below (by (repeat' (first | (with_reducible exact Below.refl _ _) | (with_reducible refine Below.alloc ?_ ?_ _) | (with_reducible refine Below.setCell ?_ ?_ _) | (with_reducible refine Below.drew ?_) | (with_reducible refine below_drewN ?_ _) | (with_reducible refine Below.trans ?_ (Below.mono (Hid.out (by assumption)) ?_)) | omega | (simp; done) | (simp; omega)))))).mono ?_
    rintro e wba ⟨_, rfl, hr, hb, rfl, hgrwba⟩
    obtain ⟨hc, hf⟩ := bcell hb
    have hzwba := hb.size
    have HBwba := Lib.hid hb
    (try simp at hzwba hc hf)
    have hlwba : w.heap.size ≤ wba.heap.size := (by omega)
    (try simp only [World.size_alloc] at hr)
    have Rwba := Lib.hid hr
    clear hb hf hr
    have Y0 : Hid (RdM wba _ _ L) := Lib.hid (Rwad.out.below (by (repeat' (first | (with_reducible exact Below.refl _ _) | (with_reducible refine Below.alloc ?_ ?_ _) | (with_reducible refine Below.setCell ?_ ?_ _) | (with_reducible refine Below.drew ?_) | (with_reducible refine below_drewN ?_ _) | (with_reducible refine Below.trans ?_ (Below.mono (Hid.out (by assumption)) ?_)) | omega | (simp; done) | (simp; omega)))))
    go_wp2_with fail
    refine (eqMS_same L _ _ L.length L.length (by omega) _ Y0.out.inRow Rwba.out.inRow).mono ?_
    rintro e wbb ⟨rfl, hb⟩
    obtain ⟨hc, hf⟩ := bcell hb
    have hzwbb := hb.size
    have HBwbb := Lib.hid hb
    (try simp at hzwbb hc hf)
    have hlwbb : w.heap.size < wbb.heap.size := (by omega)
    clear hb hf
    go_wp2_with fail
    go_ret
    refine ⟨rfl, ?_⟩
    (repeat' (first | (with_reducible exact Below.refl _ _) | (with_reducible refine Below.alloc ?_ ?_ _) | (with_reducible refine Below.setCell ?_ ?_ _) | (with_reducible refine Below.drew ?_) | (with_reducible refine below_drewN ?_ _) | (with_reducible refine Below.trans ?_ (Below.mono (Hid.out (by assumption)) ?_)) | omega | (simp; done) | (simp; omega)))
  · have hbig : 1048576 < L.length := by omega
    go_enter Tryd.func7, Tryd.ntmps7
    go_wp2_with (go_at_call 9; (with_reducible refine (sz_big L.length a1 cap1 hbig H91.out _).mono ?_); rintro e w ⟨rfl, rfl⟩)
    go_ret
    exact ⟨rfl, Below.refl _ _⟩

end LFnExactIsPrimitive

namespace LFnExactIsPrimitive
set_option maxRecDepth 100000 in
theorem lifted (os : Os) (started : os.Started) (H : Type) (enc : TypeId × Value → H) :
    ReturnsInHanded {} Tryd.checked os 7 .any (fun w args => (Rows.fnExactIsPrimitiveSpec.pre enc Tryd.prog Tryd.f7 [] false w args ∧ laidMet Tryd.prog lay w) ∧ sizedMet enc Tryd.prog Tryd.f7 (OpenSpec.ofChange Rows.fnExactIsPrimitiveSpec) false w args)
      (Rows.fnExactIsPrimitiveSpec.post enc Tryd.prog Tryd.f7 false true false false) := by
  refine returnsInHanded_of_change_and (C := Tryd.checked) (X := fun w _ => laidMet Tryd.prog lay w) (fun _ _ _ hh h => h.of_heap hh) own started (by kernel_rfl) Tryd.func7
    (ChangeSpec.witness_at (enc := enc) (C := Tryd.checked) (os := os) (X := fun w _ => laidMet Tryd.prog lay w) false (laidWorld os) #[.slice none 0 0] 8 rfl (by kernel_rfl) (by kernel_rfl) (by kernel_rfl) (by kernel_rfl) (by kernel_rfl) (laidWorld_met os _)) ?_
  intro W base args ds gs before hval0 hW _ _ hL _
  have hval : ∀ (j : Nat) t v, Tryd.f7.params[j]? = some t → args[j]? = some v → Value.okWide Tryd.prog W .any base t v := hval0
  have hW' := hW
  obtain ⟨p, q, hA0, hV, rfl, hfz, hnd⟩ := hW
  have hA : DataW.TrodAll enc Tryd.prog W 0 (fun _ => true) true Tryd.f7.params.toList args.toList ds p := hA0
  rw [Tryd.params7] at hA hval
  obtain ⟨v0, vs0, d0, ds0, p0, q0, hargs, rfl, rfl, h0, r0⟩ := trodAll_cons hA
  obtain ⟨rfl, rfl, rfl⟩ := trodAll_nil r0
  obtain rfl : args = #[v0] := by cases args; simp_all
  obtain ⟨a9, hv9⟩ := er_of_laid hL
  have hV9 : DataW.TrodVars enc Tryd.prog W (fun _ => true) ["loop.example/g01359/impl.errNoPartition"] gs q := hV
  obtain ⟨rfl, rfl⟩ := hV9.unique (vars_read1 enc gE gEType Tryd.underlying79 hv9 trivial _)
  have k0 := h0
  have lt0 : ∀ x ∈ p0, x.block < W.heap.size := by obtain ⟨m, hm⟩ := k0; exact DataW.trod_lt m _ _ _ hm
  obtain ⟨a0, len0, cap0, rfl⟩ := okWide_slice Tryd.underlying22 (hval 0 22 v0 rfl rfl)
  obtain ⟨z0, w0⟩ := open_rowM h0
  clear hA0 hval0
  refine (ex_any W (er_var hv9) a0 len0 cap0 z0 w0).mono fun e W' ⟨he, bel⟩ => ?_
  subst he
  exact ⟨_, rfl, _, _, _, [], _, [.cell 0 0], hW', trodAll_mk1 (shut_bool Tryd.underlying4 _), (trodAll_cons_mk (Below.trod laidOut (by kernel_rfl) (of_decide_eq_true (by kernel_rfl)) k0 bel lt0) trodAll_mk0), vars_read1 enc gE gEType Tryd.underlying79 (var_below hv9 bel) trivial _, bel.frame _, fun h => by cases h⟩
theorem joined : joinedFacts Tryd.pinned.checked.prog 7 Tryd.f7 Rows.fnExactIsPrimitiveSpec Rows.fnExactIsPrimitiveRow = true := by
  unfold joinedFacts
  simp only [Bool.and_eq_true]
  repeat' apply And.intro
  iterate 25 kernel_rfl
  exact mk_enter
  exact mk_lifts
  exact mk_make
  iterate 4 kernel_rfl
theorem over : Rows.fnExactIsPrimitiveRow.holds Tryd.pinned (OpenSpec.ofChange Rows.fnExactIsPrimitiveSpec) :=
  OpenClaim.holds_of_wide 7 Tryd.f7 rfl rfl rfl rfl rfl rfl rfl ⟨rfl, rfl, rfl, rfl, rfl⟩ rfl rfl rfl rfl rfl (by kernel_rfl) Tryd.func7 joined
    (of_decide_eq_true (by kernel_rfl)) (by unfold Func.isWrapper; rw [if_neg (of_decide_eq_false (by kernel_rfl))]; exact ⟨rfl, rfl⟩)
    (fun os started H enc _ => lifted os started H enc)
theorem card : Rows.FnExactIsPrimitiveCardSaid :=
  Claim7.holds_tied_plain_at .later [] [.sentinel] true _ true
    over (fun _ h => by cases h) (by kernel_rfl) (fun _ h => by cases h) fnExactIsPrimitive_row_tie rfl ⟨rfl, rfl⟩ (by kernel_rfl) rfl
    (fun f fn hf hfn => by
      obtain rfl : f = 7 := Option.some.inj ((show Tryd.prog.funcNamed "loop.example/g01359/laws.FnExactIsPrimitive" = some 7 by kernel_rfl).symm.trans hf) |>.symm
      obtain rfl : fn = Tryd.f7 := (Option.some.inj (Tryd.func7.symm.trans hfn)).symm
      exact ⟨by kernel_rfl, fun j t ht => by
        rw [Tryd.params7] at ht
        have hin : t ∈ [22] := by
          have := Array.mem_of_getElem? ht
          simpa using this
        simp only [List.mem_cons, List.not_mem_nil, or_false] at hin
        rcases hin with rfl
        all_goals exact (show Tryd.prog.wantsStandIn _ = false by kernel_rfl)⟩)
    (by kernel_rfl)
/-- The statement of FnExactIsPrimitive. -/
theorem proved : Rows.FnExactIsPrimitiveCardSaid := card
#print axioms proved
end LFnExactIsPrimitive

end Go.Proofs.YtpphihjbgikjkaaDoor
