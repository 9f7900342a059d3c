/- The law FnExactAreSameShape is true at every input: impl.AreSameShape and spec.AreSameShape give the same answer and the same code. No conditions. -/
import Derived.Test.YtfghegjlilcafaaBase
import Derived.Test.YtfghegjlilcafaaMk
import Derived.Test.YtfghegjlilcafaaAsh
import Derived.Test.YtfghegjlilcafaaRow
import Derived.Deep.RegionHeld3
import Derived.Deep.DeepCutAuto
namespace Go.Proofs.Ytfghegjlilcafaa
open Go.ChangeShapes Go.WideShapes Go.ChangeAt Go.RowKit

set_option maxRecDepth 100000 in
set_option maxHeartbeats 1000000 in
theorem exAreSameShape_any (p : Int) (f : Nat → Int) (_ : (Lit.int .i64 p).wf = true) (_ : ∀ i, i < 5 → (Lit.int .i64 (f i)).wf = true) (q : Int) (g : Nat → Int) (_ : (Lit.int .i64 q).wf = true) (_ : ∀ i, i < 5 → (Lit.int .i64 (g i)).wf = true) (w : World) :
    Calls Try.prog 10 #[mv p f, mv q g] w fun e w' => e = .returned (.bool true) ∧ Below w.heap.size w w' := by
  obtain ⟨X, C, hV⟩ : ∃ X C, asV p f q g = .tuple #[.bool X, .int .i64 C] := ⟨_, _, rfl⟩
  have HS := fun w => sas_any p f q g w
  have HI := fun w => ias_any p f q g w
  rw [hV] at HS HI
  clear hV
  have HS := Lib.hid HS
  have HI := Lib.hid HI
  have rf0 : ∀ x : World, x.heap[w.heap.size]? = some (.cells (mcells p f) 24 (0, 0)) → x.cell? ⟨w.heap.size, 0, none⟩ = some (.int .i64 p) := fun x h => (blk6 h).1
  have rf1 : ∀ x : World, x.heap[w.heap.size]? = some (.cells (mcells p f) 24 (0, 0)) → x.cell? ⟨w.heap.size, 1, none⟩ = some (.int .i64 (f 0)) := fun x h => (blk6 h).2.1
  have rf2 : ∀ x : World, x.heap[w.heap.size]? = some (.cells (mcells p f) 24 (0, 0)) → x.cell? ⟨w.heap.size, 2, none⟩ = some (.int .i64 (f 1)) := fun x h => (blk6 h).2.2.1
  have rf3 : ∀ x : World, x.heap[w.heap.size]? = some (.cells (mcells p f) 24 (0, 0)) → x.cell? ⟨w.heap.size, 3, none⟩ = some (.int .i64 (f 2)) := fun x h => (blk6 h).2.2.2.1
  have rf4 : ∀ x : World, x.heap[w.heap.size]? = some (.cells (mcells p f) 24 (0, 0)) → x.cell? ⟨w.heap.size, 4, none⟩ = some (.int .i64 (f 3)) := fun x h => (blk6 h).2.2.2.2.1
  have rf5 : ∀ x : World, x.heap[w.heap.size]? = some (.cells (mcells p f) 24 (0, 0)) → x.cell? ⟨w.heap.size, 5, none⟩ = some (.int .i64 (f 4)) := fun x h => (blk6 h).2.2.2.2.2
  have rg0 : ∀ x : World, x.heap[w.heap.size + 1]? = some (.cells (mcells q g) 24 (0, 0)) → x.cell? ⟨w.heap.size + 1, 0, none⟩ = some (.int .i64 q) := fun x h => (blk6 h).1
  have rg1 : ∀ x : World, x.heap[w.heap.size + 1]? = some (.cells (mcells q g) 24 (0, 0)) → x.cell? ⟨w.heap.size + 1, 1, none⟩ = some (.int .i64 (g 0)) := fun x h => (blk6 h).2.1
  have rg2 : ∀ x : World, x.heap[w.heap.size + 1]? = some (.cells (mcells q g) 24 (0, 0)) → x.cell? ⟨w.heap.size + 1, 2, none⟩ = some (.int .i64 (g 1)) := fun x h => (blk6 h).2.2.1
  have rg3 : ∀ x : World, x.heap[w.heap.size + 1]? = some (.cells (mcells q g) 24 (0, 0)) → x.cell? ⟨w.heap.size + 1, 3, none⟩ = some (.int .i64 (g 2)) := fun x h => (blk6 h).2.2.2.1
  have rg4 : ∀ x : World, x.heap[w.heap.size + 1]? = some (.cells (mcells q g) 24 (0, 0)) → x.cell? ⟨w.heap.size + 1, 4, none⟩ = some (.int .i64 (g 3)) := fun x h => (blk6 h).2.2.2.2.1
  have rg5 : ∀ x : World, x.heap[w.heap.size + 1]? = some (.cells (mcells q g) 24 (0, 0)) → x.cell? ⟨w.heap.size + 1, 5, none⟩ = some (.int .i64 (g 4)) := fun x h => (blk6 h).2.2.2.2.2
  simp only [mv, mcells] at *
  go_enter Try.func10, Try.ntmps10
  go_upto_region 1 with fail
  go_cut [5, 6] (fun s5 s6 wx => s5 = .bool X ∧ s6 = .int .i64 C ∧ Below w.heap.size w wx ∧ w.heap.size + 1 < wx.heap.size ∧
    wx.heap[w.heap.size]? = some (.cells (mcells p f) 24 (0, 0)) ∧ wx.heap[w.heap.size + 1]? = some (.cells (mcells q g) 24 (0, 0)))
  case first =>
    go_region_held3 (fun w' => w'.heap[w.heap.size]? = some (.cells (mcells p f) 24 (0, 0)) ∧ w'.heap[w.heap.size + 1]? = some (.cells (mcells q g) 24 (0, 0))) (first | ((try dsimp only); (try go_split_ands); (repeat' apply And.intro) <;> ((repeat' (first | omega | (rw [hdrew]) | (with_reducible assumption) | (with_reducible exact Hid.out (by assumption)) | (with_reducible rfl) | ((with_reducible refine halloc_at _ _ _ ?_) <;> (first | (with_reducible rfl) | omega | (simp; done))) | (with_reducible refine chain6 ?_) | (with_reducible refine Eq.trans (hset_ne _ _ _ _ ?_) ?_) | (with_reducible refine Eq.trans (halloc_lt _ _ _ ?_) ?_) | (with_reducible refine Eq.trans (Below.block (Hid.out (by assumption)) _ ?_) ?_) | (simp; done) | (simp; omega))); done)))
      (first
        | (go_at_call 19; (with_reducible refine (toMap_any p f _).mono ?_); rintro e w1 ⟨rfl, hb⟩; simp only [mv, mcells]; obtain ⟨hc, hf⟩ := bcell hb; have hz := hb.size; have Hb := Lib.hid hb; (try simp at hz hc hf); (try (have hy := Nat.lt_of_succ_le hz)); have hz0 : w.heap.size < w1.heap.size := (by omega); have hz1 : w.heap.size + 1 < w1.heap.size := (by omega); (try (have hz2 : w.heap.size + 1 + 1 < w1.heap.size := (by omega))); clear hb)
        | (go_at_call 19; (with_reducible refine (toMap_any q g _).mono ?_); rintro e w1 ⟨rfl, hb⟩; simp only [mv, mcells]; obtain ⟨hc, hf⟩ := bcell hb; have hz := hb.size; have Hb := Lib.hid hb; (try simp at hz hc hf); (try (have hy := Nat.lt_of_succ_le hz)); have hz0 : w.heap.size < w1.heap.size := (by omega); have hz1 : w.heap.size + 1 < w1.heap.size := (by omega); (try (have hz2 : w.heap.size + 1 + 1 < w1.heap.size := (by omega))); clear hb)
        | (go_at_call 37; (with_reducible refine (HS.out _).mono ?_); rintro e w1 ⟨rfl, hb⟩; skip; obtain ⟨hc, hf⟩ := bcell hb; have hz := hb.size; have Hb := Lib.hid hb; (try simp at hz hc hf); (try (have hy := Nat.lt_of_succ_le hz)); have hz0 : w.heap.size < w1.heap.size := (by omega); have hz1 : w.heap.size + 1 < w1.heap.size := (by omega); (try (have hz2 : w.heap.size + 1 + 1 < w1.heap.size := (by omega))); clear hb))
    all_goals (go_wp2_with fail)
    all_goals (go_meet)
    all_goals
      refine ⟨rfl, rfl, ?_, ?_, ?_, ?_⟩
      · (repeat' (first | (with_reducible exact Below.refl _ _) | (with_reducible refine Below.alloc ?_ ?_ _) | (with_reducible refine Below.setCell ?_ ?_ _) | (with_reducible refine Below.drew ?_) | (with_reducible refine below_drewN ?_ _) | (with_reducible refine Below.trans ?_ (Below.mono (Hid.out (by assumption)) ?_)) | omega | (simp; done) | (simp; omega)))
      · first | omega | (simp; done) | (simp; omega)
      · go_split_ands
        clear rf0 rf1 rf2 rf3 rf4 rf5 rg0 rg1 rg2 rg3 rg4 rg5
        (repeat' (first | omega | (rw [hdrew]) | (with_reducible assumption) | (with_reducible exact Hid.out (by assumption)) | (with_reducible rfl) | ((with_reducible refine halloc_at _ _ _ ?_) <;> (first | (with_reducible rfl) | omega | (simp; done))) | (with_reducible refine chain6 ?_) | (with_reducible refine Eq.trans (hset_ne _ _ _ _ ?_) ?_) | (with_reducible refine Eq.trans (halloc_lt _ _ _ ?_) ?_) | (with_reducible refine Eq.trans (Below.block (Hid.out (by assumption)) _ ?_) ?_) | (simp; done) | (simp; omega)))
      · go_split_ands
        clear rf0 rf1 rf2 rf3 rf4 rf5 rg0 rg1 rg2 rg3 rg4 rg5
        (repeat' (first | omega | (rw [hdrew]) | (with_reducible assumption) | (with_reducible exact Hid.out (by assumption)) | (with_reducible rfl) | ((with_reducible refine halloc_at _ _ _ ?_) <;> (first | (with_reducible rfl) | omega | (simp; done))) | (with_reducible refine chain6 ?_) | (with_reducible refine Eq.trans (hset_ne _ _ _ _ ?_) ?_) | (with_reducible refine Eq.trans (halloc_lt _ _ _ ?_) ?_) | (with_reducible refine Eq.trans (Below.block (Hid.out (by assumption)) _ ?_) ?_) | (simp; done) | (simp; omega)))
  case rest =>
    obtain ⟨rfl, rfl, hb, hk2, hk4, hk5⟩ := hcut
    have Hb := Lib.hid hb
    have B1 := Lib.hid hk4
    have B2 := Lib.hid hk5
    clear hb hk4 hk5
    go_upto_region 2 with fail
    go_cut [7, 8] (fun s7 s8 wx => s7 = .bool X ∧ s8 = .int .i64 C ∧ Below wc.heap.size wc wx)
    case first =>
      go_region_held3 (fun w' => w'.heap[w.heap.size]? = some (.cells (mcells p f) 24 (0, 0)) ∧ w'.heap[w.heap.size + 1]? = some (.cells (mcells q g) 24 (0, 0))) (first | ((try dsimp only); (try go_split_ands); (repeat' apply And.intro) <;> ((repeat' (first | omega | (rw [hdrew]) | (with_reducible assumption) | (with_reducible exact Hid.out (by assumption)) | (with_reducible rfl) | ((with_reducible refine halloc_at _ _ _ ?_) <;> (first | (with_reducible rfl) | omega | (simp; done))) | (with_reducible refine chain6 ?_) | (with_reducible refine Eq.trans (hset_ne _ _ _ _ ?_) ?_) | (with_reducible refine Eq.trans (halloc_lt _ _ _ ?_) ?_) | (with_reducible refine Eq.trans (Below.block (Hid.out (by assumption)) _ ?_) ?_) | (simp; done) | (simp; omega))); done)))
        (first
          | (go_at_call 19; (with_reducible refine (toMap_any p f _).mono ?_); rintro e w1 ⟨rfl, hb⟩; simp only [mv, mcells]; obtain ⟨hc, hf⟩ := bcell hb; have hz := hb.size; have Hb := Lib.hid hb; (try simp at hz hc hf); (try (have hy := Nat.lt_of_succ_le hz)); have hz0 : wc.heap.size ≤ w1.heap.size := (by omega); (try (have hz1 : wc.heap.size < w1.heap.size := (by omega))); clear hb)
          | (go_at_call 19; (with_reducible refine (toMap_any q g _).mono ?_); rintro e w1 ⟨rfl, hb⟩; simp only [mv, mcells]; obtain ⟨hc, hf⟩ := bcell hb; have hz := hb.size; have Hb := Lib.hid hb; (try simp at hz hc hf); (try (have hy := Nat.lt_of_succ_le hz)); have hz0 : wc.heap.size ≤ w1.heap.size := (by omega); (try (have hz1 : wc.heap.size < w1.heap.size := (by omega))); clear hb)
          | (go_at_call 38; (with_reducible refine (HI.out _).mono ?_); rintro e w1 ⟨rfl, hb⟩; skip; obtain ⟨hc, hf⟩ := bcell hb; have hz := hb.size; have Hb := Lib.hid hb; (try simp at hz hc hf); (try (have hy := Nat.lt_of_succ_le hz)); have hz0 : wc.heap.size ≤ w1.heap.size := (by omega); (try (have hz1 : wc.heap.size < w1.heap.size := (by omega))); clear hb))
      all_goals (go_wp2_with fail)
      all_goals (go_meet)
      all_goals
        refine ⟨rfl, rfl, ?_⟩
        (repeat' (first | (with_reducible exact Below.refl _ _) | (with_reducible refine Below.alloc ?_ ?_ _) | (with_reducible refine Below.setCell ?_ ?_ _) | (with_reducible refine Below.drew ?_) | (with_reducible refine below_drewN ?_ _) | (with_reducible refine Below.trans ?_ (Below.mono (Hid.out (by assumption)) ?_)) | omega | (simp; done) | (simp; omega)))
    case rest =>
      obtain ⟨rfl, rfl, hb⟩ := hcut
      have Hb' := Lib.hid hb
      have hsz0 := Hb.out.size
      have hsz1 := hb.size
      clear hb
      go_wp2_with fail
      go_ret
      refine ⟨rfl, ?_⟩
      (repeat' (first | (with_reducible exact Below.refl _ _) | (with_reducible refine Below.alloc ?_ ?_ _) | (with_reducible refine Below.setCell ?_ ?_ _) | (with_reducible refine Below.drew ?_) | (with_reducible refine below_drewN ?_ _) | (with_reducible refine Below.trans ?_ (Below.mono (Hid.out (by assumption)) ?_)) | omega | (simp; done) | (simp; omega)))

namespace LFnExactAreSameShape
set_option maxRecDepth 100000 in
theorem lifted (os : Os) (started : os.Started) (H : Type) (enc : TypeId × Value → H) :
    ReturnsInHanded {} Try.checked os 10 .any (Rows.fnExactAreSameShapeSpec.pre6 enc Try.prog Try.f10 Rows.fnExactAreSameShapeRow.domain false) (Rows.fnExactAreSameShapeSpec.post enc Try.prog Try.f10 false true false false) := by
  refine returnsInHanded_of_change (C := Try.checked) own started (by kernel_rfl) Try.func10
    (ChangeSpec.witness6 (enc := enc) (C := Try.checked) false ⟨#[], #[.agg #[.int .i64 0, .int .i64 0, .int .i64 0, .int .i64 0, .int .i64 0, .int .i64 0], .agg #[.int .i64 0, .int .i64 0, .int .i64 0, .int .i64 0, .int .i64 0, .int .i64 0]], []⟩ 8 (by kernel_rfl) (by kernel_rfl) (by kernel_rfl) (by kernel_rfl)) ?_
  intro W base args ds gs before hval0 hW _ _
  have hval : ∀ (j : Nat) t v, Try.f10.params[j]? = some t → args[j]? = some v → Value.okWide Try.prog W .any base t v := hval0
  have hW' := hW
  obtain ⟨p, q, hA0, hV, rfl, hfz, hnd⟩ := hW
  have hA : DataW.TrodAll enc Try.prog W 0 (fun _ => true) true Try.f10.params.toList args.toList ds p := hA0
  rw [Try.params10] at hA hval
  obtain ⟨v0, vs0, d0, ds0, p0, q0, hargs, rfl, rfl, h0, r0⟩ := trodAll_cons hA
  obtain ⟨v1, vs1, d1, ds1, p1, q1, rfl, rfl, rfl, h1, r1⟩ := trodAll_cons r0
  obtain ⟨rfl, rfl, rfl⟩ := trodAll_nil r1
  obtain rfl : args = #[v0, v1] := by cases args; simp_all
  obtain ⟨rfl, rfl⟩ := trodVars_none hV
  have k0 := h0
  have lt0 : ∀ x ∈ p0, x.block < W.heap.size := by obtain ⟨m, hm⟩ := k0; exact DataW.trod_lt m _ _ _ hm
  obtain ⟨a0, t0, rfl, wa0, wt0⟩ := open_lmap (hval 0 24 v0 rfl rfl) h0
  have k1 := h1
  have lt1 : ∀ x ∈ p1, x.block < W.heap.size := by obtain ⟨m, hm⟩ := k1; exact DataW.trod_lt m _ _ _ hm
  obtain ⟨a1, t1, rfl, wa1, wt1⟩ := open_lmap (hval 1 24 v1 rfl rfl) h1
  clear hA0 hval0
  refine (exAreSameShape_any a0 t0 wa0 wt0 a1 t1 wa1 wt1 W).mono fun e W' ⟨he, bel⟩ => ?_
  subst he
  exact ⟨_, rfl, _, _, _, [], _, [], hW', trodAll_mk1 (shut_bool Try.underlying4 _), (trodAll_cons_mk (Below.trod laidOut (by kernel_rfl) (of_decide_eq_true (by kernel_rfl)) k0 bel lt0) (trodAll_cons_mk (Below.trod laidOut (by kernel_rfl) (of_decide_eq_true (by kernel_rfl)) k1 bel lt1) trodAll_mk0)), rfl, bel.frame _, fun h => by cases h⟩
theorem joined : joinedFacts Try.pinned.checked.prog 10 Try.f10 Rows.fnExactAreSameShapeSpec Rows.fnExactAreSameShapeRow = true := by
  unfold joinedFacts
  simp only [Bool.and_eq_true]
  repeat' apply And.intro
  iterate 25 kernel_rfl
  exact mk_enter
  exact mk_lifts
  exact mk_make
  iterate 4 kernel_rfl
theorem over : Rows.fnExactAreSameShapeRow.holds Try.pinned (OpenSpec.ofChange Rows.fnExactAreSameShapeSpec) :=
  OpenClaim.holds_of_wide 10 Try.f10 rfl rfl rfl rfl rfl rfl rfl ⟨rfl, rfl, rfl, rfl, rfl⟩ rfl rfl rfl rfl rfl (by kernel_rfl) Try.func10 joined
    (of_decide_eq_true (by kernel_rfl)) (by unfold Func.isWrapper; rw [if_neg (of_decide_eq_false (by kernel_rfl))]; exact ⟨rfl, rfl⟩)
    (fun os started H enc _ => lifted os started H enc)
/-- The statement of FnExactAreSameShape. -/
theorem proved : Rows.FnExactAreSameShapeSaid := over
#print axioms proved
end LFnExactAreSameShape
end Go.Proofs.Ytfghegjlilcafaa
