/- The law FnExactIsDesk is true at every input: impl.IsDesk and spec.IsDesk give the same answer, and the desk that came in stays as it was. No conditions. -/
import Derived.Test.YtpkapgidpgmdoaaMk
import Derived.Test.YtpkapgidpgmdoaaDsko
namespace Go.Proofs.Ytpkapgidpgmdoaa
open Go.ChangeShapes Go.WideShapes Go.ChangeAt Go.RowKit
namespace LFnExactIsDesk

set_option maxRecDepth 100000 in
set_option maxHeartbeats 8000000 in
theorem ex_any (w : World) (a1 : Option Addr) (L : List MapN) (c1 : Nat) (p : Int) (t : Nat → Int) (h11 : InRowM w a1 L) (_ : a1 = none → c1 = 0) (h41 : L.length ≤ maxLen) :
    Calls Try.prog 18 #[.agg (dkc a1 L.length c1 p t)] w fun e w' => e = .returned (.bool true) ∧ Below w.heap.size w w' := by
  obtain ⟨wb, hwb⟩ : ∃ wb, wb = w.alloc (.cells (dkc a1 L.length c1 p t) 63) := ⟨_, rfl⟩
  have HBX1wb : Hid (wb.heap[w.heap.size]? = some (.cells (dkc a1 L.length c1 p t) 63 (0, 0))) := Lib.hid (by rw [hwb]; exact (halloc_at _ _ _ (by simp)))
  have hwz : w.heap.size + 1 ≤ wb.heap.size := by rw [hwb]; simp
  have HWB : Hid (Below w.heap.size w wb) := Lib.hid (by rw [hwb]; exact (Below.refl _ _).alloc (Nat.le_refl _) _)
  have HM1wb := Lib.hid (h11.below HWB.out)
  have HSZ := Lib.hid fun w => szDk_any L.length h41 a1 c1 p t w
  clear h11
  by_cases hz1 : L.length ≤ 1048576
  · have hng1 : ¬ ((1048576 : Int) - (L.length : Int) < 0) := by omega
    have HCP := Lib.hid fun wx h => toDk_any L hz1 a1 c1 p t wx h
    have HS := Lib.hid fun wx g c h => sDk_any L hz1 (some ⟨g, 0, none⟩) c p t wx h
    have HI := Lib.hid fun wx g c h => iDk_any L hz1 (some ⟨g, 0, none⟩) c (fun e => by cases e) p t wx h
    generalize dkB L p t = R at *
    rw [if_pos hz1] at HSZ
    unfold RetDk at HCP
    unfold dkc at *
    go_enter Try.func18, Try.ntmps18
    go_wp2_with fail
    rw [← hwb]
    clear hwb
    obtain ⟨b0, b1, b2, b3, b4, b5, b6⟩ := blk7 HBX1wb.out
    refine (HSZ.out _).mono ?_
    rintro e waq ⟨rfl, hb⟩
    have HBXwaq := Lib.hid ((hb.block w.heap.size (by omega)).trans HBX1wb.out)
    have hzwaq := hb.size
    have HBwaq := Lib.hid hb
    clear hb b0 b1 b2 b3 b4 b5 b6
    obtain ⟨b0, b1, b2, b3, b4, b5, b6⟩ := blk7 HBXwaq.out
    go_wp2_with fail
    refine (HCP.out _ (HM1wb.out.below (by (repeat' (first | (with_reducible exact Below.refl _ _) | (with_reducible refine Below.alloc ?_ ?_ _) | (with_reducible refine Below.setCell ?_ ?_ _) | (with_reducible refine Below.drew ?_) | (with_reducible refine below_drewN ?_ _) | (with_reducible refine Below.trans ?_ (Below.mono (Hid.out (by assumption)) ?_)) | omega | (simp; done) | (simp; omega)))))).mono ?_
    rintro e war ⟨g1, d1, rfl, hr, hb, hg1⟩
    have HR1 := Lib.hid hr
    have HBXwar := Lib.hid ((hb.block w.heap.size (by omega)).trans HBXwaq.out)
    have hzwar := hb.size
    have HBwar := Lib.hid hb
    clear hb hr b0 b1 b2 b3 b4 b5 b6
    obtain ⟨b0, b1, b2, b3, b4, b5, b6⟩ := blk7 HBXwar.out
    go_wp2_with fail
    refine (HS.out _ _ _ (HR1.out.inRow)).mono ?_
    rintro e was ⟨rfl, hb⟩
    have HBXwas := Lib.hid ((hb.block w.heap.size (by omega)).trans HBXwar.out)
    have hzwas := hb.size
    have HBwas := Lib.hid hb
    clear hb b0 b1 b2 b3 b4 b5 b6
    obtain ⟨b0, b1, b2, b3, b4, b5, b6⟩ := blk7 HBXwas.out
    go_wp2_with fail
    refine (HCP.out _ (HM1wb.out.below (by (repeat' (first | (with_reducible exact Below.refl _ _) | (with_reducible refine Below.alloc ?_ ?_ _) | (with_reducible refine Below.setCell ?_ ?_ _) | (with_reducible refine Below.drew ?_) | (with_reducible refine below_drewN ?_ _) | (with_reducible refine Below.trans ?_ (Below.mono (Hid.out (by assumption)) ?_)) | omega | (simp; done) | (simp; omega)))))).mono ?_
    rintro e wat ⟨g2, d2, rfl, hr, hb, hg2⟩
    have HR2 := Lib.hid hr
    have HBXwat := Lib.hid ((hb.block w.heap.size (by omega)).trans HBXwas.out)
    have hzwat := hb.size
    have HBwat := Lib.hid hb
    clear hb hr b0 b1 b2 b3 b4 b5 b6
    obtain ⟨b0, b1, b2, b3, b4, b5, b6⟩ := blk7 HBXwat.out
    go_wp2_with fail
    refine (HI.out _ _ _ (HR2.out.inRow.below (by (repeat' (first | (with_reducible exact Below.refl _ _) | (with_reducible refine Below.alloc ?_ ?_ _) | (with_reducible refine Below.setCell ?_ ?_ _) | (with_reducible refine Below.drew ?_) | (with_reducible refine below_drewN ?_ _) | (with_reducible refine Below.trans ?_ (Below.mono (Hid.out (by assumption)) ?_)) | omega | (simp; done) | (simp; omega)))))).mono ?_
    rintro e wbp ⟨rfl, hb⟩
    have hzwbp := hb.size
    (try simp at hzwbp)
    have HBXwbp := Lib.hid ((hb.block w.heap.size (by simp; omega)).trans ((halloc_lt _ _ _ (by omega)).trans HBXwat.out))
    have HXXwbp := Lib.hid ((hb.block wat.heap.size (by simp)).trans (halloc_at _ _ _ rfl))
    have HBwbp := Lib.hid hb
    clear hb b0 b1 b2 b3 b4 b5 b6
    obtain ⟨b0, b1, b2, b3, b4, b5, b6⟩ := blk7 HBXwbp.out
    obtain ⟨d0, d1', d2', d3, d4, d5, d6⟩ := blk7 HXXwbp.out
    have hgw : w.heap.size < wbp.heap.size := by omega
    have hgx : wat.heap.size < wbp.heap.size := by omega
    go_wp2_with fail
    obtain ⟨wg1, hwg⟩ : ∃ z : World, z = wbp := ⟨_, rfl⟩
    have HQ := Lib.hid (HR2.out.inRow.below (w' := wbp) (by (repeat' (first | (with_reducible exact Below.refl _ _) | (with_reducible refine Below.alloc ?_ ?_ _) | (with_reducible refine Below.setCell ?_ ?_ _) | (with_reducible refine Below.drew ?_) | (with_reducible refine below_drewN ?_ _) | (with_reducible refine Below.trans ?_ (Below.mono (Hid.out (by assumption)) ?_)) | omega | (simp; done) | (simp; omega)))))
    have r0 : ∀ z, Below wbp.heap.size wbp z → z.cell? ⟨w.heap.size, 0, none⟩ = _ := fun z h => (h.cell (p := ⟨w.heap.size, 0, none⟩) hgw).trans b0
    have s0 : ∀ z, Below wbp.heap.size wbp z → z.cell? ⟨wat.heap.size, 0, none⟩ = _ := fun z h => (h.cell (p := ⟨wat.heap.size, 0, none⟩) hgx).trans d0
    have r1 : ∀ z, Below wbp.heap.size wbp z → z.cell? ⟨w.heap.size, 1, none⟩ = _ := fun z h => (h.cell (p := ⟨w.heap.size, 1, none⟩) hgw).trans b1
    have s1 : ∀ z, Below wbp.heap.size wbp z → z.cell? ⟨wat.heap.size, 1, none⟩ = _ := fun z h => (h.cell (p := ⟨wat.heap.size, 1, none⟩) hgx).trans d1'
    have r2 : ∀ z, Below wbp.heap.size wbp z → z.cell? ⟨w.heap.size, 2, none⟩ = _ := fun z h => (h.cell (p := ⟨w.heap.size, 2, none⟩) hgw).trans b2
    have s2 : ∀ z, Below wbp.heap.size wbp z → z.cell? ⟨wat.heap.size, 2, none⟩ = _ := fun z h => (h.cell (p := ⟨wat.heap.size, 2, none⟩) hgx).trans d2'
    have r3 : ∀ z, Below wbp.heap.size wbp z → z.cell? ⟨w.heap.size, 3, none⟩ = _ := fun z h => (h.cell (p := ⟨w.heap.size, 3, none⟩) hgw).trans b3
    have s3 : ∀ z, Below wbp.heap.size wbp z → z.cell? ⟨wat.heap.size, 3, none⟩ = _ := fun z h => (h.cell (p := ⟨wat.heap.size, 3, none⟩) hgx).trans d3
    have r4 : ∀ z, Below wbp.heap.size wbp z → z.cell? ⟨w.heap.size, 4, none⟩ = _ := fun z h => (h.cell (p := ⟨w.heap.size, 4, none⟩) hgw).trans b4
    have s4 : ∀ z, Below wbp.heap.size wbp z → z.cell? ⟨wat.heap.size, 4, none⟩ = _ := fun z h => (h.cell (p := ⟨wat.heap.size, 4, none⟩) hgx).trans d4
    have r5 : ∀ z, Below wbp.heap.size wbp z → z.cell? ⟨w.heap.size, 5, none⟩ = _ := fun z h => (h.cell (p := ⟨w.heap.size, 5, none⟩) hgw).trans b5
    have s5 : ∀ z, Below wbp.heap.size wbp z → z.cell? ⟨wat.heap.size, 5, none⟩ = _ := fun z h => (h.cell (p := ⟨wat.heap.size, 5, none⟩) hgx).trans d5
    have r6 : ∀ z, Below wbp.heap.size wbp z → z.cell? ⟨w.heap.size, 6, none⟩ = _ := fun z h => (h.cell (p := ⟨w.heap.size, 6, none⟩) hgw).trans b6
    have s6 : ∀ z, Below wbp.heap.size wbp z → z.cell? ⟨wat.heap.size, 6, none⟩ = _ := fun z h => (h.cell (p := ⟨wat.heap.size, 6, none⟩) hgx).trans d6
    clear hwg b0 b1 b2 b3 b4 b5 b6 d0 d1' d2' d3 d4 d5 d6
    have HMI := Lib.hid fun z (_ : Hid (Below wbp.heap.size wbp z)) => HM1wb.out.below (w' := z) (by (repeat' (first | (with_reducible exact Below.refl _ _) | (with_reducible refine Below.alloc ?_ ?_ _) | (with_reducible refine Below.setCell ?_ ?_ _) | (with_reducible refine Below.drew ?_) | (with_reducible refine below_drewN ?_ _) | (with_reducible refine Below.trans ?_ (Below.mono (Hid.out (by assumption)) ?_)) | omega | (simp; done) | (simp; omega))))
    have HEQ := Lib.hid fun wx (g : Nat) c h1 h2 => eqDk_same L (by omega) (some ⟨g2, 0, none⟩) (some ⟨g, 0, none⟩) d2 c p t wx h1 h2
    unfold dkc at HEQ
    go_region_held3 (fun w' => Below wbp.heap.size wbp w') (first | (with_reducible assumption) | ((repeat' (first | (with_reducible exact Below.refl _ _) | (with_reducible refine Below.alloc ?_ ?_ _) | (with_reducible refine Below.setCell ?_ ?_ _) | (with_reducible refine Below.drew ?_) | (with_reducible refine below_drewN ?_ _) | (with_reducible refine Below.trans ?_ (Below.mono (Hid.out (by assumption)) ?_)) | omega | (simp; done) | (simp; omega))); done)) (first
      | (go_at_call 65; (with_reducible refine (HCP.out _ (HMI.out _ (Lib.hid (by (repeat' (first | (with_reducible exact Below.refl _ _) | (with_reducible refine Below.alloc ?_ ?_ _) | (with_reducible refine Below.setCell ?_ ?_ _) | (with_reducible refine Below.drew ?_) | (with_reducible refine below_drewN ?_ _) | (with_reducible refine Below.trans ?_ (Below.mono (Hid.out (by assumption)) ?_)) | omega | (simp; done) | (simp; omega))))))).mono ?_); rintro e wbq ⟨g3, d3, rfl, hr, hb, hg3⟩; have HY := Lib.hid hr.inRow; have hzwbq := hb.size; (try simp at hzwbq); have HBwbq := Lib.hid hb; clear hb hr)
      | (go_at_call 60; (with_reducible refine (HEQ.out _ _ _ (HQ.out.below (by (repeat' (first | (with_reducible exact Below.refl _ _) | (with_reducible refine Below.alloc ?_ ?_ _) | (with_reducible refine Below.setCell ?_ ?_ _) | (with_reducible refine Below.drew ?_) | (with_reducible refine below_drewN ?_ _) | (with_reducible refine Below.trans ?_ (Below.mono (Hid.out (by assumption)) ?_)) | omega | (simp; done) | (simp; omega))))) (HY.out.below (by (repeat' (first | (with_reducible exact Below.refl _ _) | (with_reducible refine Below.alloc ?_ ?_ _) | (with_reducible refine Below.setCell ?_ ?_ _) | (with_reducible refine Below.drew ?_) | (with_reducible refine below_drewN ?_ _) | (with_reducible refine Below.trans ?_ (Below.mono (Hid.out (by assumption)) ?_)) | omega | (simp; done) | (simp; omega)))))).mono ?_); rintro e wbr ⟨rfl, hb⟩; have hzwbr := hb.size; (try simp at hzwbr); have HBwbr := Lib.hid hb; clear hb))
    clear r0 r1 r2 r3 r4 r5 r6 s0 s1 s2 s3 s4 s5 s6
    go_wp2_with fail
    go_ret
    refine ⟨rfl, ?_⟩
    have hall := HWB.out
    (repeat' (first | (with_reducible exact Below.refl _ _) | (with_reducible refine Below.alloc ?_ ?_ _) | (with_reducible refine Below.setCell ?_ ?_ _) | (with_reducible refine Below.drew ?_) | (with_reducible refine below_drewN ?_ _) | (with_reducible refine Below.trans ?_ (Below.mono (Hid.out (by assumption)) ?_)) | omega | (simp; done) | (simp; omega)))
  · have HNO := HSZ
    rw [if_neg hz1] at HNO
    unfold dkc at *
    go_enter Try.func18, Try.ntmps18
    go_wp2_with fail
    rw [← hwb]
    refine (HNO.out _).mono ?_
    rintro e wz ⟨rfl, hb⟩
    have HZB := Lib.hid (HWB.out.trans (hb.mono (by omega)))
    clear hb
    go_wp2_with fail
    go_ret
    exact ⟨rfl, HZB.out⟩

end LFnExactIsDesk

namespace LFnExactIsDesk
set_option maxRecDepth 100000 in
theorem lifted (os : Os) (started : os.Started) (H : Type) (enc : TypeId × Value → H) :
    ReturnsInHanded {} Try.checked os 18 .any (Rows.fnExactIsDeskSpec.pre6 enc Try.prog Try.f18 Rows.fnExactIsDeskRow.domain false) (Rows.fnExactIsDeskSpec.post enc Try.prog Try.f18 false true false false) := by
  refine returnsInHanded_of_change (C := Try.checked) own started (by kernel_rfl) Try.func18
    (ChangeSpec.witness6 (enc := enc) (C := Try.checked) false ⟨#[], #[.agg #[.slice none 0 0, .int .i64 0, .int .i64 0, .int .i64 0, .int .i64 0, .int .i64 0, .int .i64 0]], []⟩ 8 (by kernel_rfl) (by kernel_rfl) (by kernel_rfl) (by kernel_rfl)) ?_
  intro W base args ds gs before hval0 hW _ _
  have hval : ∀ (j : Nat) t v, Try.f18.params[j]? = some t → args[j]? = some v → Value.okWide Try.prog W .any base t v := hval0
  have hW' := hW
  obtain ⟨p, q, hA0, hV, rfl, hfz, hnd⟩ := hW
  have hA : DataW.TrodAll enc Try.prog W 0 (fun _ => true) true Try.f18.params.toList args.toList ds p := hA0
  rw [Try.params18] at hA hval
  obtain ⟨v0, vs0, d0, ds0, p0, q0, hargs, rfl, rfl, h0, r0⟩ := trodAll_cons hA
  obtain ⟨rfl, rfl, rfl⟩ := trodAll_nil r0
  obtain rfl : args = #[v0] := by cases args; simp_all
  obtain ⟨rfl, rfl⟩ := trodVars_none hV
  have k0 := h0
  have lt0 : ∀ x ∈ p0, x.block < W.heap.size := by obtain ⟨m, hm⟩ := k0; exact DataW.trod_lt m _ _ _ hm
  obtain ⟨a0, L0, c0, f0, t0, rfl, w0, x0, y0⟩ := open_desk (hval 0 63 v0 rfl rfl) h0
  clear hA0 hval0
  refine (ex_any W a0 L0 c0 f0 t0 w0 x0 y0).mono fun e W' ⟨he, bel⟩ => ?_
  subst he
  exact ⟨_, rfl, _, _, _, [], _, [], hW', trodAll_mk1 (shut_bool Try.underlying4 _), (trodAll_cons_mk (Below.trod laidOut (by kernel_rfl) (of_decide_eq_true (by kernel_rfl)) k0 bel lt0) trodAll_mk0), rfl, bel.frame _, fun h => by cases h⟩
theorem joined : joinedFacts Try.pinned.checked.prog 18 Try.f18 Rows.fnExactIsDeskSpec Rows.fnExactIsDeskRow = true := by
  unfold joinedFacts
  simp only [Bool.and_eq_true]
  repeat' apply And.intro
  iterate 25 kernel_rfl
  exact mk_enter
  exact mk_lifts
  exact mk_make
  iterate 4 kernel_rfl
theorem over : Rows.fnExactIsDeskRow.holds Try.pinned (OpenSpec.ofChange Rows.fnExactIsDeskSpec) :=
  OpenClaim.holds_of_wide 18 Try.f18 rfl rfl rfl rfl rfl rfl rfl ⟨rfl, rfl, rfl, rfl, rfl⟩ rfl rfl rfl rfl rfl (by kernel_rfl) Try.func18 joined
    (of_decide_eq_true (by kernel_rfl)) (by unfold Func.isWrapper; rw [if_neg (of_decide_eq_false (by kernel_rfl))]; exact ⟨rfl, rfl⟩)
    (fun os started H enc _ => lifted os started H enc)
/-- The statement of FnExactIsDesk. -/
theorem proved : Rows.FnExactIsDeskSaid := over
#print axioms proved
end LFnExactIsDesk

end Go.Proofs.Ytpkapgidpgmdoaa
