/- The contracts of spec.l04Inverses and spec.l04Regular. -/
import Derived.Test.YtiogagaclhjdaaaIdl
import Derived.Test.YtiogagaclhjdaaaSclo
import Derived.Test.YtiogagaclhjdaaaSzr
import Derived.Deep.DeepCutAuto
import Derived.Deep.RegionHeld3
namespace Go.Proofs.Ytiogagaclhjdaaa
open Go.RowKit

theorem inv_sp {p : Int} {c g : Nat} (hc : vld p c) (hg : vld p g) : invT p c g = (decide (mulC p (mulC p c g) c = c) && decide (mulC p g (mulC p c g) = g)) := by
  unfold invT bckC
  rw [mulC_assoc hg hc hg]

theorem eq_num {p : Int} {a b : Nat} (ha : vld p a) (hb : vld p b) (w : World) :
    (binOp .eql 31 (.agg #[.int .i64 p, .int .i64 (dcd a 0), .int .i64 (dcd a 1), .int .i64 (dcd a 2), .int .i64 (dcd a 3), .int .i64 (dcd a 4)]) (.agg #[.int .i64 p, .int .i64 (dcd b 0), .int .i64 (dcd b 1), .int .i64 (dcd b 2), .int .i64 (dcd b 3), .int .i64 (dcd b 4)])).run Try.prog w = .ok (.bool (decide (a = b))) w := by
  have h := runEqM p (dcd a) p (dcd b) w
  rw [dcd_cells ha hb] at h
  exact h

/-- What a block says of its cells in every world that keeps it. -/
theorem bel_cells {wg : World} {b T B : Nat} {p : Int} {t : Nat → Int} (hbB : b < B) (h : wg.heap[b]? = some (.cells (mcells p t) T (0, 0))) :
    (∀ z, Below B wg z → z.cell? ⟨b, 0, none⟩ = some (.int .i64 p)) ∧ (∀ z, Below B wg z → z.cell? ⟨b, 1, none⟩ = some (.int .i64 (t 0))) ∧ (∀ z, Below B wg z → z.cell? ⟨b, 2, none⟩ = some (.int .i64 (t 1))) ∧
    (∀ z, Below B wg z → z.cell? ⟨b, 3, none⟩ = some (.int .i64 (t 2))) ∧ (∀ z, Below B wg z → z.cell? ⟨b, 4, none⟩ = some (.int .i64 (t 3))) ∧ (∀ z, Below B wg z → z.cell? ⟨b, 5, none⟩ = some (.int .i64 (t 4))) := by
  have r : ∀ i z, Below B wg z → z.cell? ⟨b, i, none⟩ = (mcells p t)[i]? := fun i z hz => Joins.cell_of_block ((hz.block _ hbB).trans h) i
  exact ⟨r 0, r 1, r 2, r 3, r 4, r 5⟩

set_option maxRecDepth 100000 in
set_option maxHeartbeats 2000000 in
theorem sinvs_any {p : Int} {K : List Nat} {c : Nat} (hK : ∀ x ∈ K, vld p x) (hc : vld p c) (hn : K.length ≤ 300) (a : Option Addr) (cap : Nat) (w : World) (hr : InRowM w a (mE p K)) :
    Calls Try.prog 53 #[.slice a K.length cap, mv p (dcd c)] w
      fun e w' => ∃ a cap, e = .returned (.slice a (invC p K c).length cap) ∧ RdM w' w.heap.size a (mE p (invC p K c)) ∧ Below w.heap.size w w' := by
  have HVL := Lib.hid hK
  have HR := Lib.hid hr
  have HVC := Lib.hid hc
  clear hK hr hc
  unfold invC
  simp only [mv, mcells]
  go_enter Try.func53, Try.ntmps53
  go_wp2_with fail
  go_loopw [5, 6] (fun v i wr => ∃ k : Nat, k ≤ K.length ∧ i = .int .i64 k ∧ Below w.heap.size w wr ∧ w.heap.size < wr.heap.size ∧ wr.heap[w.heap.size]? = some (.cells (mcells p (dcd c)) 31 (0, 0)) ∧ OwnM wr (w.heap.size + 1) v (mE p ((K.take k).filter (invT p c)))) (fun _ i _ => K.length - (intOf i).toNat)
  case atStart => exact ⟨0, by omega, rfl, by (repeat' (first | (with_reducible exact Below.refl _ _) | (with_reducible refine Below.alloc ?_ ?_ _) | (with_reducible refine Below.setCell ?_ ?_ _) | (with_reducible refine Below.drew ?_) | (with_reducible refine below_drewN ?_ _) | (with_reducible refine Below.trans ?_ (Below.mono (Hid.out (by assumption)) ?_)) | omega | (simp; done) | (simp; omega))), by simp; omega, (halloc_lt _ _ _ (by simp)).trans (halloc_at _ _ _ rfl), own_emptyM (halloc_at _ _ _ (by simp)) (by simp)⟩
  case round =>
    obtain ⟨k, hk, rfl, hb, hsz, hfb, hown⟩ := hrel
    have HBR := Lib.hid hb
    have HOW := Lib.hid hown
    have HFB := Lib.hid hfb
    have hsr := hb.size
    clear hb hown
    by_cases hkl : k < K.length
    · have hkl' : (k : Int) < (K.length : Int) := by omega
      obtain ⟨b1, o1, rfl, hl1, hat1⟩ := (HR.out.below HBR.out).at6 k (by rw [mE_len]; exact hkl)
      rw [mE_at _ _ _ hkl] at hat1
      have hfl := filt_le (invT p c) K k
      have HFS := Lib.hid (filt_succ (invT p c) K k hkl)
      have hv := HVL.out (K.getD k 0) (getD_mem hkl)
      obtain ⟨x0, x1, x2, x3, x4, x5⟩ := hat1
      obtain ⟨y0, y1, y2, y3, y4, y5⟩ := blk6 hfb
      simp only [] at x0 x1 x2 x3 x4 x5
      generalize hMM : ((K.take k).filter (invT p c)) = MM at *
      generalize K.getD k 0 = g at *
      have vfg := mulC_vld HVC.out hv
      have HIV := Lib.hid (inv_sp HVC.out hv)
      have hq1 := fun w => times_num HVC.out hv w
      have hq2 := fun w => times_num vfg HVC.out w
      have hq3 := fun w => times_num hv vfg w
      have he1 := eq_num (mulC_vld vfg HVC.out) HVC.out
      have he2 := eq_num (mulC_vld hv vfg) hv
      have HX := Lib.hid (rfl : invT p c g = invT p c g)
      generalize mulC p (mulC p c g) c = q1 at *
      generalize mulC p g (mulC p c g) = q2 at *
      generalize mulC p c g = fg at *
      generalize hB1 : decide (q1 = c) = B1 at *
      generalize hB2 : decide (q2 = g) = B2 at *
      simp only [mv, mcells] at hq1 hq2 hq3
      have HQ1 := Lib.hid hq1
      have HQ2 := Lib.hid hq2
      have HQ3 := Lib.hid hq3
      clear hq1 hq2 hq3 hfb hB1 hB2 vfg hv HX
      go_wp2_with fail
      refine (HQ1.out _).mono ?_
      rintro e w3 ⟨rfl, hb3⟩
      have hs3 := hb3.size
      simp only [World.size_alloc] at hs3
      have hgb3 := (hb3.block wr.heap.size (by simp)).trans (halloc_at _ _ _ rfl)
      have hfb3 := (hb3.block w.heap.size (by simp; omega)).trans ((halloc_lt _ _ _ hsz).trans HFB.out)
      have hbr3 : Below w.heap.size w w3 := (HBR.out.alloc hsr _).trans (hb3.mono (by simp; omega))
      have HOW3 := Lib.hid (ownM_bel (ownM_bel HOW.out ((Below.refl _ _).alloc (Nat.le_refl _) _)) hb3)
      obtain ⟨wg, hwg⟩ : ∃ wg, wg = w3.alloc (.cells (mcells p (dcd fg)) 31) := ⟨_, rfl⟩
      have hgs : wg.heap.size = w3.heap.size + 1 := by rw [hwg]; simp
      have hgg : wg.heap[wr.heap.size]? = some (.cells (mcells p (dcd g)) 31 (0, 0)) := by rw [hwg]; exact (halloc_lt _ _ _ (by omega)).trans hgb3
      have hgf : wg.heap[w.heap.size]? = some (.cells (mcells p (dcd c)) 31 (0, 0)) := by rw [hwg]; exact (halloc_lt _ _ _ (by omega)).trans hfb3
      have hgx : wg.heap[w3.heap.size]? = some (.cells (mcells p (dcd fg)) 31 (0, 0)) := by rw [hwg]; exact halloc_at _ _ _ rfl
      have HBG : Hid (Below w.heap.size w wg) := Lib.hid (by rw [hwg]; exact hbr3.alloc (by omega) _)
      have HOWG : Hid (OwnM wg (w.heap.size + 1) u5 (mE p MM)) := Lib.hid (by rw [hwg]; exact ownM_bel HOW3.out ((Below.refl _ _).alloc (Nat.le_refl _) _))
      have HGG := Lib.hid hgg
      have HGF := Lib.hid hgf
      obtain ⟨r0, r1, r2, r3, r4, r5⟩ := bel_cells (B := w3.heap.size + 1) (by omega) hgf
      obtain ⟨s0, s1, s2, s3, s4, s5⟩ := bel_cells (B := w3.heap.size + 1) (by omega) hgg
      obtain ⟨t0, t1, t2, t3, t4, t5⟩ := bel_cells (B := w3.heap.size + 1) (by omega) hgx
      clear hb3 hgb3 hfb3 hbr3 x0 x1 x2 x3 x4 x5 y0 y1 y2 y3 y4 y5 hgg hgf hgx
      obtain ⟨R, hR⟩ : ∃ R, R = (B1 && B2) := ⟨_, rfl⟩
      rw [← hR] at HIV
      go_upto_region 7 with fail
      try rw [← hwg]
      clear hwg
      go_cut [34] from 23 to 34 (fun s34 wx => s34 = .bool R ∧ Below (w3.heap.size + 1) wg wx)
      case first =>
        cases B1 with
        | false =>
          simp only [Bool.false_and] at hR
          subst hR
          have hwgB : Below (w3.heap.size + 1) wg wg := Below.refl _ _
          go_region_with (first | (go_at_call 69; (with_reducible refine (HQ2.out _).mono ?_); rintro e w4 ⟨rfl, hb⟩; have Hb := Lib.hid hb; have hz := hb.size; (try simp at hz); have hB4 : Below (w3.heap.size + 1) wg w4 := (by (repeat' (first | (with_reducible exact Below.refl _ _) | (with_reducible refine Below.alloc ?_ ?_ _) | (with_reducible refine Below.setCell ?_ ?_ _) | (with_reducible refine Below.drew ?_) | (with_reducible refine below_drewN ?_ _) | (with_reducible refine Below.trans ?_ (Below.mono (Hid.out (by assumption)) ?_)) | omega | (simp; done) | (simp; omega)))); clear hb))
          all_goals (go_wp2_with fail)
          all_goals (go_meet)
          all_goals
            refine ⟨rfl, ?_⟩
            (repeat' (first | (with_reducible exact Below.refl _ _) | (with_reducible refine Below.alloc ?_ ?_ _) | (with_reducible refine Below.setCell ?_ ?_ _) | (with_reducible refine Below.drew ?_) | (with_reducible refine below_drewN ?_ _) | (with_reducible refine Below.trans ?_ (Below.mono (Hid.out (by assumption)) ?_)) | omega | (simp; done) | (simp; omega)))
        | true =>
          simp only [Bool.true_and] at hR
          subst hR
          go_region_held3 (fun w' => Below (w3.heap.size + 1) wg w') (first | (with_reducible assumption) | ((repeat' (first | (with_reducible exact Below.refl _ _) | (with_reducible refine Below.alloc ?_ ?_ _) | (with_reducible refine Below.setCell ?_ ?_ _) | (with_reducible refine Below.drew ?_) | (with_reducible refine below_drewN ?_ _) | (with_reducible refine Below.trans ?_ (Below.mono (Hid.out (by assumption)) ?_)) | omega | (simp; done) | (simp; omega))); done)) (first | (go_at_call 69; (with_reducible refine (HQ2.out _).mono ?_); rintro e w1 ⟨rfl, hb⟩; skip; obtain ⟨hc, hf⟩ := bcell hb; have hz := hb.size; have Hb := Lib.hid hb; (try simp at hz hc hf); (try (have hy := Nat.lt_of_succ_le hz)); have hz0 : wg.heap.size ≤ w1.heap.size := (by omega); (try (have hz1 : wg.heap.size < w1.heap.size := (by omega))); clear hb) | (go_at_call 69; (with_reducible refine (HQ3.out _).mono ?_); rintro e w1 ⟨rfl, hb⟩; skip; obtain ⟨hc, hf⟩ := bcell hb; have hz := hb.size; have Hb := Lib.hid hb; (try simp at hz hc hf); (try (have hy := Nat.lt_of_succ_le hz)); have hz0 : wg.heap.size ≤ w1.heap.size := (by omega); (try (have hz1 : wg.heap.size < w1.heap.size := (by omega))); clear hb))
          all_goals (go_wp2_with fail)
          all_goals (go_meet)
          all_goals
            refine ⟨rfl, ?_⟩
            (repeat' (first | (with_reducible exact Below.refl _ _) | (with_reducible refine Below.alloc ?_ ?_ _) | (with_reducible refine Below.setCell ?_ ?_ _) | (with_reducible refine Below.drew ?_) | (with_reducible refine below_drewN ?_ _) | (with_reducible refine Below.trans ?_ (Below.mono (Hid.out (by assumption)) ?_)) | omega | (simp; done) | (simp; omega)))
      case rest =>
        obtain ⟨rfl, hbc⟩ := hcut
        clear hR
        have HBC := Lib.hid (hbc.mono (by omega : wg.heap.size ≤ w3.heap.size + 1))
        have hzc := hbc.size
        have hbf := (hbc.block _ (by omega)).trans HGF.out
        have hbg := (hbc.block _ (by omega)).trans HGG.out
        have HBF := Lib.hid hbf
        have HOC := Lib.hid (ownM_bel HOWG.out HBC.out)
        have HBW : Hid (Below w.heap.size w wc) := Lib.hid (HBG.out.trans (hbc.mono (by omega)))
        obtain ⟨z0, z1, z2, z3, z4, z5⟩ := blk6 hbg
        clear hbc hbf hbg he1 he2 r0 r1 r2 r3 r4 r5 s0 s1 s2 s3 s4 s5 t0 t1 t2 t3 t4 t5
        have HB4 : Hid (Below w.heap.size w (wc.alloc (.cells (mcells p (dcd g)) 31))) := Lib.hid (HBW.out.alloc (by omega) _)
        cases R with
        | true =>
          go_wp2_with (at_builtin; refine wpList_appM rfl _ _ rfl (w.heap.size + 1) _ (mE p MM) rfl (ownM_bel HOC.out ((Below.refl _ _).alloc (Nat.le_refl _) _)) (some ⟨wc.heap.size, 0, none⟩) 1 [(p, dcd g)] (fun e => by cases e) rfl (Or.inr ⟨_, 0, rfl, by simp, at_one (halloc_at _ _ _ rfl)⟩) (by rw [mE_len]; simp; omega) (by simp; omega) ?_; intro v4 w4 hown4 hgrow4; have HO4 := Lib.hid hown4; have HB5 := Lib.hid (HB4.out.grown hgrow4 HB4.out.size (fun q e => (Nat.le_of_succ_le (HOC.out.lt q e).1))); have HF5 := Lib.hid ((hgrow4.block w.heap.size (by simp; omega) (fun e => by have := (HOC.out.lt _ e.symm).1; omega)).trans ((halloc_lt _ _ _ (by omega)).trans HBF.out)); have hs5 := hgrow4.size; (try simp at hs5); clear hown4 hgrow4)
          go_roundw
          case rel => exact ⟨k + 1, by omega, by go_num, HB5.out, by omega, HF5.out, by rw [HFS.out, if_pos HIV.out, mE_app]; exact HO4.out⟩
          case measure => simp [intOf]; omega
        | false =>
          go_wp2_with fail
          go_roundw
          case rel => exact ⟨k + 1, by omega, by go_num, HBW.out, by omega, HBF.out, by rw [HFS.out, if_neg (by rw [HIV.out]; decide), List.append_nil]; exact HOC.out⟩
          case measure => simp [intOf]; omega
    · obtain rfl : k = K.length := by omega
      have hfl := filt_le (invT p c) K K.length
      rw [List.take_length] at HOW hfl
      obtain ⟨a2, cap2, rfl, hr2⟩ := ownM_rd HOW.out (by rw [mE_len]; omega)
      have HR2 := Lib.hid (hr2.mono (Nat.le_succ _))
      clear hr2
      rw [mE_len]
      go_wp2_with fail
      go_ret
      exact ⟨a2, cap2, rfl, HR2.out, HBR.out⟩

set_option maxRecDepth 100000 in
theorem sreg_any {p : Int} {K : List Nat} {c : Nat} (h : Mon p K) (hc : c ∈ K) (a : Option Addr) (cap : Nat) (w : World) (hr : InRowM w a (mE p K)) :
    Calls Try.prog 46 #[.slice a K.length cap, mv p (dcd c)] w
      fun e w' => e = .returned (.bool (regC p K c)) ∧ Below w.heap.size w w' := by
  have hb0 : Below w.heap.size w (w.alloc (.cells (mcells p (dcd c)) 31)) := (Below.refl _ _).alloc (Nat.le_refl _) _
  have HQ := Lib.hid (sinvs_any h.vl (h.vl c hc) h.le a cap _ (hr.below hb0))
  have HB0 := Lib.hid hb0
  have hreg := reg_inv h hc
  rw [hreg]
  clear hreg hr hb0 h hc
  generalize invC p K c = N at *
  simp only [mv, mcells] at HQ HB0 ⊢
  go_enter Try.func46, Try.ntmps46
  go_wp2_with fail
  refine HQ.out.mono ?_
  rintro e w2 ⟨a2, c2, rfl, _, hb2⟩
  have HB2 := Lib.hid hb2
  clear hb2
  go_wp2_with fail
  go_ret
  refine ⟨ret_b ?_, HB0.out.trans (HB2.out.mono (by simp))⟩
  exact decide_eq_decide.2 (by omega)

end Go.Proofs.Ytiogagaclhjdaaa
