/- The contract of spec.l02Centre: the elements that commute with all maps of a list. -/
import Derived.Test.YtpkapgidpgmdoaaFilt
import Derived.Test.YtpkapgidpgmdoaaComm
namespace Go.Proofs.Ytpkapgidpgmdoaa
open Go.RowKit Go.Maps

theorem comA_succ {p : Int} {f : Nat → Int} {M : List MapN} (m : Nat) (hm : m < M.length) : comA p f (M.take (m + 1)) = (comA p f (M.take m) && comB p f (M.getD m z0).2) := by
  unfold comA
  rw [List.take_add_one, List.getElem?_eq_getElem hm, List.getD_eq_getElem?_getD, List.getElem?_eq_getElem hm, List.all_append]
  simp

set_option maxRecDepth 100000 in
set_option maxHeartbeats 2000000 in
theorem scen_any {p : Int} {K : List Nat} (hK : ∀ c ∈ K, vld p c) (hn : K.length ≤ 300) (M : List MapN) (hM : ∀ k, k < M.length → (M.getD k z0).1 = p ∧ isB p (M.getD k z0).2 = true) (hl : M.length ≤ 1000) (a1 a2 : Option Addr) (c1 c2 : Nat) (w : World) (hr1 : InRowM w a1 (mE p K)) (hr2 : InRowM w a2 M) :
    Calls Try.prog 91 #[.slice a1 K.length c1, .slice a2 M.length c2] w
      fun e w' => ∃ a cap, e = .returned (.slice a (K.filter fun c => comA p (dcd c) M).length cap) ∧ RdM w' w.heap.size a (mE p (K.filter fun c => comA p (dcd c) M)) ∧ Below w.heap.size w w' := by
  have HVL := Lib.hid hK
  have HM := Lib.hid hM
  have HR1 := Lib.hid hr1
  have HR2 := Lib.hid hr2
  clear hK hM hr1 hr2
  go_enter Try.func91, Try.ntmps91
  go_wp2_with fail
  go_loopw [5, 6, 7, 8] (fun v i _ _ wr => ∃ k : Nat, k ≤ K.length ∧ i = .int .i64 k ∧ Below w.heap.size w wr ∧ OwnM wr w.heap.size v (mE p ((K.take k).filter fun c => comA p (dcd c) M))) (fun _ i _ _ _ => K.length - (intOf i).toNat)
  case atStart => exact ⟨0, by omega, rfl, (Below.refl _ _).alloc (Nat.le_refl _) _, own_emptyM (halloc_at _ _ _ rfl) (Nat.le_refl _)⟩
  case round =>
    obtain ⟨k, hk, rfl, hb, hown⟩ := hrel
    have HBR := Lib.hid hb
    have HOW := Lib.hid hown
    have hsr := hb.size
    clear hb hown
    by_cases hkl : k < K.length
    · have hkl' : (k : Int) < (K.length : Int) := by omega
      obtain ⟨b1, o1, rfl, hl1, hat1⟩ := (HR1.out.below HBR.out).at6 k (by rw [mE_len]; exact hkl)
      rw [mE_at _ _ _ hkl] at hat1
      have hfl := filt_le (fun c => comA p (dcd c) M) K k
      have HFS := Lib.hid (filt_succ (fun c => comA p (dcd c) M) K k hkl)
      have hv := HVL.out (K.getD k 0) (by rw [List.getD_eq_getElem?_getD, List.getElem?_eq_getElem hkl]; exact List.getElem_mem hkl)
      have HV := Lib.hid hv
      clear hv
      obtain ⟨x0, x1, x2, x3, x4, x5⟩ := hat1
      simp only [] at x0 x1 x2 x3 x4 x5
      generalize hMM : ((K.take k).filter fun c => comA p (dcd c) M) = MM at *
      generalize K.getD k 0 = x at *
      go_wp2_with fail
      obtain ⟨wo, hwo⟩ : ∃ wo, wo = wr := ⟨_, rfl⟩
      subst hwo
      go_loopw [7, 8] (fun g i2 wr => ∃ m : Nat, m ≤ M.length ∧ i2 = .int .i64 m ∧ g = .bool (comA p (dcd x) (M.take m)) ∧ Below wo.heap.size wo wr) (fun _ i2 _ => M.length - (intOf i2).toNat)
      case atStart => exact ⟨0, by omega, rfl, rfl, Below.refl _ _⟩
      case round =>
        obtain ⟨m, hm, rfl, rfl, hb2⟩ := hrel
        have HB2 := Lib.hid hb2
        have hs2 := hb2.size
        have y0 := (hb2.cell (p := ⟨b1, _, none⟩) hl1).trans x0
        have y1 := (hb2.cell (p := ⟨b1, _, none⟩) hl1).trans x1
        have y2 := (hb2.cell (p := ⟨b1, _, none⟩) hl1).trans x2
        have y3 := (hb2.cell (p := ⟨b1, _, none⟩) hl1).trans x3
        have y4 := (hb2.cell (p := ⟨b1, _, none⟩) hl1).trans x4
        have y5 := (hb2.cell (p := ⟨b1, _, none⟩) hl1).trans x5
        clear hb2 x0 x1 x2 x3 x4 x5
        by_cases hml : m < M.length
        · have hml' : (m : Int) < (M.length : Int) := by omega
          have HCS := Lib.hid (comA_succ (p := p) (f := dcd x) m hml)
          generalize comA p (dcd x) (M.take m) = G at *
          obtain ⟨b2, o2, rfl, hl2, hat2⟩ := (HR2.out.below (HBR.out.trans (HB2.out.mono hsr))).at6 m hml
          obtain ⟨t0, t1, t2, t3, t4, t5⟩ := hat2
          obtain ⟨e1, e2⟩ := HM.out m hml
          have hq1 := fun w => times_any p (dcd x) (M.getD m z0).2 HV.out.2 e2 w
          have hq2 := fun w => times_any p (M.getD m z0).2 (dcd x) e2 HV.out.2 w
          have heq := runEqM p (mul p (dcd x) (M.getD m z0).2) p (mul p (M.getD m z0).2 (dcd x))
          obtain ⟨CB, hCB⟩ : ∃ CB, CB = comB p (dcd x) (M.getD m z0).2 := ⟨_, rfl⟩
          have hCB' : eqB p (mul p (dcd x) (M.getD m z0).2) p (mul p (M.getD m z0).2 (dcd x)) = CB := hCB.symm
          rw [hCB'] at heq
          have HCS2 := HCS.out
          clear HCS
          rw [← hCB] at HCS2
          have HCN := Lib.hid HCS2
          rw [e1] at t0
          clear hCB hCB' e1 e2 HCS2
          generalize (M.getD m z0).2 = t at *
          generalize mul p (dcd x) t = m1 at *
          generalize mul p t (dcd x) = m2 at *
          simp only [mv, mcells] at hq1 hq2 heq
          have HQ1 := Lib.hid hq1
          have HQ2 := Lib.hid hq2
          clear hq1 hq2
          have hl1' : b1 < wr.heap.size := by omega
          cases G with
          | false =>
            go_wp2_with fail
            go_quiet (fail)
            go_wp2_with fail
            go_roundw
            case rel => exact ⟨m + 1, by omega, by go_num, by rw [HCN.out]; rfl, by first | exact HB2.out | exact below_drewN HB2.out _⟩
            case measure => simp [intOf]; omega
          | true =>
            have r0 : ∀ z, Below wr.heap.size wr z → z.cell? ⟨b1, o1 + k * 6, none⟩ = some (.int .i64 p) := fun z h => (h.cell (p := ⟨b1, _, none⟩) hl1').trans y0
            have r1 : ∀ z, Below wr.heap.size wr z → z.cell? ⟨b1, o1 + k * 6 + 1, none⟩ = some (.int .i64 (dcd x 0)) := fun z h => (h.cell (p := ⟨b1, _, none⟩) hl1').trans y1
            have r2 : ∀ z, Below wr.heap.size wr z → z.cell? ⟨b1, o1 + k * 6 + 2, none⟩ = some (.int .i64 (dcd x 1)) := fun z h => (h.cell (p := ⟨b1, _, none⟩) hl1').trans y2
            have r3 : ∀ z, Below wr.heap.size wr z → z.cell? ⟨b1, o1 + k * 6 + 3, none⟩ = some (.int .i64 (dcd x 2)) := fun z h => (h.cell (p := ⟨b1, _, none⟩) hl1').trans y3
            have r4 : ∀ z, Below wr.heap.size wr z → z.cell? ⟨b1, o1 + k * 6 + 4, none⟩ = some (.int .i64 (dcd x 3)) := fun z h => (h.cell (p := ⟨b1, _, none⟩) hl1').trans y4
            have r5 : ∀ z, Below wr.heap.size wr z → z.cell? ⟨b1, o1 + k * 6 + 5, none⟩ = some (.int .i64 (dcd x 4)) := fun z h => (h.cell (p := ⟨b1, _, none⟩) hl1').trans y5
            have q0 : ∀ z, Below wr.heap.size wr z → z.cell? ⟨b2, o2 + m * 6, none⟩ = some (.int .i64 p) := fun z h => (h.cell (p := ⟨b2, _, none⟩) hl2).trans t0
            have q1 : ∀ z, Below wr.heap.size wr z → z.cell? ⟨b2, o2 + m * 6 + 1, none⟩ = some (.int .i64 (t 0)) := fun z h => (h.cell (p := ⟨b2, _, none⟩) hl2).trans t1
            have q2 : ∀ z, Below wr.heap.size wr z → z.cell? ⟨b2, o2 + m * 6 + 2, none⟩ = some (.int .i64 (t 1)) := fun z h => (h.cell (p := ⟨b2, _, none⟩) hl2).trans t2
            have q3 : ∀ z, Below wr.heap.size wr z → z.cell? ⟨b2, o2 + m * 6 + 3, none⟩ = some (.int .i64 (t 2)) := fun z h => (h.cell (p := ⟨b2, _, none⟩) hl2).trans t3
            have q4 : ∀ z, Below wr.heap.size wr z → z.cell? ⟨b2, o2 + m * 6 + 4, none⟩ = some (.int .i64 (t 3)) := fun z h => (h.cell (p := ⟨b2, _, none⟩) hl2).trans t4
            have q5 : ∀ z, Below wr.heap.size wr z → z.cell? ⟨b2, o2 + m * 6 + 5, none⟩ = some (.int .i64 (t 4)) := fun z h => (h.cell (p := ⟨b2, _, none⟩) hl2).trans t5
            clear y0 y1 y2 y3 y4 y5 t0 t1 t2 t3 t4 t5
            go_upto_region 9 with fail
            go_region_held3 (fun w' => Below wr.heap.size wr w') (first | (with_reducible assumption) | ((repeat' (first | (with_reducible exact Below.refl _ _) | (with_reducible refine Below.alloc ?_ ?_ _) | (with_reducible refine Below.setCell ?_ ?_ _) | (with_reducible refine Below.drew ?_) | (with_reducible refine below_drewN ?_ _) | (with_reducible refine Below.trans ?_ (Below.mono (Hid.out (by assumption)) ?_)) | omega | (simp; done) | (simp; omega))); done)) (first | (go_at_call 75; (with_reducible refine (HQ1.out _).mono ?_); rintro e w1 ⟨rfl, hb⟩; skip; obtain ⟨hc, hf⟩ := bcell hb; have hz := hb.size; have Hb := Lib.hid hb; (try simp at hz hc hf); (try (have hy := Nat.lt_of_succ_le hz)); have hz0 : wr.heap.size ≤ w1.heap.size := (by omega); (try (have hz1 : wr.heap.size < w1.heap.size := (by omega))); clear hb) | (go_at_call 75; (with_reducible refine (HQ2.out _).mono ?_); rintro e w1 ⟨rfl, hb⟩; skip; obtain ⟨hc, hf⟩ := bcell hb; have hz := hb.size; have Hb := Lib.hid hb; (try simp at hz hc hf); (try (have hy := Nat.lt_of_succ_le hz)); have hz0 : wr.heap.size ≤ w1.heap.size := (by omega); (try (have hz1 : wr.heap.size < w1.heap.size := (by omega))); clear hb))
            all_goals
              go_wp2_with fail
              go_roundw
              case rel => exact ⟨m + 1, by omega, by go_num, by rw [HCN.out]; rfl, HB2.out.trans (Below.mono (by (repeat' (first | (with_reducible exact Below.refl _ _) | (with_reducible refine Below.alloc ?_ ?_ _) | (with_reducible refine Below.setCell ?_ ?_ _) | (with_reducible refine Below.drew ?_) | (with_reducible refine below_drewN ?_ _) | (with_reducible refine Below.trans ?_ (Below.mono (Hid.out (by assumption)) ?_)) | omega | (simp; done) | (simp; omega)))) hs2)⟩
              case measure => simp [intOf]; omega
        · obtain rfl : m = M.length := by omega
          rw [List.take_length] at *
          have HO3 := Lib.hid (ownM_bel HOW.out HB2.out)
          have hbb : Below w.heap.size w wr := HBR.out.trans (HB2.out.mono hsr)
          have HB3 := Lib.hid hbb
          have hsz3 := hbb.size
          have HB4 : Hid (Below w.heap.size w (wr.alloc (.cells (mcells p (dcd x)) 39))) := Lib.hid (hbb.alloc (by omega) _)
          clear hbb
          cases hcx : comA p (dcd x) M with
          | true =>
            have HCX := Lib.hid hcx
            clear hcx
            go_wp2_with (at_builtin; refine wpList_appM rfl _ _ rfl w.heap.size _ (mE p MM) rfl (ownM_bel HO3.out ((Below.refl _ _).alloc (Nat.le_refl _) _)) (some ⟨wr.heap.size, 0, none⟩) 1 [(p, dcd x)] (fun e => by cases e) rfl (Or.inr ⟨_, 0, rfl, by simp, at_one (halloc_at _ _ _ rfl)⟩) (by rw [mE_len]; simp; omega) (by simp; omega) ?_; intro v4 w4 hown4 hgrow4; have HO4 := Lib.hid hown4; have HB5 := Lib.hid (HB4.out.grown hgrow4 HB4.out.size (fun q e => (HO3.out.lt q e).1)); clear hown4 hgrow4)
            go_roundw
            case rel => exact ⟨k + 1, by omega, by go_num, HB5.out, by rw [HFS.out, if_pos HCX.out, mE_app]; exact HO4.out⟩
            case measure => simp [intOf]; omega
          | false =>
            have HCX := Lib.hid hcx
            clear hcx
            go_wp2_with fail
            go_roundw
            case rel => exact ⟨k + 1, by omega, by go_num, HB3.out, by rw [HFS.out, if_neg (by rw [HCX.out]; decide), List.append_nil]; exact HO3.out⟩
            case measure => simp [intOf]; omega
    · obtain rfl : k = K.length := by omega
      have hfl := filt_le (fun c => comA p (dcd c) M) K K.length
      rw [List.take_length] at HOW hfl
      obtain ⟨a2', cap2, rfl, hr2⟩ := ownM_rd HOW.out (by rw [mE_len]; omega)
      have HR2 := Lib.hid hr2
      clear hr2
      rw [mE_len]
      go_wp2_with fail
      go_ret
      exact ⟨a2', cap2, rfl, HR2.out, HBR.out⟩

end Go.Proofs.Ytpkapgidpgmdoaa
