/- The contract of spec.MapOfWord. -/
import Derived.Test.YtpkapgidpgmdoaaMow
import Derived.Test.YtpkapgidpgmdoaaGiven
namespace Go.Proofs.Ytpkapgidpgmdoaa
open Go.RowKit

set_option maxRecDepth 100000 in
set_option maxHeartbeats 2000000 in
theorem sMow_any (a1 a2 : Option Addr) (c1 c2 : Nat) (L : List MapN) (W : List Int) (hl1 : L.length ≤ 1048576) (hl2 : W.length ≤ 1048576) (w : World) (hr1 : InRowM w a1 L) (hr2 : InRow w a2 W) :
    Calls Try.prog 34 #[.slice a1 L.length c1, .slice a2 W.length c2] w fun e w' => e = .returned (mowV L W) ∧ Below w.heap.size w w' := by
  have HR1 := Lib.hid hr1
  have HR2 := Lib.hid hr2
  have HCK := Lib.hid fun wx (hb : Below w.heap.size w wx) => given_any a1 none c1 0 L [] hl1 (by simp) wx (HR1.out.below hb) (Or.inl rfl)
  clear hr1 hr2
  by_cases hC : chkC L [] = 0
  · obtain ⟨hgood, hs1, hs6⟩ := good_of hC
    obtain ⟨hp1, hp5, hgk⟩ := hgood
    have HGK := Lib.hid hgk
    have HWK := Lib.hid fun k h => wrdK_ok (L := L) (W := W) ⟨hp1, hp5, hgk⟩ k h
    have HCK := HCK.out
    rw [hC] at HCK
    have HCKH := Lib.hid HCK
    clear HCK
    by_cases hW : W.length ≤ 100
    · have hlo : ¬ (100 < (W.length : Int)) := by omega
      have HVB : Hid (belB L.length W = false → mowV L W = .tuple #[mv 0 fun _ => 0, .int .i64 2]) := Lib.hid fun hbb => mowV_bad (L := L) (W := W) (C := 2) (by unfold mowC; rw [if_pos hC, if_pos hW, hbb]; rfl) (by decide)
      have HVG : Hid (belB L.length W = true → mowV L W = .tuple #[mv (fst0 L) (wrdK L W W.length), .int .i64 0]) := Lib.hid fun hbb => mowV_good (L := L) (W := W) (by unfold mowC; rw [if_pos hC, if_pos hW, hbb]; rfl)
      have hpos : 0 < L.length := by omega
      have hf0 : (L.getD 0 z0).1 = fst0 L := rfl
      have HF0 := Lib.hid hf0
      have HSTEP : Hid (∀ k, wrdK L W (k + 1) = mul (fst0 L) (wrdK L W k) (L.getD (W.getD k 0).toNat z0).2) := Lib.hid fun k => rfl
      have HID := Lib.hid fun w => sid_any (fst0 L) hp1 hp5 w
      have hsub : IntKind.i64.wrap ((L.length : Int) - 1) = (L.length : Int) - 1 := IntWalk.i64_in _ (by omega)
      have HSUB := Lib.hid hsub
      clear hf0 hC hgk hsub
      simp only [mv, mcells] at HID
      go_enter Try.func34, Try.ntmps34
      go_wp2_with fail
      refine (HCKH.out _ (by (repeat' (first | (with_reducible exact Below.refl _ _) | (with_reducible refine Below.alloc ?_ ?_ _) | (with_reducible refine Below.setCell ?_ ?_ _) | (with_reducible refine Below.drew ?_) | (with_reducible refine below_drewN ?_ _) | (with_reducible refine Below.trans ?_ (Below.mono (Hid.out (by assumption)) ?_)) | omega | (simp; done) | (simp; omega))))).mono ?_
      rintro e w1 ⟨rfl, hb⟩
      have hz := hb.size
      have HB1 : Hid (Below w.heap.size w w1) := Lib.hid (((Below.refl _ _).alloc (Nat.le_refl _) _).trans (hb.mono (by simp)))
      have HZ1 : Hid (w1.heap[w.heap.size]? = some (.cells (mcells 0 fun _ => 0) 39 (0, 0))) := Lib.hid ((hb.block _ (by simp)).trans (halloc_at w _ _ rfl))
      simp at hz
      clear hb
      obtain ⟨b, off, rfl, hbl, hat0⟩ := (HR1.out.below HB1.out).at0 hpos
      obtain ⟨y0, y1, y2, y3, y4, y5⟩ := hat0
      rw [HF0.out] at y0
      go_wp2_with fail
      refine (HID.out _).mono ?_
      rintro e w2 ⟨rfl, hb⟩
      have hz2 := hb.size
      have HB2 := Lib.hid hb
      clear hb y0 y1 y2 y3 y4 y5
      go_wp2_with fail
      go_loopw [8] (fun i wr => ∃ k : Nat, k ≤ W.length ∧ i = .int .i64 k ∧ (∀ j, j < k → 0 ≤ W.getD j 0 ∧ W.getD j 0 < L.length) ∧ Below w.heap.size w wr ∧ w2.heap.size < wr.heap.size ∧
        wr.heap[w.heap.size]? = some (.cells (mcells 0 fun _ => 0) 39 (0, 0)) ∧ wr.heap[w2.heap.size]? = some (.cells (mcells (fst0 L) (wrdK L W k)) 39 (0, 0))) (fun i _ => W.length - (intOf i).toNat)
      case atStart =>
        refine ⟨0, by omega, rfl, by omega, ?_, by simp, ?_, ?_⟩
        · exact (HB1.out.trans (HB2.out.mono (by omega))).alloc (by omega) _
        · exact (halloc_lt _ _ _ (by omega)).trans ((HB2.out.block _ (by omega)).trans HZ1.out)
        · exact halloc_at _ _ _ rfl
      case round =>
        obtain ⟨k, hk, rfl, hok, hb, hsz, b0, b1⟩ := hrel
        have HOK := Lib.hid hok
        have HB := Lib.hid hb
        have B0 := Lib.hid b0
        have B1 := Lib.hid b1
        clear hb b0 b1 hok
        by_cases hkm : k < W.length
        · have hkm' : (k : Int) < (W.length : Int) := by omega
          have hpos2 : 0 < W.length := by omega
          obtain ⟨b2, off2, rfl, hbl2, hin⟩ := (HR2.out.below HB.out).resolve_left (fun e => by rw [e] at hpos2; simp at hpos2)
          have e1 := hin k hkm
          have hs1' := HSUB.out
          by_cases hin1 : inB (W.getD k 0) 0 ((L.length : Int) - 1) = true
          · have hi2 := inB_true.1 hin1
            have f0 : 0 ≤ W.getD k 0 := hi2.1
            have f1 : W.getD k 0 < (L.length : Int) := by omega
            have f1' : (W.getD k 0).toNat < L.length := by omega
            obtain ⟨b', off', e, hbl', hat⟩ := (HR1.out.below HB.out).at6 (W.getD k 0).toNat f1'
            cases e
            obtain ⟨x0, x1, x2, x3, x4, x5⟩ := hat
            obtain ⟨y0, y1, y2, y3, y4, y5⟩ := blk6 B1.out
            have hfr := blk_free B1.out
            have HG := HGK.out _ f1'
            rw [HG.1] at x0
            have HP := Lib.hid fun w => times_any (fst0 L) (wrdK L W k) (L.getD (W.getD k 0).toNat z0).2 (HWK.out k (fun j hj => HOK.out j hj)) HG.2 w
            have HST := Lib.hid (HSTEP.out k)
            have HOK2 : Hid (∀ j, j < k + 1 → 0 ≤ W.getD j 0 ∧ W.getD j 0 < L.length) := Lib.hid fun j hj => by
              by_cases e : j = k
              · rw [e]; exact ⟨f0, f1⟩
              · exact HOK.out j (by omega)
            clear hin HG hi2
            generalize (L.getD (W.getD k 0).toNat z0).2 = T at *
            generalize W.getD k 0 = X at *
            simp only [mv, mcells] at HP
            go_wp2_with (go_at_call 74; refine (in_any _ _ _ _).mono ?_; rintro e wr ⟨rfl, rfl⟩)
            clear hs1'
            go_still_tail 8, (by kernel_rfl)
            go_wp2_with fail
            refine (HP.out _).mono ?_
            rintro e w3 ⟨rfl, hb3⟩
            have hbd : Below wr.heap.size wr w3 := ⟨hb3.os, hb3.tape, hb3.output, hb3.size, fun x hx => hb3.block x hx⟩
            have HB3 := Lib.hid hbd
            have hz3 := hbd.size
            have B1' := (hbd.block w2.heap.size hsz).trans B1.out
            obtain ⟨u0, u1, u2, u3, u4, u5⟩ := blk6 B1'
            have hfr3 := blk_free B1'
            have HB1' := Lib.hid B1'
            clear hb3 hbd B1'
            simp only []
            go_wp2_with fail
            go_roundw
            case rel =>
              refine ⟨k + 1, by omega, by go_num, HOK2.out, ?_, by simp; omega, ?_, ?_⟩
              · exact ((((((HB.out.trans (HB3.out.mono HB.out.size)).setCell (by simp; omega) _).setCell (by simp; omega) _).setCell (by simp; omega) _).setCell (by simp; omega) _).setCell (by simp; omega) _).setCell (by simp; omega) _
              · exact (chain_ne _ _ _ _ _ _ _ _ _ (by omega)).trans ((HB3.out.block _ (by omega)).trans B0.out)
              · rw [HST.out]; exact chainM HB1'.out
            case measure => simp [intOf]; omega
          · have hbb : belB L.length W = false := belB_false k hkm (fun h => hin1 (inB_true.2 (by omega)))
            have HV := Lib.hid (HVB.out hbb)
            simp only [Bool.not_eq_true] at hin1
            obtain ⟨r0, r1, r2, r3, r4, r5⟩ := blk6 B0.out
            have hfr := blk_free B0.out
            clear hin hbb
            generalize W.getD k 0 = X at *
            go_wp2_with (go_at_call 74; refine (in_any _ _ _ _).mono ?_; rintro e wr ⟨rfl, rfl⟩)
            refine bodyPost_ret (v := .tuple #[mv 0 fun _ => 0, .int .i64 2]) (by simp [results, Try.results34, go_sem, *]) rfl ⟨by rw [HV.out], ?_⟩
            exact (((((HB.out.setCell (Nat.le_refl _) _).setCell (Nat.le_refl _) _).setCell (Nat.le_refl _) _).setCell (Nat.le_refl _) _).setCell (Nat.le_refl _) _).setCell (Nat.le_refl _) _
        · obtain rfl : k = W.length := by omega
          have HV := Lib.hid (HVG.out (belB_true HOK.out))
          obtain ⟨y0, y1, y2, y3, y4, y5⟩ := blk6 B1.out
          obtain ⟨r0, r1, r2, r3, r4, r5⟩ := blk6 B0.out
          have hfr := blk_free B0.out
          go_wp2_with fail
          refine bodyPost_ret (v := .tuple #[mv (fst0 L) (wrdK L W W.length), .int .i64 0]) (by simp [results, Try.results34, go_sem, r0, r1, r2, r3, r4, r5]) rfl ⟨by rw [HV.out], ?_⟩
          exact (((((HB.out.setCell (Nat.le_refl _) _).setCell (Nat.le_refl _) _).setCell (Nat.le_refl _) _).setCell (Nat.le_refl _) _).setCell (Nat.le_refl _) _).setCell (Nat.le_refl _) _
    · have HV := mowV_bad (L := L) (W := W) (C := 2) (by unfold mowC; rw [if_pos hC, if_neg hW]) (by decide)
      rw [HV]
      have hlo : 100 < (W.length : Int) := by omega
      clear hC hgk HV hW
      go_enter Try.func34, Try.ntmps34
      go_wp2_with fail
      refine (HCKH.out _ (by (repeat' (first | (with_reducible exact Below.refl _ _) | (with_reducible refine Below.alloc ?_ ?_ _) | (with_reducible refine Below.setCell ?_ ?_ _) | (with_reducible refine Below.drew ?_) | (with_reducible refine below_drewN ?_ _) | (with_reducible refine Below.trans ?_ (Below.mono (Hid.out (by assumption)) ?_)) | omega | (simp; done) | (simp; omega))))).mono ?_
      rintro e w1 ⟨rfl, hb⟩
      have hz := hb.size
      have hbk := (hb.block w.heap.size (by simp)).trans (halloc_at w _ _ rfl)
      obtain ⟨r0, r1, r2, r3, r4, r5⟩ := blk6 (p := 0) (t := fun _ => 0) hbk
      have hfr := blk_free hbk
      have HB := Lib.hid hb
      simp at hz
      clear hb hbk
      go_wp2_with fail
      refine bodyPost_ret (v := .tuple #[mv 0 fun _ => 0, .int .i64 2]) (by simp [results, Try.results34, go_sem, *]) rfl ⟨rfl, ?_⟩
      (repeat' (first | (with_reducible exact Below.refl _ _) | (with_reducible refine Below.alloc ?_ ?_ _) | (with_reducible refine Below.setCell ?_ ?_ _) | (with_reducible refine Below.drew ?_) | (with_reducible refine below_drewN ?_ _) | (with_reducible refine Below.trans ?_ (Below.mono (Hid.out (by assumption)) ?_)) | omega | (simp; done) | (simp; omega)))
  · have HV := mowV_bad (L := L) (W := W) (C := chkC L []) (by unfold mowC; rw [if_neg hC]) hC
    rw [HV]
    have hne : (chkC L [] != 0) = true := by simpa using hC
    clear hC HV
    generalize chkC L [] = C at *
    go_enter Try.func34, Try.ntmps34
    go_wp2_with fail
    refine (HCK.out _ (by (repeat' (first | (with_reducible exact Below.refl _ _) | (with_reducible refine Below.alloc ?_ ?_ _) | (with_reducible refine Below.setCell ?_ ?_ _) | (with_reducible refine Below.drew ?_) | (with_reducible refine below_drewN ?_ _) | (with_reducible refine Below.trans ?_ (Below.mono (Hid.out (by assumption)) ?_)) | omega | (simp; done) | (simp; omega))))).mono ?_
    rintro e w1 ⟨rfl, hb⟩
    have hz := hb.size
    have hbk := (hb.block w.heap.size (by simp)).trans (halloc_at w _ _ rfl)
    obtain ⟨r0, r1, r2, r3, r4, r5⟩ := blk6 (p := 0) (t := fun _ => 0) hbk
    have hfr := blk_free hbk
    have HB := Lib.hid hb
    simp at hz
    clear hb hbk
    go_wp2_with fail
    refine bodyPost_ret (v := .tuple #[mv 0 fun _ => 0, .int .i64 C]) (by simp [results, Try.results34, go_sem, *]) rfl ⟨rfl, ?_⟩
    (repeat' (first | (with_reducible exact Below.refl _ _) | (with_reducible refine Below.alloc ?_ ?_ _) | (with_reducible refine Below.setCell ?_ ?_ _) | (with_reducible refine Below.drew ?_) | (with_reducible refine below_drewN ?_ _) | (with_reducible refine Below.trans ?_ (Below.mono (Hid.out (by assumption)) ?_)) | omega | (simp; done) | (simp; omega)))

end Go.Proofs.Ytpkapgidpgmdoaa
