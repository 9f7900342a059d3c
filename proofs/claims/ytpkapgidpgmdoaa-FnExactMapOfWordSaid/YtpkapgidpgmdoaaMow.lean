/- The contract of impl.MapOfWord. -/
import Derived.Test.YtpkapgidpgmdoaaChk
import Derived.Test.YtpkapgidpgmdoaaPow
import Derived.StillTailTactics
namespace Go.Proofs.Ytpkapgidpgmdoaa
open Go.RowKit

/-- The product of the first k maps of a word. -/
def wrdK (L : List MapN) (W : List Int) : Nat → (Nat → Int)
  | 0 => idn (fst0 L)
  | k + 1 => mul (fst0 L) (wrdK L W k) (L.getD (W.getD k 0).toNat z0).2

def mowC (L : List MapN) (W : List Int) : Int := if chkC L [] = 0 then (if W.length ≤ 100 then (if belB L.length W = true then 0 else 2) else 2) else chkC L []

def mowV (L : List MapN) (W : List Int) : Value := .tuple #[mv (resP (mowC L W) (fst0 L)) (resT (mowC L W) (wrdK L W W.length)), .int .i64 (mowC L W)]

theorem mowV_bad {L : List MapN} {W : List Int} {C : Int} (h : mowC L W = C) (h0 : C ≠ 0) : mowV L W = .tuple #[mv 0 fun _ => 0, .int .i64 C] := by
  unfold mowV resP resT; rw [h, if_neg h0]; simp only [if_neg h0]

theorem mowV_good {L : List MapN} {W : List Int} (h : mowC L W = 0) : mowV L W = .tuple #[mv (fst0 L) (wrdK L W W.length), .int .i64 0] := by
  unfold mowV resP resT; rw [h]; rfl

theorem chkC_zero {L O : List MapN} (h : chkC L O = 0) : allB (L ++ O) = true ∧ sizeB L = true ∧ sameB (fst0 L) (L ++ O) = true := by
  unfold chkC at h
  split at h
  · next h1 =>
    split at h
    · next h2 =>
      split at h
      · next h3 => exact ⟨h1, h2, h3⟩
      · omega
    · omega
  · omega

theorem sizeB_at {L : List MapN} (h : sizeB L = true) : 1 ≤ L.length ∧ L.length ≤ 6 := by unfold sizeB at h; simp at h; exact h

/-- A list whose maps all are maps of p points. -/
def goodL (p : Int) (L : List MapN) : Prop := 1 ≤ p ∧ p ≤ 5 ∧ ∀ k, k < L.length → (L.getD k z0).1 = p ∧ isB p (L.getD k z0).2 = true

theorem good_of {L : List MapN} (h : chkC L [] = 0) : goodL (fst0 L) L ∧ 1 ≤ L.length ∧ L.length ≤ 6 := by
  obtain ⟨h1, h2, h3⟩ := chkC_zero h
  rw [List.append_nil] at h1 h3
  have hs := sizeB_at h2
  have h0 := allB_at h1 0 (by omega)
  have hp := isB_pts h0
  refine ⟨⟨hp.1, hp.2, fun k hk => ?_⟩, hs⟩
  have e := sameB_at h3 k hk
  have b := allB_at h1 k hk
  rw [e] at b
  exact ⟨e, b⟩

theorem wrdK_ok {L : List MapN} {W : List Int} (hL : goodL (fst0 L) L) : ∀ k, (∀ j, j < k → 0 ≤ W.getD j 0 ∧ W.getD j 0 < L.length) → isB (fst0 L) (wrdK L W k) = true
  | 0, _ => idn_ok hL.1 hL.2.1
  | k + 1, h => by
    have := h k (by omega)
    exact mul_ok (wrdK_ok hL k (fun j hj => h j (by omega))) (hL.2.2 _ (by omega)).2

set_option maxRecDepth 100000 in
set_option maxHeartbeats 2000000 in
theorem iMow_any (a1 a2 : Option Addr) (c1 c2 : Nat) (L : List MapN) (W : List Int) (h1 : a1 = none → c1 = 0) (hl1 : L.length ≤ 1048576) (hl2 : W.length ≤ 1048576) (w : World) (hr1 : InRowM w a1 L) (hr2 : InRow w a2 W) :
    Calls Try.prog 36 #[.slice a1 L.length c1, .slice a2 W.length c2] w fun e w' => e = .returned (mowV L W) ∧ Below w.heap.size w w' := by
  have HR1 := Lib.hid hr1
  have HR2 := Lib.hid hr2
  have HCK := Lib.hid fun wx (hb : Below w.heap.size w wx) => check_any a1 none c1 0 L [] h1 (fun _ => rfl) hl1 (by simp) wx (HR1.out.below hb) (Or.inl rfl)
  clear hr1 hr2
  by_cases hC : chkC L [] = 0
  · obtain ⟨hgood, hs1, hs6⟩ := good_of hC
    obtain ⟨hp1, hp5, hgk⟩ := hgood
    have HGK := Lib.hid hgk
    have HWK := Lib.hid fun k h => wrdK_ok (L := L) (W := W) ⟨hp1, hp5, hgk⟩ k h
    have HCK := HCK.out
    rw [hC] at HCK
    have HCK := Lib.hid HCK
    by_cases hW : W.length ≤ 100
    · have hlo : ¬ (100 < (W.length : Int)) := by omega
      have HBL := fun wx (hb : Below w.heap.size w wx) => below_any L.length W hl2 a2 c2 wx (HR2.out.below hb)
      cases hbb : belB L.length W
      · have HV := mowV_bad (L := L) (W := W) (C := 2) (by unfold mowC; rw [if_pos hC, if_pos hW, hbb]; rfl) (by decide)
        rw [HV]
        rw [hbb] at HBL
        have HBL := Lib.hid HBL
        clear hbb hC hgk HV
        go_enter Try.func36, Try.ntmps36
        go_wp2_with fail
        refine (HCK.out _ (by (repeat' (first | (with_reducible exact Below.refl _ _) | (with_reducible refine Below.alloc ?_ ?_ _) | (with_reducible refine Below.setCell ?_ ?_ _) | (with_reducible refine Below.drew ?_) | (with_reducible refine below_drewN ?_ _) | (with_reducible refine Below.trans ?_ (Below.mono (Hid.out (by assumption)) ?_)) | omega | (simp; done) | (simp; omega))))).mono ?_
        rintro e w1 ⟨rfl, hb⟩
        have hz := hb.size
        have HB1 : Hid (Below w.heap.size w w1) := Lib.hid (((Below.refl _ _).alloc (Nat.le_refl _) _).trans (hb.mono (by simp)))
        have hbk := (hb.block w.heap.size (by simp)).trans (halloc_at w _ _ rfl)
        obtain ⟨r0, r1, r2, r3, r4, r5⟩ := blk6 (p := 0) (t := fun _ => 0) hbk
        have hfr := blk_free hbk
        have HB := Lib.hid hb
        simp at hz
        clear hb hbk
        go_wp2_with fail
        refine (HBL.out _ HB1.out).mono ?_
        rintro e w2 ⟨rfl, rfl⟩
        go_wp2_with fail
        refine bodyPost_ret (v := .tuple #[mv 0 fun _ => 0, .int .i64 2]) (by simp [results, Try.results36, go_sem, *]) rfl ⟨rfl, ?_⟩
        (repeat' (first | (with_reducible exact Below.refl _ _) | (with_reducible refine Below.alloc ?_ ?_ _) | (with_reducible refine Below.setCell ?_ ?_ _) | (with_reducible refine Below.drew ?_) | (with_reducible refine below_drewN ?_ _) | (with_reducible refine Below.trans ?_ (Below.mono (Hid.out (by assumption)) ?_)) | omega | (simp; done) | (simp; omega)))
      · have HV := mowV_good (L := L) (W := W) (by unfold mowC; rw [if_pos hC, if_pos hW, hbb]; rfl)
        rw [HV]
        have HBW := Lib.hid fun k hk => belB_at hbb k hk
        rw [hbb] at HBL
        have HBL := Lib.hid HBL
        have hpos : 0 < L.length := by omega
        clear hbb hC hgk HV
        have hf0 : (L.getD 0 z0).1 = fst0 L := rfl
        have HF0 := Lib.hid hf0
        have HSTEP : Hid (∀ k, wrdK L W (k + 1) = mul (fst0 L) (wrdK L W k) (L.getD (W.getD k 0).toNat z0).2) := Lib.hid fun k => rfl
        have HID := Lib.hid fun w => iid_any (fst0 L) hp1 hp5 w
        clear hf0
        simp only [mv, mcells] at *
        go_enter Try.func36, Try.ntmps36
        go_wp2_with fail
        refine (HCK.out _ (by (repeat' (first | (with_reducible exact Below.refl _ _) | (with_reducible refine Below.alloc ?_ ?_ _) | (with_reducible refine Below.setCell ?_ ?_ _) | (with_reducible refine Below.drew ?_) | (with_reducible refine below_drewN ?_ _) | (with_reducible refine Below.trans ?_ (Below.mono (Hid.out (by assumption)) ?_)) | omega | (simp; done) | (simp; omega))))).mono ?_
        rintro e w1 ⟨rfl, hb⟩
        have hz := hb.size
        have HB1 : Hid (Below w.heap.size w w1) := Lib.hid (((Below.refl _ _).alloc (Nat.le_refl _) _).trans (hb.mono (by simp)))
        have HZ1 : Hid (w1.heap[w.heap.size]? = some (.cells (mcells 0 fun _ => 0) 39 (0, 0))) := Lib.hid ((hb.block _ (by simp)).trans (halloc_at w _ _ rfl))
        simp at hz
        clear hb
        go_wp2_with fail
        refine (HBL.out _ HB1.out).mono ?_
        rintro e w2 ⟨rfl, rfl⟩
        obtain ⟨b, off, rfl, hbl, hat0⟩ := (HR1.out.below HB1.out).at0 hpos
        obtain ⟨y0, y1, y2, y3, y4, y5⟩ := hat0
        rw [HF0.out] at y0
        go_wp2_with fail
        refine (HID.out _).mono ?_
        rintro e w2 ⟨rfl, hb⟩
        have hz2 := hb.size
        have HB2 := Lib.hid hb
        clear hb y0 y1 y2 y3 y4 y5
        go_wp2_with fail
        go_loopw [9, 34] (fun _ i wr => ∃ k : Nat, k ≤ W.length ∧ i = .int .i64 k ∧ Below w.heap.size w wr ∧ w2.heap.size < wr.heap.size ∧
          wr.heap[w.heap.size]? = some (.cells (mcells 0 fun _ => 0) 39 (0, 0)) ∧ wr.heap[w2.heap.size]? = some (.cells (mcells (fst0 L) (wrdK L W k)) 39 (0, 0))) (fun _ i _ => W.length - (intOf i).toNat)
        case atStart =>
          refine ⟨0, by omega, rfl, ?_, by simp, ?_, ?_⟩
          · exact (HB1.out.trans (HB2.out.mono (by omega))).alloc (by omega) _
          · exact (halloc_lt _ _ _ (by omega)).trans ((HB2.out.block _ (by omega)).trans HZ1.out)
          · exact halloc_at _ _ _ rfl
        case round =>
          obtain ⟨k, hk, rfl, hb, hsz, b0, b1⟩ := hrel
          have HB := Lib.hid hb
          have B0 := Lib.hid b0
          have B1 := Lib.hid b1
          clear hb b0 b1
          by_cases hkm : k < W.length
          · have hkm' : (k : Int) < (W.length : Int) := by omega
            have hpos2 : 0 < W.length := by omega
            obtain ⟨b2, off2, rfl, hbl2, hin⟩ := (HR2.out.below HB.out).resolve_left (fun e => by rw [e] at hpos2; simp at hpos2)
            have e1 := hin k hkm
            obtain ⟨f0, f1⟩ := HBW.out k hkm
            have f1' : (W.getD k 0).toNat < L.length := by omega
            obtain ⟨b', off', e, hbl', hat⟩ := (HR1.out.below HB.out).at6 (W.getD k 0).toNat f1'
            cases e
            obtain ⟨x0, x1, x2, x3, x4, x5⟩ := hat
            obtain ⟨y0, y1, y2, y3, y4, y5⟩ := blk6 B1.out
            have hfr := blk_free B1.out
            have HG := HGK.out _ f1'
            rw [HG.1] at x0
            have HP := Lib.hid fun w => product_any (fst0 L) (wrdK L W k) (L.getD (W.getD k 0).toNat z0).2 (HWK.out k (fun j hj => HBW.out j (by omega))) HG.2 w
            have HST := Lib.hid (HSTEP.out k)
            clear hin HG
            generalize (L.getD (W.getD k 0).toNat z0).2 = T at *
            generalize W.getD k 0 = X at *
            simp only [mv, mcells] at HP
            go_wp2_with fail
            go_still_tail 5, (by kernel_rfl)
            go_wp2_with fail
            refine (HP.out _).mono ?_
            rintro e w3 ⟨rfl, hb3⟩
            have hbd : Below wr.heap.size wr w3 := ⟨hb3.os, hb3.tape, hb3.output, hb3.size, fun x hx => hb3.block x hx⟩
            have HB3 := Lib.hid hbd
            have hz3 := hbd.size
            have B1' := (hbd.block w2.heap.size hsz).trans B1.out
            obtain ⟨u0, u1, u2, u3, u4, u5⟩ := blk6 B1'
            have hfr3 := blk_free B1'
            have HB1' := Lib.hid B1'
            clear hb3 hbd B1'
            simp only []
            go_wp2_with fail
            go_roundw
            case rel =>
              refine ⟨k + 1, by omega, by go_num, ?_, by simp; omega, ?_, ?_⟩
              · exact ((((((HB.out.trans (HB3.out.mono HB.out.size)).setCell (by simp; omega) _).setCell (by simp; omega) _).setCell (by simp; omega) _).setCell (by simp; omega) _).setCell (by simp; omega) _).setCell (by simp; omega) _
              · exact (chain_ne _ _ _ _ _ _ _ _ _ (by omega)).trans ((HB3.out.block _ (by omega)).trans B0.out)
              · rw [HST.out]; exact chainM HB1'.out
            case measure => simp [intOf]; omega
          · obtain rfl : k = W.length := by omega
            obtain ⟨y0, y1, y2, y3, y4, y5⟩ := blk6 B1.out
            obtain ⟨r0, r1, r2, r3, r4, r5⟩ := blk6 B0.out
            have hfr := blk_free B0.out
            go_wp2_with fail
            refine bodyPost_ret (v := .tuple #[mv (fst0 L) (wrdK L W W.length), .int .i64 0]) (by simp [results, Try.results36, go_sem, r0, r1, r2, r3, r4, r5]) rfl ⟨rfl, ?_⟩
            exact (((((HB.out.setCell (Nat.le_refl _) _).setCell (Nat.le_refl _) _).setCell (Nat.le_refl _) _).setCell (Nat.le_refl _) _).setCell (Nat.le_refl _) _).setCell (Nat.le_refl _) _
    · have HV := mowV_bad (L := L) (W := W) (C := 2) (by unfold mowC; rw [if_pos hC, if_neg hW]) (by decide)
      rw [HV]
      have hlo : 100 < (W.length : Int) := by omega
      clear hC hgk HV hW
      go_enter Try.func36, Try.ntmps36
      go_wp2_with fail
      refine (HCK.out _ (by (repeat' (first | (with_reducible exact Below.refl _ _) | (with_reducible refine Below.alloc ?_ ?_ _) | (with_reducible refine Below.setCell ?_ ?_ _) | (with_reducible refine Below.drew ?_) | (with_reducible refine below_drewN ?_ _) | (with_reducible refine Below.trans ?_ (Below.mono (Hid.out (by assumption)) ?_)) | omega | (simp; done) | (simp; omega))))).mono ?_
      rintro e w1 ⟨rfl, hb⟩
      have hz := hb.size
      have hbk := (hb.block w.heap.size (by simp)).trans (halloc_at w _ _ rfl)
      obtain ⟨r0, r1, r2, r3, r4, r5⟩ := blk6 (p := 0) (t := fun _ => 0) hbk
      have hfr := blk_free hbk
      have HB := Lib.hid hb
      simp at hz
      clear hb hbk
      go_wp2_with fail
      refine bodyPost_ret (v := .tuple #[mv 0 fun _ => 0, .int .i64 2]) (by simp [results, Try.results36, go_sem, *]) rfl ⟨rfl, ?_⟩
      (repeat' (first | (with_reducible exact Below.refl _ _) | (with_reducible refine Below.alloc ?_ ?_ _) | (with_reducible refine Below.setCell ?_ ?_ _) | (with_reducible refine Below.drew ?_) | (with_reducible refine below_drewN ?_ _) | (with_reducible refine Below.trans ?_ (Below.mono (Hid.out (by assumption)) ?_)) | omega | (simp; done) | (simp; omega)))
  · have HV := mowV_bad (L := L) (W := W) (C := chkC L []) (by unfold mowC; rw [if_neg hC]) hC
    rw [HV]
    have hne : (chkC L [] != 0) = true := by simpa using hC
    clear hC HV
    generalize chkC L [] = C at *
    go_enter Try.func36, Try.ntmps36
    go_wp2_with fail
    refine (HCK.out _ (by (repeat' (first | (with_reducible exact Below.refl _ _) | (with_reducible refine Below.alloc ?_ ?_ _) | (with_reducible refine Below.setCell ?_ ?_ _) | (with_reducible refine Below.drew ?_) | (with_reducible refine below_drewN ?_ _) | (with_reducible refine Below.trans ?_ (Below.mono (Hid.out (by assumption)) ?_)) | omega | (simp; done) | (simp; omega))))).mono ?_
    rintro e w1 ⟨rfl, hb⟩
    have hz := hb.size
    have hbk := (hb.block w.heap.size (by simp)).trans (halloc_at w _ _ rfl)
    obtain ⟨r0, r1, r2, r3, r4, r5⟩ := blk6 (p := 0) (t := fun _ => 0) hbk
    have hfr := blk_free hbk
    have HB := Lib.hid hb
    simp at hz
    clear hb hbk
    go_wp2_with fail
    refine bodyPost_ret (v := .tuple #[mv 0 fun _ => 0, .int .i64 C]) (by simp [results, Try.results36, go_sem, *]) rfl ⟨rfl, ?_⟩
    (repeat' (first | (with_reducible exact Below.refl _ _) | (with_reducible refine Below.alloc ?_ ?_ _) | (with_reducible refine Below.setCell ?_ ?_ _) | (with_reducible refine Below.drew ?_) | (with_reducible refine below_drewN ?_ _) | (with_reducible refine Below.trans ?_ (Below.mono (Hid.out (by assumption)) ?_)) | omega | (simp; done) | (simp; omega)))

end Go.Proofs.Ytpkapgidpgmdoaa
