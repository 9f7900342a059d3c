/- The contracts of spec.l10Parts and spec.StrongParts. -/
import Derived.Test.YtpphihjbgikjkaaDoorSoo
import Derived.Test.YtpphihjbgikjkaaDoorSpp
import Derived.Test.YtpphihjbgikjkaaDoorIpp
namespace Go.Proofs.YtpphihjbgikjkaaDoor
open Go Go.RowKit

set_option maxRecDepth 100000 in
set_option maxHeartbeats 8000000 in
theorem sprt_any (L : List MapN) {n : Nat} (hok : LOk L n) (a : Option Addr) (cap : Nat) (w : World) (hr : InRowM w a L) :
    Calls Tryd.prog 33 #[.slice a L.length cap] w (RetOwn w.heap.size (prM L n) w) := by
  obtain ⟨i0, hi, hz0, hz1, hz2⟩ := info_parts info_int
  have hn5 := hok.n5
  have hl : 0 < L.length := by have := hok.len1; omega
  have hl' : (0 : Int) < (L.length : Int) := by omega
  obtain ⟨b, off, rfl, hbl, hat⟩ := hr.at0 hl
  have h0 := hat.1
  rw [hok.pts 0 hl] at h0
  have HO := Lib.hid fun c hc wx (hb : Below w.heap.size w wx) => sorb_any L hok c hc (some ⟨b, off, none⟩) cap wx (hr.below hb)
  have HK := Lib.hid hok
  clear hat hr hok
  go_enter Tryd.func33, Tryd.ntmps33
  go_wp2_with fail
  go_loopw [4, 5, 6, 7, 8, 9] (fun me v i _ _ _ wr => ∃ k : Nat, k ≤ n ∧ i = .int .i64 (k : Int) ∧ me = .int .i64 (mask (metB L k)) ∧ Own wr w.heap.size v (prM L k) ∧ Below w.heap.size w wr) (fun _ _ i _ _ _ _ => n - (intOf i).toNat)
  case atStart => exact ⟨0, by omega, rfl, rfl, own_empty _ _ (Nat.le_refl _), (Below.refl _ _).alloc (Nat.le_refl _) _⟩
  case round =>
    obtain ⟨k, hk, rfl, rfl, hown, hb⟩ := hrel
    have HW := Lib.hid hown
    have HB := Lib.hid hb
    have hsr := hb.size
    have hpl := prM_len L k
    have hrk := rkK_le (orM L) k
    clear hown hb
    obtain ⟨wo, hwo⟩ : ∃ wo, wo = wr := ⟨_, rfl⟩
    subst hwo
    by_cases hkn : k < n
    · have hkn' : (k : Int) < (n : Int) := by omega
      have hmd := mask_bd (metB L k)
      have hand := and_mask (metB L k) k (by omega)
      rw [metB_own HK.out hkn] at hand
      by_cases hf : fst1 (orM L) k = k
      · have HMY := Lib.hid (prM_yes hf)
        have HMS := Lib.hid (metB_succ L k)
        have hor := or_masks (metB L k) (prtS L k)
        rw [HMS.out] at hor
        have HCA := Lib.hid (cutK_all (s := prtS L k) (n := n) (fun i hi => prtS_out HK.out hkn hi))
        rw [decide_eq_true hf, Bool.not_true] at hand
        clear hf
        have HOR := Lib.hid hor
        clear hor
        generalize mask (metB L k) = ME at *
        go_wp2_with fail
        refine (HO.out k hkn _ HB.out).mono ?_
        rintro e w1 ⟨rfl, hb⟩
        have HB1 := Lib.hid hb
        have hs1 := hb.size
        have hom := mask_bd (rchS L k)
        have HAN := Lib.hid fun j hj => and_mask (rchS L k) j hj
        have HW1 : Hid (Own w1 w.heap.size u5 (prM L k)) := Lib.hid ((Turn.of_below (S := fun _ => False) hb).own HW.out (fun _ _ h => h))
        have HBW : Hid (Below w.heap.size w w1) := Lib.hid (HB.out.trans (hb.mono hsr))
        clear hb
        generalize mask (rchS L k) = OM at *
        go_wp2_with fail
        go_loopw [7, 9] (fun v i wx => ∃ j : Nat, j ≤ n ∧ i = .int .i64 (j : Int) ∧ v = .int .i64 (mask (cutK (prtS L k) j)) ∧ Below w1.heap.size w1 wx) (fun _ i _ => n - (intOf i).toNat)
        case atStart => exact ⟨0, by omega, rfl, by rw [cutK_zero]; rfl, Below.refl _ _⟩
        case round =>
          obtain ⟨j, hj, rfl, rfl, hb⟩ := hrel
          have HBX := Lib.hid hb
          have hsx := hb.size
          clear hb
          by_cases hjn : j < n
          · have hjn' : (j : Int) < (n : Int) := by omega
            have hand2 := HAN.out j (by omega)
            have hmc := mask_bd (cutK (prtS L k) j)
            cases hrj : rchS L k j
            · have HCN := Lib.hid (cutK_no (s := prtS L k) (k := j) (by unfold prtS; rw [hrj]; rfl))
              rw [hrj] at hand2
              clear hrj
              generalize hCM : mask (cutK (prtS L k) j) = CM at *
              have HCM := Lib.hid hCM
              clear hCM
              go_wp2_with fail
              go_roundw
              case rel => exact ⟨j + 1, by omega, by go_num, by rw [HCN.out, HCM.out], HBX.out⟩
              case measure => simp [intOf]; omega
            · rw [hrj] at hand2
              have hand3 := and_mask (rchS L j) k (by omega)
              have hor3 := or_mask (cutK (prtS L k) j) j (by omega)
              have HO3 := Lib.hid fun wx (hb : Below w.heap.size w wx) => HO.out j hjn wx hb
              have hmj := mask_bd (rchS L j)
              cases hrk2 : rchS L j k
              · have HCN := Lib.hid (cutK_no (s := prtS L k) (k := j) (by unfold prtS; rw [hrj, hrk2]; rfl))
                rw [hrk2] at hand3
                clear hrj hrk2 hor3
                generalize mask (rchS L j) = OJ at *
                generalize hCM : mask (cutK (prtS L k) j) = CM at *
                have HCM := Lib.hid hCM
                clear hCM
                go_wp2_with fail
                refine (HO3.out _ (HBW.out.trans (HBX.out.mono (by omega)))).mono ?_
                rintro e w2 ⟨rfl, hb⟩
                have HB2 := Lib.hid hb
                clear hb
                go_wp2_with fail
                go_roundw
                case rel => exact ⟨j + 1, by omega, by go_num, by rw [HCN.out, HCM.out], HBX.out.trans (HB2.out.mono hsx)⟩
                case measure => simp [intOf]; omega
              · have hcy := cutK_yes (s := prtS L k) (k := j) (by unfold prtS; rw [hrj, hrk2]; rfl)
                rw [hcy] at hor3
                rw [hrk2] at hand3
                clear hrj hrk2 hcy
                generalize mask (rchS L j) = OJ at *
                generalize mask (cutK (prtS L k) j) = CM at *
                generalize hC2 : mask (cutK (prtS L k) (j + 1)) = C2 at *
                have HC2 := Lib.hid hC2
                have hj5 : (j : Int) < 5 := by omega
                clear hC2
                go_wp2_with fail
                refine (HO3.out _ (HBW.out.trans (HBX.out.mono (by omega)))).mono ?_
                rintro e w2 ⟨rfl, hb⟩
                have HB2 := Lib.hid hb
                clear hb
                go_wp2_with fail
                go_roundw
                case rel => exact ⟨j + 1, by omega, by go_num, by rw [HC2.out], HBX.out.trans (HB2.out.mono hsx)⟩
                case measure => simp [intOf]; omega
          · obtain rfl : j = n := by omega
            have hjn' : ¬ ((j : Int) < (j : Int)) := by omega
            have hor := HOR.out
            rw [HCA.out]
            have HWX : Hid (Own wr w.heap.size u5 (prM L k)) := Lib.hid ((Turn.of_below (S := fun _ => False) HBX.out).own HW1.out (fun _ _ h => h))
            have hpb := mask_bd (prtS L k)
            generalize hPM : mask (prtS L k) = PM at *
            generalize hM2 : mask (metB L (k + 1)) = ME2 at *
            have HM2 := Lib.hid hM2
            clear hM2 hPM HCA
            go_wp2_with (at_builtin; refine wpList_append_own _ rfl _ _ 36 rfl w.heap.size 2 i0 (.int .i64 0) 1 8 Tryd.underlying36 hi hz0 hz1 hz2 rfl (by decide) _ _ _ rfl (HWX.out.alloc _) ⟨wr.heap.size, 0, none⟩ 1 1 [.int .i64 PM] rfl rfl (cell_one_new _ _ _) (by intro u hu; simp at hu; subst hu; rfl) (by unfold maxLen; omega) (by omega) (by simp; omega) ?_; intro v2 w2 ho2 hg2 _)
            have HO2 : Hid (Own w2 w.heap.size v2 (prM L (k + 1))) := Lib.hid (by rw [HMY.out]; unfold Own; simpa using ho2)
            have HB2 : Hid (Below w.heap.size w w2) := Lib.hid (((HBW.out.trans (HBX.out.mono (by omega))).alloc (by omega) _).grown hg2 (by simp; omega) (fun r e => (HWX.out.lt r e).1))
            clear ho2 hg2
            go_roundw
            case rel => exact ⟨k + 1, by omega, by go_num, by rw [HM2.out], HO2.out, HB2.out⟩
            case measure => simp [intOf]; omega
      · have HMN := Lib.hid (prM_no hf)
        have HMO := Lib.hid (metB_old HK.out hkn hf)
        rw [decide_eq_false hf, Bool.not_false] at hand
        clear hf
        generalize hME : mask (metB L k) = ME at *
        have HME := Lib.hid hME
        clear hME
        go_wp2_with fail
        go_roundw
        case rel => exact ⟨k + 1, by omega, by go_num, by rw [HMO.out, HME.out], by rw [HMN.out]; exact HW.out, HB.out⟩
        case measure => simp [intOf]; omega
    · obtain rfl : k = n := by omega
      have hkn' : ¬ ((k : Int) < (k : Int)) := by omega
      generalize mask (metB L k) = ME at *
      go_wp2_with fail
      go_ret
      exact ⟨_, rfl, HW.out, HB.out⟩

end Go.Proofs.YtpphihjbgikjkaaDoor
