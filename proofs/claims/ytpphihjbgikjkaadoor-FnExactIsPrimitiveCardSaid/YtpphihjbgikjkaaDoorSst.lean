/- The contracts of spec.l10Parts and spec.StrongParts. The contract of spec.StrongParts. The contracts of impl.IsTransitive and spec.IsTransitive. -/
import Derived.Test.YtpphihjbgikjkaaDoorRso
import Derived.Test.YtpphihjbgikjkaaDoorNsi
import Derived.Test.YtpphihjbgikjkaaDoorErd
namespace Go.Proofs.YtpphihjbgikjkaaDoor
open Go Go.RowKit

set_option maxRecDepth 100000 in
set_option maxHeartbeats 8000000 in
theorem sprt_any (L : List MapN) {n : Nat} (hok : LOk L n) (a : Option Addr) (cap : Nat) (w : World) (hr : InRowM w a L) :
    Calls Tryd.prog 33 #[.slice a L.length cap] w (RetOwn w.heap.size (prM L n) w) := by
  obtain ⟨i0, hi, hz0, hz1, hz2⟩ := info_parts info_int
  have hn5 := hok.n5
  have hl : 0 < L.length := by have := hok.len1; omega
  have hl' : (0 : Int) < (L.length : Int) := by omega
  obtain ⟨b, off, rfl, hbl, hat⟩ := hr.at0 hl
  have h0 := hat.1
  rw [hok.pts 0 hl] at h0
  have HO := Lib.hid fun c hc wx (hb : Below w.heap.size w wx) => sorb_any L hok c hc (some ⟨b, off, none⟩) cap wx (hr.below hb)
  have HK := Lib.hid hok
  clear hat hr hok
  go_enter Tryd.func33, Tryd.ntmps33
  go_wp2_with fail
  go_loopw [4, 5, 6, 7, 8, 9] (fun me v i _ _ _ wr => ∃ k : Nat, k ≤ n ∧ i = .int .i64 (k : Int) ∧ me = .int .i64 (mask (metB L k)) ∧ Own wr w.heap.size v (prM L k) ∧ Below w.heap.size w wr) (fun _ _ i _ _ _ _ => n - (intOf i).toNat)
  case atStart => exact ⟨0, by omega, rfl, rfl, own_empty _ _ (Nat.le_refl _), (Below.refl _ _).alloc (Nat.le_refl _) _⟩
  case round =>
    obtain ⟨k, hk, rfl, rfl, hown, hb⟩ := hrel
    have HW := Lib.hid hown
    have HB := Lib.hid hb
    have hsr := hb.size
    have hpl := prM_len L k
    have hrk := rkK_le (orM L) k
    clear hown hb
    obtain ⟨wo, hwo⟩ : ∃ wo, wo = wr := ⟨_, rfl⟩
    subst hwo
    by_cases hkn : k < n
    · have hkn' : (k : Int) < (n : Int) := by omega
      have hmd := mask_bd (metB L k)
      have hand := and_mask (metB L k) k (by omega)
      rw [metB_own HK.out hkn] at hand
      by_cases hf : fst1 (orM L) k = k
      · have HMY := Lib.hid (prM_yes hf)
        have HMS := Lib.hid (metB_succ L k)
        have hor := or_masks (metB L k) (prtS L k)
        rw [HMS.out] at hor
        have HCA := Lib.hid (cutK_all (s := prtS L k) (n := n) (fun i hi => prtS_out HK.out hkn hi))
        rw [decide_eq_true hf, Bool.not_true] at hand
        clear hf
        have HOR := Lib.hid hor
        clear hor
        generalize mask (metB L k) = ME at *
        go_wp2_with fail
        refine (HO.out k hkn _ HB.out).mono ?_
        rintro e w1 ⟨rfl, hb⟩
        have HB1 := Lib.hid hb
        have hs1 := hb.size
        have hom := mask_bd (rchS L k)
        have HAN := Lib.hid fun j hj => and_mask (rchS L k) j hj
        have HW1 : Hid (Own w1 w.heap.size u5 (prM L k)) := Lib.hid ((Turn.of_below (S := fun _ => False) hb).own HW.out (fun _ _ h => h))
        have HBW : Hid (Below w.heap.size w w1) := Lib.hid (HB.out.trans (hb.mono hsr))
        clear hb
        generalize mask (rchS L k) = OM at *
        go_wp2_with fail
        go_loopw [7, 9] (fun v i wx => ∃ j : Nat, j ≤ n ∧ i = .int .i64 (j : Int) ∧ v = .int .i64 (mask (cutK (prtS L k) j)) ∧ Below w1.heap.size w1 wx) (fun _ i _ => n - (intOf i).toNat)
        case atStart => exact ⟨0, by omega, rfl, by rw [cutK_zero]; rfl, Below.refl _ _⟩
        case round =>
          obtain ⟨j, hj, rfl, rfl, hb⟩ := hrel
          have HBX := Lib.hid hb
          have hsx := hb.size
          clear hb
          by_cases hjn : j < n
          · have hjn' : (j : Int) < (n : Int) := by omega
            have hand2 := HAN.out j (by omega)
            have hmc := mask_bd (cutK (prtS L k) j)
            cases hrj : rchS L k j
            · have HCN := Lib.hid (cutK_no (s := prtS L k) (k := j) (by unfold prtS; rw [hrj]; rfl))
              rw [hrj] at hand2
              clear hrj
              generalize hCM : mask (cutK (prtS L k) j) = CM at *
              have HCM := Lib.hid hCM
              clear hCM
              go_wp2_with fail
              go_roundw
              case rel => exact ⟨j + 1, by omega, by go_num, by rw [HCN.out, HCM.out], HBX.out⟩
              case measure => simp [intOf]; omega
            · rw [hrj] at hand2
              have hand3 := and_mask (rchS L j) k (by omega)
              have hor3 := or_mask (cutK (prtS L k) j) j (by omega)
              have HO3 := Lib.hid fun wx (hb : Below w.heap.size w wx) => HO.out j hjn wx hb
              have hmj := mask_bd (rchS L j)
              cases hrk2 : rchS L j k
              · have HCN := Lib.hid (cutK_no (s := prtS L k) (k := j) (by unfold prtS; rw [hrj, hrk2]; rfl))
                rw [hrk2] at hand3
                clear hrj hrk2 hor3
                generalize mask (rchS L j) = OJ at *
                generalize hCM : mask (cutK (prtS L k) j) = CM at *
                have HCM := Lib.hid hCM
                clear hCM
                go_wp2_with fail
                refine (HO3.out _ (HBW.out.trans (HBX.out.mono (by omega)))).mono ?_
                rintro e w2 ⟨rfl, hb⟩
                have HB2 := Lib.hid hb
                clear hb
                go_wp2_with fail
                go_roundw
                case rel => exact ⟨j + 1, by omega, by go_num, by rw [HCN.out, HCM.out], HBX.out.trans (HB2.out.mono hsx)⟩
                case measure => simp [intOf]; omega
              · have hcy := cutK_yes (s := prtS L k) (k := j) (by unfold prtS; rw [hrj, hrk2]; rfl)
                rw [hcy] at hor3
                rw [hrk2] at hand3
                clear hrj hrk2 hcy
                generalize mask (rchS L j) = OJ at *
                generalize mask (cutK (prtS L k) j) = CM at *
                generalize hC2 : mask (cutK (prtS L k) (j + 1)) = C2 at *
                have HC2 := Lib.hid hC2
                have hj5 : (j : Int) < 5 := by omega
                clear hC2
                go_wp2_with fail
                refine (HO3.out _ (HBW.out.trans (HBX.out.mono (by omega)))).mono ?_
                rintro e w2 ⟨rfl, hb⟩
                have HB2 := Lib.hid hb
                clear hb
                go_wp2_with fail
                go_roundw
                case rel => exact ⟨j + 1, by omega, by go_num, by rw [HC2.out], HBX.out.trans (HB2.out.mono hsx)⟩
                case measure => simp [intOf]; omega
          · obtain rfl : j = n := by omega
            have hjn' : ¬ ((j : Int) < (j : Int)) := by omega
            have hor := HOR.out
            rw [HCA.out]
            have HWX : Hid (Own wr w.heap.size u5 (prM L k)) := Lib.hid ((Turn.of_below (S := fun _ => False) HBX.out).own HW1.out (fun _ _ h => h))
            have hpb := mask_bd (prtS L k)
            generalize hPM : mask (prtS L k) = PM at *
            generalize hM2 : mask (metB L (k + 1)) = ME2 at *
            have HM2 := Lib.hid hM2
            clear hM2 hPM HCA
            go_wp2_with (at_builtin; refine wpList_append_own _ rfl _ _ 36 rfl w.heap.size 2 i0 (.int .i64 0) 1 8 Tryd.underlying36 hi hz0 hz1 hz2 rfl (by decide) _ _ _ rfl (HWX.out.alloc _) ⟨wr.heap.size, 0, none⟩ 1 1 [.int .i64 PM] rfl rfl (cell_one_new _ _ _) (by intro u hu; simp at hu; subst hu; rfl) (by unfold maxLen; omega) (by omega) (by simp; omega) ?_; intro v2 w2 ho2 hg2 _)
            have HO2 : Hid (Own w2 w.heap.size v2 (prM L (k + 1))) := Lib.hid (by rw [HMY.out]; unfold Own; simpa using ho2)
            have HB2 : Hid (Below w.heap.size w w2) := Lib.hid (((HBW.out.trans (HBX.out.mono (by omega))).alloc (by omega) _).grown hg2 (by simp; omega) (fun r e => (HWX.out.lt r e).1))
            clear ho2 hg2
            go_roundw
            case rel => exact ⟨k + 1, by omega, by go_num, by rw [HM2.out], HO2.out, HB2.out⟩
            case measure => simp [intOf]; omega
      · have HMN := Lib.hid (prM_no hf)
        have HMO := Lib.hid (metB_old HK.out hkn hf)
        rw [decide_eq_false hf, Bool.not_false] at hand
        clear hf
        generalize hME : mask (metB L k) = ME at *
        have HME := Lib.hid hME
        clear hME
        go_wp2_with fail
        go_roundw
        case rel => exact ⟨k + 1, by omega, by go_num, by rw [HMO.out, HME.out], by rw [HMN.out]; exact HW.out, HB.out⟩
        case measure => simp [intOf]; omega
    · obtain rfl : k = n := by omega
      have hkn' : ¬ ((k : Int) < (k : Int)) := by omega
      generalize mask (metB L k) = ME at *
      go_wp2_with fail
      go_ret
      exact ⟨_, rfl, HW.out, HB.out⟩

end Go.Proofs.YtpphihjbgikjkaaDoor

namespace Go.Proofs.YtpphihjbgikjkaaDoor
open Go Go.RowKit

theorem take_one {A : Type} (l : List A) (k : Nat) (h : k < l.length) : l.take (k + 1) = l.take k ++ [l[k]] := by
  rw [List.take_add_one, List.getElem?_eq_getElem h]; rfl

theorem take_getD {l : List (List Int)} {k j : Nat} (h : j < (l.take k).length) : (l.take k).getD j [] = l.getD j [] := by
  rw [List.length_take] at h
  rw [List.getD_eq_getElem?_getD, List.getElem?_take, if_pos (by omega), ← List.getD_eq_getElem?_getD]

set_option maxRecDepth 100000 in
set_option maxHeartbeats 8000000 in
theorem sStp_any (L : List MapN) (hl1 : L.length ≤ 1048576) (a : Option Addr) (cap : Nat) (_ : a = none → cap = 0) (w : World) (hr : InRowM w a L) :
    Calls Tryd.prog 10 #[.slice a L.length cap] w (RetT w.heap.size (sprL L) (chkC L []) w) := by
  have HG := Lib.hid (given_any a none cap 0 L [] hl1 (by simp) w hr (Or.inl rfl))
  by_cases hC : chkC L [] = 0
  · obtain ⟨n, hok, hn⟩ := LOk.of hC
    have hsp : sprL L = prR L n := by unfold sprL; rw [if_pos hC, hn, Int.toNat_natCast]
    rw [hsp, hC]
    rw [hC] at HG
    have hn5 := hok.n5
    have hrk := rkK_le (orM L) n
    have HP := Lib.hid fun wx (hb : Below w.heap.size w wx) => sprt_any L hok a cap wx (hr.below hb)
    have HMK : Hid (mkF (prR L n) 1 ≤ 20000000) := Lib.hid (by
      have h1 := mkF_le n (prR L n) 1 (fun X hX => by
        obtain ⟨j, hj, e⟩ := getD_mem hX
        rw [← e, ← cls_prt hok]
        exact clsK_rlen _ _ _)
      have h2 := rkK_le (orM L) n
      have h3 : (n : Int) * ((prR L n).length : Int) ≤ 5 * 5 := Int.mul_le_mul (by omega) (by rw [prR_len]; omega) (by omega) (by omega)
      omega)
    have HFU := Lib.hid (prR_full hok)
    have HML := Lib.hid (prM_len L n)
    have HRL := Lib.hid (prR_len L n)
    have HMA := Lib.hid (prM_at L n)
    have HRA := Lib.hid (prR_at L n)
    have HRN : Hid (∀ j, ((prR L n).getD j []).length ≤ n) := Lib.hid fun j => by rw [← cls_prt hok]; exact clsK_rlen _ _ _
    clear hr hC hn hok hsp
    obtain ⟨m, hm⟩ : ∃ m, m = rkK (orM L) n := ⟨_, rfl⟩
    rw [← hm] at hrk HML HRL HMA
    have HM := Lib.hid hm
    clear hm
    go_enter Tryd.func10, Tryd.ntmps10
    go_wp2_with fail
    refine HG.out.mono ?_
    rintro e w1 ⟨rfl, hb⟩
    have HB1 := Lib.hid hb
    have hz1 := hb.size
    clear hb
    go_wp2_with fail
    refine (HP.out _ HB1.out).mono ?_
    rintro e w2 ⟨v2, rfl, hown, hb⟩
    obtain ⟨a2, c2, rfl, hrd⟩ := own_rd hown (by rw [HML.out]; omega)
    rw [HML.out]
    have HIN := Lib.hid hrd.inRow
    have HB2 := Lib.hid hb
    have hz2 := hb.size
    have HBW : Hid (Below w.heap.size w w2) := Lib.hid (HB1.out.trans (hb.mono hz1))
    clear hown hrd hb
    go_wp2_with fail
    go_loopw [6, 7] (fun v i wr => ∃ (k : Nat) (us : List Value), k ≤ m ∧ i = .int .i64 (k : Int) ∧ Trw wr w2.heap.size v us ((prR L n).take k) ∧ Below w2.heap.size w2 wr) (fun _ i _ => m - (intOf i).toNat)
    case atStart => exact ⟨0, [], by omega, rfl, trw_nil _ _ (Nat.le_refl _), (Below.refl _ _).alloc (Nat.le_refl _) _⟩
    case round =>
      obtain ⟨k, us, hk, rfl, ht, hb⟩ := hrel
      have HT := Lib.hid ht
      have HB := Lib.hid hb
      have hsr := hb.size
      have htl : ((prR L n).take k).length = k := by rw [List.length_take, HRL.out]; omega
      clear ht hb
      obtain ⟨wo, hwo⟩ : ∃ wo, wo = wr := ⟨_, rfl⟩
      subst hwo
      by_cases hkm : k < m
      · have hkm' : (k : Int) < (m : Int) := by omega
        obtain ⟨b, off, rfl, hbl, hcs⟩ := (HIN.out.below HB.out).resolve_left (fun e => by have := HML.out; rw [e] at this; simp at this; omega)
        have hx := hcs k (by rw [HML.out]; exact hkm)
        rw [HMA.out k hkm] at hx
        have HSP := Lib.hid fun w => spoints_any (prB L n k) w
        have HTK : Hid ((prR L n).take (k + 1) = (prR L n).take k ++ [asc (prB L n k)]) := Lib.hid (by rw [take_one _ _ (by rw [HRL.out]; exact hkm), HRA.out k (by rw [← HM.out]; exact hkm)])
        have HNE : Hid (asc (prB L n k) ≠ []) := Lib.hid (by
          have h := HFU.out k (by rw [HRL.out]; exact hkm)
          rw [List.getD_eq_getElem?_getD, List.getElem?_eq_getElem (by rw [HRL.out]; exact hkm)] at h
          have h2 := HRA.out k (by rw [← HM.out]; exact hkm)
          rw [← h2]; exact h)
        have hmb := mask_bd (prB L n k)
        have HTL := Lib.hid htl
        clear hcs htl
        generalize (prR L n).take k = T1 at *
        generalize asc (prB L n k) = R at *
        generalize mask (prB L n k) = M at *
        go_wp2_with fail
        refine (HSP.out _).mono ?_
        rintro e w3 ⟨v3, rfl, hown, hb⟩
        obtain ⟨gu, cu, rfl, hgu, hgul⟩ := own_blk hown HNE.out
        have HOW := Lib.hid hown
        have HB3 := Lib.hid hb
        have hz3 := hb.size
        have HT3 : Hid (Trw w3 w2.heap.size u6 us T1) := Lib.hid (HT.out.below hb)
        have HNW : Hid (∀ i, i < T1.length → (us.getD i undef).ownBlock ≠ (Value.slice (some ⟨gu, 0, none⟩) R.length cu).ownBlock) := Lib.hid fun i hi e => by
          obtain ⟨g2, c2, e2, _, hl2⟩ := own_blk (HT.out.row i hi) (HT.out.full i hi)
          rw [e2] at e
          simp [Value.ownBlock] at e
          omega
        clear hown hb
        go_wp2_with (at_builtin; refine wpList_appT rfl _ _ rfl w2.heap.size _ us T1 rfl (HT3.out.below ((Below.refl _ _).alloc (Nat.le_refl _) _)) w3.heap.size 1 _ R ((Turn.of_below (S := fun _ => False) ((Below.refl _ _).alloc (Nat.le_refl _) _)).own (Joins.ownsRow_le HOW.out hsr) (fun _ _ h => h)) HNE.out HNW.out rfl (halloc_at _ _ _ rfl) (by rw [HTL.out]; omega) (by simp; omega) ?_; intro v4 w4 hown4 hgrow4; have HO4 := Lib.hid hown4; have HB5 := Lib.hid (((HB.out.trans (HB3.out.mono hsr)).alloc (by omega) _).grown hgrow4 (by simp; omega) (fun q e => (World.ownsRow.lt HT3.out.own q e).1)); clear hown4 hgrow4)
        go_roundw
        case rel => exact ⟨k + 1, _, by omega, by go_num, by rw [HTK.out]; exact HO4.out, HB5.out⟩
        case measure => simp [intOf]; omega
      · obtain rfl : k = m := by omega
        have hkm' : ¬ ((k : Int) < (k : Int)) := by omega
        have hta : (prR L n).take k = prR L n := List.take_of_length_le (by rw [HRL.out]; omega)
        rw [hta] at HT
        obtain ⟨a4, c4, rfl, hrt⟩ := HT.out.rdT (by rw [HRL.out]; omega) (fun j _ => by have := HRN.out j; omega)
        have HRT := Lib.hid hrt
        clear hrt hta htl
        go_wp2_with fail
        go_ret2
        exact retT_of rfl HRT.out (by omega) HMK.out (HBW.out.trans (HB.out.mono (by omega)))
  · have hsp : sprL L = [] := by unfold sprL; rw [if_neg hC]
    rw [hsp]
    have hne : (chkC L [] != 0) = true := by simpa using hC
    clear hr hC hsp
    generalize chkC L [] = C at *
    go_enter Tryd.func10, Tryd.ntmps10
    go_wp2_with fail
    refine HG.out.mono ?_
    rintro e w1 ⟨rfl, hb⟩
    have HB1 := Lib.hid hb
    clear hb
    go_wp2_with fail
    go_ret2
    exact retT_nil HB1.out _

end Go.Proofs.YtpphihjbgikjkaaDoor

namespace Go.Proofs.YtpphihjbgikjkaaDoor
open Go Go.RowKit

/-- Whether there is one strong part alone. -/
noncomputable def traB (L : List MapN) : Bool := ((sprL L).length : Int) == 1
noncomputable def traV (L : List MapN) : Value := .tuple #[.bool (traB L), .int .i64 (chkC L [])]

set_option maxRecDepth 100000 in
set_option maxHeartbeats 4000000 in
theorem iTra_any (L : List MapN) (hl1 : L.length ≤ 1048576) (a : Option Addr) (cap : Nat) (hc1 : a = none → cap = 0) (w : World) (hr : InRowM w a L) (_ : Er w) :
    Calls Tryd.prog 19 #[.slice a L.length cap] w fun e w' => e = .returned (traV L) ∧ Below w.heap.size w w' := by
  have HS := Lib.hid (iStp_any L hl1 a cap hc1 w hr)
  unfold traV traB
  clear hr
  generalize chkC L [] = C at *
  generalize sprL L = R at *
  go_enter Tryd.func19, Tryd.ntmps19
  go_wp2_with fail
  refine HS.out.mono ?_
  rintro e w1 ⟨a1, c1, rfl, _, _, hb⟩
  have HB := Lib.hid hb
  clear hb
  go_wp2_with fail
  go_ret2
  exact ⟨rfl, HB.out⟩

set_option maxRecDepth 100000 in
set_option maxHeartbeats 4000000 in
theorem sTra_any (L : List MapN) (hl1 : L.length ≤ 1048576) (a : Option Addr) (cap : Nat) (_ : a = none → cap = 0) (w : World) (hr : InRowM w a L) :
    Calls Tryd.prog 18 #[.slice a L.length cap] w fun e w' => e = .returned (traV L) ∧ Below w.heap.size w w' := by
  have HG := Lib.hid (given_any a none cap 0 L [] hl1 (by simp) w hr (Or.inl rfl))
  by_cases hC : chkC L [] = 0
  · obtain ⟨n, hok, hn⟩ := LOk.of hC
    have hsp : sprL L = prR L n := by unfold sprL; rw [if_pos hC, hn, Int.toNat_natCast]
    have hn5 := hok.n5
    have hrk := rkK_le (orM L) n
    have HP := Lib.hid fun wx (hb : Below w.heap.size w wx) => sprt_any L hok a cap wx (hr.below hb)
    have HML := Lib.hid (prM_len L n)
    unfold traV traB
    rw [hsp, hC, prR_len]
    rw [hC] at HG
    clear hr hC hn hok hsp
    generalize rkK (orM L) n = m at *
    generalize prM L n = R at *
    go_enter Tryd.func18, Tryd.ntmps18
    go_wp2_with fail
    refine HG.out.mono ?_
    rintro e w1 ⟨rfl, hb⟩
    have HB1 := Lib.hid hb
    clear hb
    go_wp2_with fail
    refine (HP.out _ HB1.out).mono ?_
    rintro e w2 ⟨v2, rfl, hown, hb⟩
    obtain ⟨a2, c2, rfl, hrd⟩ := own_rd hown (by rw [HML.out]; omega)
    rw [HML.out]
    have HB2 := Lib.hid hb
    have hz1 := HB1.out.size
    clear hown hrd hb
    go_wp2_with fail
    go_ret2
    exact ⟨rfl, HB1.out.trans (HB2.out.mono hz1)⟩
  · have hsp : sprL L = [] := by unfold sprL; rw [if_neg hC]
    have hne : (chkC L [] != 0) = true := by simpa using hC
    unfold traV traB
    rw [hsp]
    clear hr hC hsp
    generalize chkC L [] = C at *
    go_enter Tryd.func18, Tryd.ntmps18
    go_wp2_with fail
    refine HG.out.mono ?_
    rintro e w1 ⟨rfl, hb⟩
    have HB1 := Lib.hid hb
    clear hb
    go_wp2_with fail
    go_ret2
    exact ⟨rfl, HB1.out⟩

end Go.Proofs.YtpphihjbgikjkaaDoor
