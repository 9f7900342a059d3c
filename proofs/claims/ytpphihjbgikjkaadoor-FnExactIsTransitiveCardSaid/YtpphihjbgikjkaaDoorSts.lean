/- The contract of spec.StrongParts. -/
import Derived.Test.YtpphihjbgikjkaaDoorSpt
namespace Go.Proofs.YtpphihjbgikjkaaDoor
open Go Go.RowKit

theorem take_one {A : Type} (l : List A) (k : Nat) (h : k < l.length) : l.take (k + 1) = l.take k ++ [l[k]] := by
  rw [List.take_add_one, List.getElem?_eq_getElem h]; rfl

theorem take_getD {l : List (List Int)} {k j : Nat} (h : j < (l.take k).length) : (l.take k).getD j [] = l.getD j [] := by
  rw [List.length_take] at h
  rw [List.getD_eq_getElem?_getD, List.getElem?_take, if_pos (by omega), ← List.getD_eq_getElem?_getD]

set_option maxRecDepth 100000 in
set_option maxHeartbeats 8000000 in
theorem sStp_any (L : List MapN) (hl1 : L.length ≤ 1048576) (a : Option Addr) (cap : Nat) (_ : a = none → cap = 0) (w : World) (hr : InRowM w a L) :
    Calls Tryd.prog 10 #[.slice a L.length cap] w (RetT w.heap.size (sprL L) (chkC L []) w) := by
  have HG := Lib.hid (given_any a none cap 0 L [] hl1 (by simp) w hr (Or.inl rfl))
  by_cases hC : chkC L [] = 0
  · obtain ⟨n, hok, hn⟩ := LOk.of hC
    have hsp : sprL L = prR L n := by unfold sprL; rw [if_pos hC, hn, Int.toNat_natCast]
    rw [hsp, hC]
    rw [hC] at HG
    have hn5 := hok.n5
    have hrk := rkK_le (orM L) n
    have HP := Lib.hid fun wx (hb : Below w.heap.size w wx) => sprt_any L hok a cap wx (hr.below hb)
    have HMK : Hid (mkF (prR L n) 1 ≤ 20000000) := Lib.hid (by
      have h1 := mkF_le n (prR L n) 1 (fun X hX => by
        obtain ⟨j, hj, e⟩ := getD_mem hX
        rw [← e, ← cls_prt hok]
        exact clsK_rlen _ _ _)
      have h2 := rkK_le (orM L) n
      have h3 : (n : Int) * ((prR L n).length : Int) ≤ 5 * 5 := Int.mul_le_mul (by omega) (by rw [prR_len]; omega) (by omega) (by omega)
      omega)
    have HFU := Lib.hid (prR_full hok)
    have HML := Lib.hid (prM_len L n)
    have HRL := Lib.hid (prR_len L n)
    have HMA := Lib.hid (prM_at L n)
    have HRA := Lib.hid (prR_at L n)
    have HRN : Hid (∀ j, ((prR L n).getD j []).length ≤ n) := Lib.hid fun j => by rw [← cls_prt hok]; exact clsK_rlen _ _ _
    clear hr hC hn hok hsp
    obtain ⟨m, hm⟩ : ∃ m, m = rkK (orM L) n := ⟨_, rfl⟩
    rw [← hm] at hrk HML HRL HMA
    have HM := Lib.hid hm
    clear hm
    go_enter Tryd.func10, Tryd.ntmps10
    go_wp2_with fail
    refine HG.out.mono ?_
    rintro e w1 ⟨rfl, hb⟩
    have HB1 := Lib.hid hb
    have hz1 := hb.size
    clear hb
    go_wp2_with fail
    refine (HP.out _ HB1.out).mono ?_
    rintro e w2 ⟨v2, rfl, hown, hb⟩
    obtain ⟨a2, c2, rfl, hrd⟩ := own_rd hown (by rw [HML.out]; omega)
    rw [HML.out]
    have HIN := Lib.hid hrd.inRow
    have HB2 := Lib.hid hb
    have hz2 := hb.size
    have HBW : Hid (Below w.heap.size w w2) := Lib.hid (HB1.out.trans (hb.mono hz1))
    clear hown hrd hb
    go_wp2_with fail
    go_loopw [6, 7] (fun v i wr => ∃ (k : Nat) (us : List Value), k ≤ m ∧ i = .int .i64 (k : Int) ∧ Trw wr w2.heap.size v us ((prR L n).take k) ∧ Below w2.heap.size w2 wr) (fun _ i _ => m - (intOf i).toNat)
    case atStart => exact ⟨0, [], by omega, rfl, trw_nil _ _ (Nat.le_refl _), (Below.refl _ _).alloc (Nat.le_refl _) _⟩
    case round =>
      obtain ⟨k, us, hk, rfl, ht, hb⟩ := hrel
      have HT := Lib.hid ht
      have HB := Lib.hid hb
      have hsr := hb.size
      have htl : ((prR L n).take k).length = k := by rw [List.length_take, HRL.out]; omega
      clear ht hb
      obtain ⟨wo, hwo⟩ : ∃ wo, wo = wr := ⟨_, rfl⟩
      subst hwo
      by_cases hkm : k < m
      · have hkm' : (k : Int) < (m : Int) := by omega
        obtain ⟨b, off, rfl, hbl, hcs⟩ := (HIN.out.below HB.out).resolve_left (fun e => by have := HML.out; rw [e] at this; simp at this; omega)
        have hx := hcs k (by rw [HML.out]; exact hkm)
        rw [HMA.out k hkm] at hx
        have HSP := Lib.hid fun w => spoints_any (prB L n k) w
        have HTK : Hid ((prR L n).take (k + 1) = (prR L n).take k ++ [asc (prB L n k)]) := Lib.hid (by rw [take_one _ _ (by rw [HRL.out]; exact hkm), HRA.out k (by rw [← HM.out]; exact hkm)])
        have HNE : Hid (asc (prB L n k) ≠ []) := Lib.hid (by
          have h := HFU.out k (by rw [HRL.out]; exact hkm)
          rw [List.getD_eq_getElem?_getD, List.getElem?_eq_getElem (by rw [HRL.out]; exact hkm)] at h
          have h2 := HRA.out k (by rw [← HM.out]; exact hkm)
          rw [← h2]; exact h)
        have hmb := mask_bd (prB L n k)
        have HTL := Lib.hid htl
        clear hcs htl
        generalize (prR L n).take k = T1 at *
        generalize asc (prB L n k) = R at *
        generalize mask (prB L n k) = M at *
        go_wp2_with fail
        refine (HSP.out _).mono ?_
        rintro e w3 ⟨v3, rfl, hown, hb⟩
        obtain ⟨gu, cu, rfl, hgu, hgul⟩ := own_blk hown HNE.out
        have HOW := Lib.hid hown
        have HB3 := Lib.hid hb
        have hz3 := hb.size
        have HT3 : Hid (Trw w3 w2.heap.size u6 us T1) := Lib.hid (HT.out.below hb)
        have HNW : Hid (∀ i, i < T1.length → (us.getD i undef).ownBlock ≠ (Value.slice (some ⟨gu, 0, none⟩) R.length cu).ownBlock) := Lib.hid fun i hi e => by
          obtain ⟨g2, c2, e2, _, hl2⟩ := own_blk (HT.out.row i hi) (HT.out.full i hi)
          rw [e2] at e
          simp [Value.ownBlock] at e
          omega
        clear hown hb
        go_wp2_with (at_builtin; refine wpList_appT rfl _ _ rfl w2.heap.size _ us T1 rfl (HT3.out.below ((Below.refl _ _).alloc (Nat.le_refl _) _)) w3.heap.size 1 _ R ((Turn.of_below (S := fun _ => False) ((Below.refl _ _).alloc (Nat.le_refl _) _)).own (Joins.ownsRow_le HOW.out hsr) (fun _ _ h => h)) HNE.out HNW.out rfl (halloc_at _ _ _ rfl) (by rw [HTL.out]; omega) (by simp; omega) ?_; intro v4 w4 hown4 hgrow4; have HO4 := Lib.hid hown4; have HB5 := Lib.hid (((HB.out.trans (HB3.out.mono hsr)).alloc (by omega) _).grown hgrow4 (by simp; omega) (fun q e => (World.ownsRow.lt HT3.out.own q e).1)); clear hown4 hgrow4)
        go_roundw
        case rel => exact ⟨k + 1, _, by omega, by go_num, by rw [HTK.out]; exact HO4.out, HB5.out⟩
        case measure => simp [intOf]; omega
      · obtain rfl : k = m := by omega
        have hkm' : ¬ ((k : Int) < (k : Int)) := by omega
        have hta : (prR L n).take k = prR L n := List.take_of_length_le (by rw [HRL.out]; omega)
        rw [hta] at HT
        obtain ⟨a4, c4, rfl, hrt⟩ := HT.out.rdT (by rw [HRL.out]; omega) (fun j _ => by have := HRN.out j; omega)
        have HRT := Lib.hid hrt
        clear hrt hta htl
        go_wp2_with fail
        go_ret2
        exact retT_of rfl HRT.out (by omega) HMK.out (HBW.out.trans (HB.out.mono (by omega)))
  · have hsp : sprL L = [] := by unfold sprL; rw [if_neg hC]
    rw [hsp]
    have hne : (chkC L [] != 0) = true := by simpa using hC
    clear hr hC hsp
    generalize chkC L [] = C at *
    go_enter Tryd.func10, Tryd.ntmps10
    go_wp2_with fail
    refine HG.out.mono ?_
    rintro e w1 ⟨rfl, hb⟩
    have HB1 := Lib.hid hb
    clear hb
    go_wp2_with fail
    go_ret2
    exact retT_nil HB1.out _

end Go.Proofs.YtpphihjbgikjkaaDoor
