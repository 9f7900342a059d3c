/- The contract of spec.InvariantSets. -/
import Derived.Test.YtpphihjbgikjkaaSpu
import Derived.Test.YtpphihjbgikjkaaSlt
import Derived.Test.YtpphihjbgikjkaaIis
import Derived.Test.YtpphihjbgikjkaaBits
import Derived.Test.YtpphihjbgikjkaaRlo
namespace Go.Proofs.Ytpphihjbgikjkaa
open Go Go.RowKit

theorem shl_pow (n : Nat) (hn : n ≤ 5) : wrap64 ((2 : Int) ^ n) = ((2 ^ n : Nat) : Int) := by
  rcases (by omega : n = 0 ∨ n = 1 ∨ n = 2 ∨ n = 3 ∨ n = 4 ∨ n = 5) with rfl | rfl | rfl | rfl | rfl | rfl <;> decide +kernel

/-- Whether a set is invariant under the first k maps. -/
def ivK (L : List MapN) (n m k : Nat) : Bool := (List.range k).all fun i => mask (unB (movK (L.getD i z0).2 (btF m) n) (btF m)) == (m : Int)
theorem ivK_succ (L : List MapN) (n m k : Nat) : ivK L n m (k + 1) = (ivK L n m k && (mask (unB (movK (L.getD k z0).2 (btF m) n) (btF m)) == (m : Int))) := by
  unfold ivK
  rw [List.range_succ, List.all_append]
  simp

set_option maxRecDepth 100000 in
set_option maxHeartbeats 4000000 in
theorem sIvs_any (L : List MapN) (hl1 : L.length ≤ 1048576) (a : Option Addr) (cap : Nat) (_ : a = none → cap = 0) (w : World) (hr : InRowM w a L) :
    Calls Try.prog 18 #[.slice a L.length cap] w (RetT w.heap.size (ivsL L) (chkC L []) w) := by
  have HG := Lib.hid (given_any a none cap 0 L [] hl1 (by simp) w hr (Or.inl rfl))
  by_cases hC : chkC L [] = 0
  · obtain ⟨n, hok, hn⟩ := LOk.of hC
    have hsp : ivsL L = ivR L n := by unfold ivsL; rw [if_pos hC, hn, Int.toNat_natCast]
    rw [hsp, hC]
    rw [hC] at HG
    have hn5 := hok.n5
    have hl : 0 < L.length := by have := hok.len1; omega
    have hl' : (0 : Int) < (L.length : Int) := by omega
    have HR := Lib.hid hr
    have HK := Lib.hid hok
    obtain ⟨b, off, rfl, hbl, hat⟩ := hr.at0 hl
    have h0 := hat.1
    rw [hok.pts 0 hl] at h0
    have H0 := Lib.hid h0
    have hsh := shl_pow n hn5
    have HIR : Hid (ivR L n = (ivC L n).map lsT) := Lib.hid rfl
    have HMK := Lib.hid (iv_mk L hn5)
    have HRL : Hid (∀ j, j < (ivR L n).length → ((ivR L n).getD j []).length ≤ 5) := Lib.hid fun j hj => by
      unfold ivR at hj ⊢
      rw [List.length_map] at hj
      rw [map_atR (d := 0) hj]
      exact lsT_len _
    have HRN : Hid ((ivR L n).length ≤ 32) := Lib.hid (by unfold ivR; rw [List.length_map]; exact ivC_len L hn5)
    have HIC := Lib.hid fun S hp hk => ivC_one (L := L) (n := n) (S := S) hn5 hp hk
    have HLT := Lib.hid fun m (h : m ∈ ivC L n) => ivC_lt (L := L) hn5 h
    have HLC := Lib.hid (ivC_len L hn5)
    have h25 : 2 ^ n ≤ 2 ^ 5 := Nat.pow_le_pow_right (by omega) hn5
    have h21 : 2 ^ 1 ≤ 2 ^ n := Nat.pow_le_pow_right (by omega) hok.n1
    clear hr hC hn hok hsp hat h0
    obtain ⟨P, hP⟩ : ∃ P, P = 2 ^ n := ⟨_, rfl⟩
    rw [← hP] at hsh h25 h21 HIC
    have HP := Lib.hid hP
    have HSH := Lib.hid hsh
    clear hP hsh
    go_enter Try.func18, Try.ntmps18
    go_wp2_with fail
    refine HG.out.mono ?_
    rintro e w1 ⟨rfl, hb⟩
    have HB1 := Lib.hid hb
    have hz1 := hb.size
    clear hb
    go_wp2_with fail
    go_loopw [5, 6, 7, 8] (fun v s _ _ wr => ∃ (m : Nat) (S : List Nat) (g c : Nat), 1 ≤ m ∧ m ≤ P ∧ s = .int .i64 (m : Int) ∧ v = .slice (some ⟨g, 0, none⟩) S.length c ∧ S.Perm (lvL L n m) ∧ kso S ∧ Own wr w.heap.size (.slice (some ⟨g, 0, none⟩) S.length c) (inJ S) ∧ Below w.heap.size w wr) (fun _ s _ _ _ => P - (intOf s).toNat)
    case atStart => exact ⟨1, [], w1.heap.size, 0, by omega, by omega, rfl, rfl, by rw [lvL_one], List.Pairwise.nil, own_empty _ _ hz1, HB1.out.alloc hz1 _⟩
    case round =>
      obtain ⟨m, S, g, c, hm1, hmP, rfl, rfl, hp, hk, hown, hb⟩ := hrel
      have HPE := Lib.hid hp
      have HKS := Lib.hid hk
      have HO := Lib.hid hown
      have HB := Lib.hid hb
      have hsr := hb.size
      have HSL : Hid (S.length ≤ 32) := Lib.hid (by have := lvL_len L n m; rw [hp.length_eq]; omega)
      have e0 := (hb.cell (p := ⟨b, off, none⟩) hbl).trans H0.out
      clear hp hk hown hb
      obtain ⟨wo, hwo⟩ : ∃ wo, wo = wr := ⟨_, rfl⟩
      subst hwo
      by_cases hmp : m < P
      · have hmp' : (m : Int) < wrap64 ((2 : Int) ^ n) := by rw [HSH.out]; omega
        go_wp2_with fail
        go_loopw [7, 8] (fun gd i wx => ∃ k : Nat, k ≤ L.length ∧ i = .int .i64 (k : Int) ∧ gd = .bool (ivK L n m k) ∧ Below wo.heap.size wo wx) (fun _ i _ => L.length - (intOf i).toNat)
        case atStart => exact ⟨0, by omega, rfl, rfl, Below.refl _ _⟩
        case round =>
          obtain ⟨k, hkL, rfl, rfl, hb⟩ := hrel
          have HBX := Lib.hid hb
          have hzx := hb.size
          have HBW : Hid (Below w.heap.size w wr) := Lib.hid (HB.out.trans (hb.mono hsr))
          clear e0
          by_cases hkl : k < L.length
          · have hkl' : (k : Int) < (L.length : Int) := by omega
            have HKS2 := Lib.hid (ivK_succ L n m k)
            cases hgd : ivK L n m k
            · rw [hgd, Bool.false_and] at HKS2
              clear hgd hb
              go_wp2_with fail
              go_roundw
              case rel => exact ⟨k + 1, by omega, by go_num, by rw [HKS2.out], HBX.out⟩
              case measure => simp [intOf]; omega
            · rw [hgd, Bool.true_and] at HKS2
              obtain ⟨b', off', ea, hbl', x0, x1, x2, x3, x4, x5⟩ := (HR.out.below HBW.out).at6 k hkl
              injection ea with ea
              injection ea with ea1 ea2
              subst ea1 ea2
              rw [HK.out.pts k hkl] at x0
              have HMV := Lib.hid fun w => smoved_any (n : Int) (L.getD k z0).2 (HK.out.isb k hkl) (btF m) w
              rw [bt_mask m (by omega)] at HMV
              simp only [Int.toNat_natCast] at HMV
              have hor := or_masks (movK (L.getD k z0).2 (btF m) n) (btF m)
              rw [bt_mask m (by omega)] at hor
              have hbd := mask_bd (movK (L.getD k z0).2 (btF m) n)
              clear hgd hb
              generalize mask (unB (movK (L.getD k z0).2 (btF m) n) (btF m)) = U at *
              generalize mask (movK (L.getD k z0).2 (btF m) n) = V at *
              generalize (L.getD k z0).2 = t at *
              simp only [mv, mcells] at HMV
              go_wp2_with fail
              refine (HMV.out _).mono ?_
              rintro e w4 ⟨rfl, hb⟩
              have HB4 := Lib.hid (HBX.out.trans (hb.mono hzx))
              clear hb
              go_wp2_with fail
              go_roundw
              case rel => exact ⟨k + 1, by omega, by go_num, by rw [HKS2.out], HB4.out⟩
              case measure => simp [intOf]; omega
          · obtain rfl : k = L.length := by omega
            have hkl' : ¬ ((L.length : Int) < (L.length : Int)) := by omega
            have hiv : ivK L n m L.length = ivM L n m := rfl
            have HO2 : Hid (Own wr w.heap.size (.slice (some ⟨g, 0, none⟩) S.length c) (inJ S)) := Lib.hid ((Turn.of_below (S := fun _ => False) hb).own HO.out (fun _ _ h => h))
            rw [hiv]
            clear hb hiv
            cases hgd : ivM L n m
            · have HLN := Lib.hid (lvL_no (k := m) hgd)
              clear hgd
              go_wp2_with fail
              go_roundw
              case rel => exact ⟨m + 1, S, g, c, by omega, by omega, by go_num, rfl, by rw [HLN.out]; exact HPE.out, HKS.out, HO2.out, HBW.out⟩
              case measure => simp [intOf]; omega
            · have HLY := Lib.hid (lvL_yes (k := m) hm1 hgd)
              have HPU := Lib.hid (sput_any S m (by omega) (fun x hx => by have := lvL_mem.1 (HPE.out.mem_iff.1 hx); omega) HKS.out (fun hx => by have := lvL_mem.1 (HPE.out.mem_iff.1 hx); omega) HSL.out w.heap.size g c wr HO2.out)
              clear hgd
              go_wp2_with fail
              refine HPU.out.mono ?_
              rintro e w5 ⟨v5, M, rfl, hp, hk, hown, hb⟩
              have hMl : M.length = S.length + 1 := by have := hp.length_eq; simpa using this
              obtain ⟨g5, c5, rfl, _, _⟩ := own_blk hown (fun e => by have := inJ_len M; rw [e] at this; simp at this; omega)
              rw [inJ_len] at hown
              rw [inJ_len]
              have HP5 : Hid (M.Perm (lvL L n (m + 1))) := Lib.hid (by rw [HLY.out]; exact hp.trans (HPE.out.append_right _))
              have HK5 := Lib.hid hk
              have HO5 : Hid (Own w5 w.heap.size (.slice (some ⟨g5, 0, none⟩) M.length c5) (inJ M)) := Lib.hid (World.ownsRow.mono (base' := w.heap.size) hown (by have := HBW.out.size; omega))
              have HB5 : Hid (Below w.heap.size w w5) := Lib.hid (HBW.out.trans (hb.mono HBW.out.size))
              clear hp hk hown hb hMl
              go_wp2_with fail
              go_roundw
              case rel => exact ⟨m + 1, M, g5, c5, by omega, by omega, by go_num, rfl, HP5.out, HK5.out, HO5.out, HB5.out⟩
              case measure => simp [intOf]; omega
      · obtain rfl : m = P := by omega
        have hmp' : ¬ ((m : Int) < wrap64 ((2 : Int) ^ n)) := by rw [HSH.out]; omega
        have hSC := HIC.out S HPE.out HKS.out
        have HLI : Hid (∀ wx, Below wo.heap.size wo wx → Calls Try.prog 43 #[.slice (some ⟨g, 0, none⟩) S.length c] wx fun e w' => ∃ (v : Value) (us : List Value), e = .returned v ∧ Trw w' wx.heap.size v us (S.map lsT) ∧ Below wx.heap.size wx w') := Lib.hid fun wx hb => by
          obtain ⟨a2, c2, e2, hrd⟩ := own_rd HO.out (by rw [inJ_len]; have := HSL.out; omega)
          rw [inJ_len] at e2
          injection e2 with e2 _ e3
          subst e2 e3
          exact slis_any S (fun x hx => (HLT.out x (by rw [← hSC]; exact hx)).1) (fun x hx => (HLT.out x (by rw [← hSC]; exact hx)).2) HSL.out (some ⟨g, 0, none⟩) c wx (hrd.inRow.below hb)
        have HSX : Hid (S.map lsT = ivR L n) := Lib.hid (by rw [hSC, HIR.out])
        rw [HSX.out] at HLI
        clear hSC
        go_wp2_with fail
        refine (HLI.out _ (Below.refl _ _)).mono ?_
        rintro e w7 ⟨v7, us, rfl, ht, hb⟩
        obtain ⟨a7, c7, rfl, hrt⟩ := ht.rdT (by have := HRN.out; omega) (fun j hj => by have := HRL.out j hj; omega)
        have HRT := Lib.hid hrt
        have HB7 := Lib.hid hb
        clear ht hrt hb
        go_wp2_with fail
        go_ret2
        exact retT_of rfl HRT.out hsr HMK.out (HB.out.trans (HB7.out.mono hsr))
  · have hsp : ivsL L = [] := by unfold ivsL; rw [if_neg hC]
    rw [hsp]
    have hne : (chkC L [] != 0) = true := by simpa using hC
    clear hr hC hsp
    generalize chkC L [] = C at *
    go_enter Try.func18, Try.ntmps18
    go_wp2_with fail
    refine HG.out.mono ?_
    rintro e w1 ⟨rfl, hb⟩
    have HB1 := Lib.hid hb
    clear hb
    go_wp2_with fail
    go_ret2
    exact retT_nil HB1.out _
end Go.Proofs.Ytpphihjbgikjkaa
