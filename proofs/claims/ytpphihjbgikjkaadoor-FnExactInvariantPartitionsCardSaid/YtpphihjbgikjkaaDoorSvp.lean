/- The contracts of spec.l10All and spec.InvariantPartitions. -/
import Derived.Test.YtpphihjbgikjkaaDoorSpr
import Derived.Test.YtpphihjbgikjkaaDoorSiv
import Derived.Test.YtpphihjbgikjkaaDoorIiv
namespace Go.Proofs.YtpphihjbgikjkaaDoor
open Go Go.RowKit

set_option maxRecDepth 100000 in
set_option maxHeartbeats 8000000 in
theorem sall_any (L : List MapN) {n : Nat} (hok : LOk L n) (a : Option Addr) (cap : Nat) (w : World) (hr : InRowM w a L) :
    Calls Tryd.prog 44 #[.slice a L.length cap] w fun e w' => ∃ v us, e = .returned v ∧ Trw w' w.heap.size v us (ipL L n) ∧ Below w.heap.size w w' := by
  obtain ⟨i0, hi, hz0, hz1, hz2⟩ := info_parts info_sl
  have hn5 := hok.n5
  have hn1 := hok.n1
  have hl : 0 < L.length := by have := hok.len1; omega
  have hl' : (0 : Int) < (L.length : Int) := by omega
  have HIV := Lib.hid fun P (hp : P.length = n) a2 c2 wx (hb : Below w.heap.size w wx) h2 => sinv_any L hok P hp a cap a2 c2 wx (hr.below hb) h2
  obtain ⟨b, off, rfl, hbl, hat⟩ := hr.at0 hl
  have h0 := hat.1
  rw [hok.pts 0 hl] at h0
  clear hr hat hok
  obtain ⟨wz, hwz⟩ : ∃ wz, wz = w.alloc (.cells #[.int .i64 0] 2) := ⟨_, rfl⟩
  have hzz : wz.heap.size = w.heap.size + 1 := by rw [hwz]; simp
  have HOZ : Hid (Own wz w.heap.size (.slice (some ⟨w.heap.size, 0, none⟩) 1 1) [0]) := Lib.hid (by
    rw [hwz]
    exact ⟨rfl, Or.inr ⟨_, 1, _, rfl, Nat.le_refl _, halloc_at _ _ _ rfl, Nat.le_refl _, by unfold maxLen; omega, rfl, rfl⟩⟩)
  have HBZ : Hid (Below w.heap.size w wz) := Lib.hid (by rw [hwz]; exact (Below.refl _ _).alloc (Nat.le_refl _) _)
  have hx := (HBZ.out.cell (p := ⟨b, off, none⟩) hbl).trans h0
  have HWZ := Lib.hid hwz
  have HSP := Lib.hid (spr_any (n - 1) (by omega) n [0] 1 _ w.heap.size wz (by simp) (by simp; omega) hn5 (by simp) HOZ.out (by omega))
  rw [rc_pk (n - 1) (by omega), show n - 1 + 1 = n by omega] at HSP
  rw [show ((1 : Nat) : Int) = 1 from rfl] at HSP
  rw [hwz] at hx
  clear hwz h0
  go_enter Tryd.func44, Tryd.ntmps44
  go_wp2_with fail
  rw [← HWZ.out]
  refine HSP.out.mono ?_
  rintro e w2 ⟨v, us, rfl, ht, hb⟩
  have HTB := Lib.hid ht
  obtain ⟨av, cv, rfl⟩ := ht.trn.form
  have HB2 : Hid (Below w.heap.size w w2) := Lib.hid (HBZ.out.trans (hb.mono (by omega)))
  have hz2' := hb.size
  have HPL := Lib.hid (pk_len n hn5)
  obtain ⟨N, hN⟩ : ∃ N, N = (pkL n).length := ⟨_, rfl⟩
  have HN := Lib.hid hN
  rw [← hN] at HPL HTB ⊢
  have hN52 := HPL.out
  clear hN ht hb
  go_wp2_with fail
  go_loopw [4, 5] (fun v i wr => ∃ j : Nat, j ≤ N ∧ i = .int .i64 (j : Int) ∧ wr.ownsRow w2.heap.size 36 1 v (slI L (pkL n) n j).length ((slI L (pkL n) n j).map fun i => us.getD i undef) ∧ Below w2.heap.size w2 wr) (fun _ i _ => N - (intOf i).toNat)
  case atStart => exact ⟨0, by omega, rfl, ⟨rfl, Or.inr ⟨_, 0, #[], rfl, Nat.le_refl _, halloc_at _ _ _ rfl, Nat.le_refl _, Nat.zero_le _, rfl, rfl⟩⟩, (Below.refl _ _).alloc (Nat.le_refl _) _⟩
  case round =>
    obtain ⟨j, hj, rfl, hown, hb⟩ := hrel
    have HO := Lib.hid hown
    have HB := Lib.hid hb
    have hsr := hb.size
    have HBW : Hid (Below w.heap.size w wr) := Lib.hid (HB2.out.trans (hb.mono (by omega)))
    clear hown hb
    obtain ⟨wo, hwo⟩ : ∃ wo, wo = wr := ⟨_, rfl⟩
    subst hwo
    have HSL := Lib.hid (slI_len L (pkL n) n j)
    by_cases hjN : j < N
    · have hjN' : (j : Int) < (N : Int) := by omega
      have hjl : j < (pkL n).length := by rw [← HN.out]; exact hjN
      obtain ⟨g, cap4, e, hgB, hgl, hcell, hfr⟩ := HTB.out.trn.cell hjl
      injection e with e1 e2 e3
      subst e1 e3
      have hpar := pk_par n hn5 _ (pk_in hjl)
      have hrow := HTB.out.row j hjl
      have HSY := Lib.hid fun h => slI_yes (L := L) (W := pkL n) (n := n) (j := j) h
      have HSN := Lib.hid fun h => slI_no (L := L) (W := pkL n) (n := n) (j := j) h
      obtain ⟨P, hP⟩ : ∃ P, P = (pkL n).getD j [] := ⟨_, rfl⟩
      rw [← hP] at hpar hrow HSY HSN
      have hPl := (parB_iff.1 hpar).1
      obtain ⟨a2, c2, hu, hrd⟩ := own_rd hrow (by omega)
      have HU := Lib.hid hu
      rw [hu] at hcell
      have hce := (HB.out.cell (p := ⟨g, j, none⟩) hgl).trans hcell
      have hgl2 : g < wo.heap.size := by omega
      have HIQ := Lib.hid (HIV.out P hPl a2 c2 wo HBW.out (hrd.inRow.below HB.out))
      clear hcell hu hrd hrow hP hpar hPl e2
      cases hiv : invB L P n
      · rw [hiv] at HIQ
        have HS2 := Lib.hid (HSN.out hiv)
        clear hiv HSY HSN
        go_wp2_with fail
        refine HIQ.out.mono ?_
        rintro e w5 ⟨rfl, hb5⟩
        have HB5 : Hid (Below w2.heap.size w2 w5) := Lib.hid (HB.out.trans (hb5.mono hsr))
        have HO5 : Hid (w5.ownsRow w2.heap.size 36 1 u4 (slI L (pkL n) n j).length ((slI L (pkL n) n j).map fun i => us.getD i undef)) := Lib.hid ((Turn.of_below (S := fun _ => False) hb5).own HO.out (fun _ _ h => h))
        clear hb5
        go_wp2_with fail
        go_roundw
        case rel => exact ⟨j + 1, by omega, by go_num, by rw [HS2.out]; exact HO5.out, HB5.out⟩
        case measure => simp [intOf]; omega
      · rw [hiv] at HIQ
        have HS2 := Lib.hid (HSY.out hiv)
        clear hiv HSY HSN
        go_wp2_with fail
        refine HIQ.out.mono ?_
        rintro e w5 ⟨rfl, hb5⟩
        have HB5 : Hid (Below w2.heap.size w2 w5) := Lib.hid (HB.out.trans (hb5.mono hsr))
        have hz5 := hb5.size
        have hce5 := (hb5.cell (p := ⟨g, j, none⟩) hgl2).trans hce
        have hgl5 : g < w5.heap.size := by omega
        have HO5 : Hid (w5.ownsRow w2.heap.size 36 1 u4 (slI L (pkL n) n j).length ((slI L (pkL n) n j).map fun i => us.getD i undef)) := Lib.hid ((Turn.of_below (S := fun _ => False) hb5).own HO.out (fun _ _ h => h))
        clear hb5 hce
        go_wp2_with (at_builtin; refine wpList_append_own _ rfl _ _ 24 rfl w2.heap.size 36 i0 _ 1 24 Tryd.underlying24 hi hz0 hz1 hz2 rfl (by decide) u4 _ _ rfl (World.ownsRow.alloc HO5.out _) ⟨w5.heap.size, 0, none⟩ 1 1 [.slice a2 P.length c2] rfl rfl (cell_one8 (halloc_at _ _ _ rfl)) (by intro u hu; simp at hu; subst hu; rfl) (by have := HSL.out; unfold maxLen; omega) (by have := HSL.out; omega) (by simp; omega) ?_; intro v6 w6 ho6 hg6 _)
        have HO6 : Hid (w6.ownsRow w2.heap.size 36 1 v6 (slI L (pkL n) n (j + 1)).length ((slI L (pkL n) n (j + 1)).map fun i => us.getD i undef)) := Lib.hid (by
          rw [HS2.out, List.length_append, List.map_append]
          have e : List.map (fun i => us.getD i undef) [j] = [.slice a2 P.length c2] := by rw [List.map_cons, HU.out]; rfl
          rw [e]
          exact ho6)
        have HB6 : Hid (Below w2.heap.size w2 w6) := Lib.hid ((HB5.out.alloc (by omega) _).grown hg6 (by simp; omega) (fun r e => (HO5.out.lt r e).1))
        clear ho6 hg6
        go_roundw
        case rel => exact ⟨j + 1, by omega, by go_num, HO6.out, HB6.out⟩
        case measure => simp [intOf]; omega
    · obtain rfl : j = N := by omega
      have hjN' : ¬ ((j : Int) < (j : Int)) := by omega
      have HSE := (HTB.out.below HB.out).sel (s := slI L (pkL n) n j) (by omega) HO.out (fun i h => by rw [← HN.out]; exact slI_lt h) (fun a b hab hb => slI_asc hab hb)
      rw [HN.out] at HSE
      have hip : (slI L (pkL n) n (pkL n).length).map (fun i => (pkL n).getD i []) = ipL L n := rfl
      rw [hip] at HSE
      have HSE := Lib.hid HSE
      clear hip
      go_wp2_with fail
      go_ret
      exact ⟨_, rfl, ⟨_, HSE.out⟩, HBW.out⟩

set_option maxRecDepth 100000 in
set_option maxHeartbeats 4000000 in
theorem sIvp_any (L : List MapN) (hl1 : L.length ≤ 1048576) (a : Option Addr) (cap : Nat) (_ : a = none → cap = 0) (w : World) (hr : InRowM w a L) :
    Calls Tryd.prog 24 #[.slice a L.length cap] w (RetT w.heap.size (ivpL L) (chkC L []) w) := by
  have HG := Lib.hid (given_any a none cap 0 L [] hl1 (by simp) w hr (Or.inl rfl))
  by_cases hC : chkC L [] = 0
  · obtain ⟨n, hok, hn⟩ := LOk.of hC
    have hsp : ivpL L = ipL L n := by unfold ivpL; rw [if_pos hC, hn, Int.toNat_natCast]
    rw [hsp, hC]
    rw [hC] at HG
    have hn5 := hok.n5
    have HS := Lib.hid fun wx (hb : Below w.heap.size w wx) => sall_any L hok a cap wx (hr.below hb)
    have hlen : (ipL L n).length ≤ 52 := by unfold ipL; rw [List.length_map]; have := slI_len L (pkL n) n (pkL n).length; have := pk_len n hn5; omega
    have HLEN := Lib.hid hlen
    have HROW := Lib.hid (ip_row L hn5)
    have HMK := Lib.hid (ip_mk L hn5)
    clear hr hC hok hn hsp hlen
    generalize ipL L n = R at *
    go_enter Tryd.func24, Tryd.ntmps24
    go_wp2_with fail
    refine HG.out.mono ?_
    rintro e w1 ⟨rfl, hb⟩
    have HB1 := Lib.hid hb
    have hz1 := hb.size
    clear hb
    go_wp2_with fail
    refine (HS.out _ HB1.out).mono ?_
    rintro e w2 ⟨v, us, rfl, ht, hb⟩
    obtain ⟨a4, c4, rfl, hrt⟩ := ht.rdT (by have := HLEN.out; omega) (fun j hj => by have := HROW.out j hj; omega)
    have HRT := Lib.hid hrt
    have HB2 := Lib.hid hb
    clear ht hrt hb
    go_wp2_with fail
    go_ret2
    exact retT_of rfl HRT.out (by omega) HMK.out (HB1.out.trans (HB2.out.mono hz1))
  · have hsp : ivpL L = [] := by unfold ivpL; rw [if_neg hC]
    rw [hsp]
    have hne : (chkC L [] != 0) = true := by simpa using hC
    clear hr hC hsp
    generalize chkC L [] = C at *
    go_enter Tryd.func24, Tryd.ntmps24
    go_wp2_with fail
    refine HG.out.mono ?_
    rintro e w1 ⟨rfl, hb⟩
    have HB1 := Lib.hid hb
    clear hb
    go_wp2_with fail
    go_ret2
    exact retT_nil HB1.out _

end Go.Proofs.YtpphihjbgikjkaaDoor
