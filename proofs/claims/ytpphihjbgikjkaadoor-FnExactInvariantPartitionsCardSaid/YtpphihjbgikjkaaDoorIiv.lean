/- The contract of impl.InvariantPartitions. -/
import Derived.Test.YtpphihjbgikjkaaDoorIpo
import Derived.Test.YtpphihjbgikjkaaDoorIip
import Derived.Test.YtpphihjbgikjkaaDoorRlo
namespace Go.Proofs.YtpphihjbgikjkaaDoor
open Go Go.RowKit

theorem map_at {A B : Type} {f : A → B} {l : List A} {j : Nat} {d : A} {e : B} (h : j < l.length) : (l.map f).getD j e = f (l.getD j d) := by
  rw [List.getD_eq_getElem?_getD, List.getElem?_map, List.getD_eq_getElem?_getD, List.getElem?_eq_getElem h]
  rfl

/-- Some rows of a list in another list. -/
theorem Trw.sel {w : World} {B B2 : Nat} {v0 v : Value} {us : List Value} {W : List (List Int)} {s : List Nat} (h : Trw w B v0 us W) (hB : B ≤ B2) (ho : w.ownsRow B2 36 1 v s.length (s.map fun i => us.getD i undef))
    (hs : ∀ i ∈ s, i < W.length) (ha : ∀ a b, a < b → b < s.length → s.getD a 0 < s.getD b 0) : Trw w B v (s.map fun i => us.getD i undef) (s.map fun i => W.getD i []) := by
  have hin : ∀ j, j < s.length → s.getD j 0 < W.length := fun j hj => by
    rw [List.getD_eq_getElem?_getD, List.getElem?_eq_getElem hj]
    exact hs _ (List.getElem_mem hj)
  refine ⟨by rw [List.length_map]; exact Joins.ownsRow_le ho hB, fun j hj => ?_, fun j hj => ?_, fun i j hij hj => ?_⟩
  · rw [List.length_map] at hj
    rw [map_at (d := 0) hj, map_at (d := 0) hj]
    exact h.row _ (hin j hj)
  · rw [List.length_map] at hj
    rw [map_at (d := 0) hj]
    exact h.full _ (hin j hj)
  · rw [List.length_map] at hj
    rw [map_at (d := 0) (by omega), map_at (d := 0) hj]
    exact h.ne _ _ (ha i j hij hj) (hin j hj)

theorem ip_mk (L : List MapN) {n : Nat} (hn : n ≤ 5) : mkF (ipL L n) 1 ≤ 20000000 := by
  have hl := pk_len n hn
  have hs := slI_len L (pkL n) n (pkL n).length
  have h1 := mkF_le 5 (ipL L n) 1 (fun X hX => by
    unfold ipL at hX
    obtain ⟨i, hi, rfl⟩ := List.mem_map.1 hX
    have := (parB_iff.1 (pk_par n hn _ (pk_in (slI_lt hi)))).1
    omega)
  have h2 : (ipL L n).length ≤ 52 := by unfold ipL; rw [List.length_map]; omega
  omega

theorem ip_row (L : List MapN) {n : Nat} (hn : n ≤ 5) (j : Nat) (hj : j < (ipL L n).length) : ((ipL L n).getD j []).length ≤ 5 := by
  unfold ipL at hj ⊢
  rw [List.length_map] at hj
  rw [map_at (d := 0) hj]
  have hi : (slI L (pkL n) n (pkL n).length).getD j 0 < (pkL n).length := by
    rw [List.getD_eq_getElem?_getD, List.getElem?_eq_getElem hj]
    exact slI_lt (List.getElem_mem hj)
  have := (parB_iff.1 (pk_par n hn _ (pk_in hi))).1
  omega

theorem iip_par {L : List MapN} {P : List Int} {n : Nat} (hc : chkC L [] = 0) (hn : fst0 L = (n : Int)) (hp : parB P n = true) : iipV L P = .tuple #[.bool (invB L P n), .int .i64 0] := by
  have h1 := ptC_good hc hn hp
  unfold iipV iipB locC
  rw [if_pos h1, h1, hn, Int.toNat_natCast]
  cases invB L P n <;> rfl

set_option maxRecDepth 100000 in
set_option maxHeartbeats 8000000 in
theorem iIvp_any (L : List MapN) (hl1 : L.length ≤ 1048576) (a : Option Addr) (cap : Nat) (hc1 : a = none → cap = 0) (w : World) (hr : InRowM w a L) (hE : Er w) :
    Calls Tryd.prog 25 #[.slice a L.length cap] w (RetT w.heap.size (ivpL L) (chkC L []) w) := by
  obtain ⟨i0, hi, hz0, hz1, hz2⟩ := info_parts info_sl
  have HG := Lib.hid (check_any a none cap 0 L [] hc1 (fun _ => rfl) hl1 (by simp) w hr (Or.inl rfl))
  by_cases hC : chkC L [] = 0
  · obtain ⟨n, hok, hn⟩ := LOk.of hC
    have hsp : ivpL L = ipL L n := by unfold ivpL; rw [if_pos hC, hn, Int.toNat_natCast]
    rw [hsp, hC]
    rw [hC] at HG
    have hn5 := hok.n5
    have hn1 := hok.n1
    have hl : 0 < L.length := by have := hok.len1; omega
    have hl' : (0 : Int) < (L.length : Int) := by omega
    have HIP := Lib.hid fun P (hp : parB P n = true) hP a2 c2 wx (hb : Below w.heap.size w wx) h2 => (by
      have h := iIip_any L hl1 P hP a cap hc1 a2 c2 wx (hr.below hb) h2 (hE.bel hb)
      rw [iip_par hC hn hp] at h
      exact h : Calls Tryd.prog 22 #[.slice a L.length cap, .slice a2 P.length c2] wx fun e w' => e = .returned (.tuple #[.bool (invB L P n), .int .i64 0]) ∧ Below wx.heap.size wx w')
    obtain ⟨b, off, rfl, hbl, hat⟩ := hr.at0 hl
    have h0 := hat.1
    rw [hok.pts 0 hl] at h0
    have HPO := Lib.hid fun w => ipo_any n hn5 w
    clear hr hE hC hok hn hat hsp
    obtain ⟨RT, hRT⟩ : ∃ RT, RT = RetT w.heap.size (ipL L n) 0 w := ⟨_, rfl⟩
    have HRT := Lib.hid hRT
    rw [← hRT]
    clear hRT
    go_enter Tryd.func25, Tryd.ntmps25
    go_wp2_with fail
    refine HG.out.mono ?_
    rintro e w1 ⟨rfl, hb⟩
    have HB1 := Lib.hid hb
    have hx := (hb.cell (p := ⟨b, off, none⟩) hbl).trans h0
    have hz1' := hb.size
    clear hb h0
    go_wp2_with fail
    refine (HPO.out _).mono ?_
    rintro e w2 ⟨v, us, rfl, ht, hb⟩
    have HTB := Lib.hid (ht.trw (fun j hj => by
      have := (parB_iff.1 (pk_par n hn5 _ (pk_in hj))).1
      intro e
      rw [e] at this
      simp at this
      omega))
    obtain ⟨av, cv, rfl⟩ := ht.form
    have HB2 : Hid (Below w.heap.size w w2) := Lib.hid (HB1.out.trans (hb.mono hz1'))
    have hz2' := hb.size
    have HPL := Lib.hid (pk_len n hn5)
    obtain ⟨N, hN⟩ : ∃ N, N = (pkL n).length := ⟨_, rfl⟩
    have HN := Lib.hid hN
    rw [← hN] at HPL HTB ⊢
    have hN52 := HPL.out
    clear hN ht hb
    go_wp2_with fail
    go_loopw [5, 7, 8, 9, 21] (fun v _ _ _ i wr => ∃ j : Nat, j ≤ N ∧ i = .int .i64 (j : Int) ∧ wr.ownsRow w2.heap.size 36 1 v (slI L (pkL n) n j).length ((slI L (pkL n) n j).map fun i => us.getD i undef) ∧ Below w2.heap.size w2 wr) (fun _ _ _ _ i _ => N - (intOf i).toNat)
    case atStart => exact ⟨0, by omega, rfl, World.ownsRow_nil _ _ _ _, Below.refl _ _⟩
    case round =>
      obtain ⟨j, hj, rfl, hown, hb⟩ := hrel
      have HO := Lib.hid hown
      have HB := Lib.hid hb
      have hsr := hb.size
      have HBW : Hid (Below w.heap.size w wr) := Lib.hid (HB2.out.trans (hb.mono (by omega)))
      clear hown hb
      obtain ⟨wo, hwo⟩ : ∃ wo, wo = wr := ⟨_, rfl⟩
      subst hwo
      have HSL := Lib.hid (slI_len L (pkL n) n j)
      by_cases hjN : j < N
      · have hjN' : (j : Int) < (N : Int) := by omega
        have hjl : j < (pkL n).length := by rw [← HN.out]; exact hjN
        obtain ⟨g, cap4, e, hgB, hgl, hcell, hfr⟩ := HTB.out.trn.cell hjl
        injection e with e1 e2 e3
        subst e1 e3
        have hpar := pk_par n hn5 _ (pk_in hjl)
        have hrow := HTB.out.row j hjl
        have HSY := Lib.hid fun h => slI_yes (L := L) (W := pkL n) (n := n) (j := j) h
        have HSN := Lib.hid fun h => slI_no (L := L) (W := pkL n) (n := n) (j := j) h
        obtain ⟨P, hP⟩ : ∃ P, P = (pkL n).getD j [] := ⟨_, rfl⟩
        rw [← hP] at hpar hrow HSY HSN
        have hPl := (parB_iff.1 hpar).1
        obtain ⟨a2, c2, hu, hrd⟩ := own_rd hrow (by omega)
        have HU := Lib.hid hu
        rw [hu] at hcell
        have hce := (HB.out.cell (p := ⟨g, j, none⟩) hgl).trans hcell
        have hgl2 : g < wo.heap.size := by omega
        have HIQ := Lib.hid (HIP.out P hpar (by omega) a2 c2 wo HBW.out (hrd.inRow.below HB.out))
        clear hcell hu hrd hrow hP hpar hPl e2
        cases hiv : invB L P n
        · rw [hiv] at HIQ
          have HS2 := Lib.hid (HSN.out hiv)
          clear hiv HSY HSN
          go_wp2_with fail
          refine HIQ.out.mono ?_
          rintro e w5 ⟨rfl, hb5⟩
          have HB5 : Hid (Below w2.heap.size w2 w5) := Lib.hid (HB.out.trans (hb5.mono hsr))
          have HO5 : Hid (w5.ownsRow w2.heap.size 36 1 u5 (slI L (pkL n) n j).length ((slI L (pkL n) n j).map fun i => us.getD i undef)) := Lib.hid ((Turn.of_below (S := fun _ => False) hb5).own HO.out (fun _ _ h => h))
          clear hb5
          go_wp2_with fail
          go_roundw
          case rel => exact ⟨j + 1, by omega, by go_num, by rw [HS2.out]; exact HO5.out, HB5.out⟩
          case measure => simp [intOf]; omega
        · rw [hiv] at HIQ
          have HS2 := Lib.hid (HSY.out hiv)
          clear hiv HSY HSN
          go_wp2_with fail
          refine HIQ.out.mono ?_
          rintro e w5 ⟨rfl, hb5⟩
          have HB5 : Hid (Below w2.heap.size w2 w5) := Lib.hid (HB.out.trans (hb5.mono hsr))
          have hz5 := hb5.size
          have HO5 : Hid (w5.ownsRow w2.heap.size 36 1 u5 (slI L (pkL n) n j).length ((slI L (pkL n) n j).map fun i => us.getD i undef)) := Lib.hid ((Turn.of_below (S := fun _ => False) hb5).own HO.out (fun _ _ h => h))
          clear hb5
          go_wp2_with (at_builtin; refine wpList_append_own _ rfl _ _ 24 rfl w2.heap.size 36 i0 _ 1 24 Tryd.underlying24 hi hz0 hz1 hz2 rfl (by decide) u5 _ _ rfl (World.ownsRow.alloc HO5.out _) ⟨w5.heap.size, 0, none⟩ 1 1 [.slice a2 P.length c2] rfl rfl (cell_one8 (halloc_at _ _ _ rfl)) (by intro u hu; simp at hu; subst hu; rfl) (by have := HSL.out; unfold maxLen; omega) (by have := HSL.out; omega) (by simp; omega) ?_; intro v6 w6 ho6 hg6 _)
          have HO6 : Hid (w6.ownsRow w2.heap.size 36 1 v6 (slI L (pkL n) n (j + 1)).length ((slI L (pkL n) n (j + 1)).map fun i => us.getD i undef)) := Lib.hid (by
            rw [HS2.out, List.length_append, List.map_append]
            have e : List.map (fun i => us.getD i undef) [j] = [.slice a2 P.length c2] := by rw [List.map_cons, HU.out]; rfl
            rw [e]
            exact ho6)
          have HB6 : Hid (Below w2.heap.size w2 w6) := Lib.hid ((HB5.out.alloc (by omega) _).grown hg6 (by simp; omega) (fun r e => (HO5.out.lt r e).1))
          clear ho6 hg6
          go_roundw
          case rel => exact ⟨j + 1, by omega, by go_num, HO6.out, HB6.out⟩
          case measure => simp [intOf]; omega
      · obtain rfl : j = N := by omega
        have hjN' : ¬ ((j : Int) < (j : Int)) := by omega
        have HSE := (HTB.out.below HB.out).sel (s := slI L (pkL n) n j) (by omega) HO.out (fun i h => by rw [← HN.out]; exact slI_lt h) (fun a b hab hb => slI_asc hab hb)
        rw [HN.out] at HSE
        have hip : (slI L (pkL n) n (pkL n).length).map (fun i => (pkL n).getD i []) = ipL L n := rfl
        rw [hip] at HSE
        have hlen : (ipL L n).length ≤ 52 := by unfold ipL; rw [List.length_map]; have := slI_len L (pkL n) n (pkL n).length; have := HN.out; omega
        obtain ⟨a4, c4, hv4, hrt⟩ := HSE.rdT (by omega) (fun j hj => by have := ip_row L hn5 j hj; omega)
        have HRV := Lib.hid hrt
        rw [hv4]
        clear HSE hip hrt hv4
        go_wp2_with fail
        rw [HRT.out]
        exact retT_of rfl HRV.out (by omega) (ip_mk L hn5) HBW.out
  · have hsp : ivpL L = [] := by unfold ivpL; rw [if_neg hC]
    rw [hsp]
    have hne : (chkC L [] != 0) = true := by simpa using hC
    clear hr hE hC hsp
    generalize chkC L [] = C at *
    go_enter Tryd.func25, Tryd.ntmps25
    go_wp2_with fail
    refine HG.out.mono ?_
    rintro e w1 ⟨rfl, hb⟩
    have HB1 := Lib.hid hb
    clear hb
    go_wp2_with fail
    go_ret2
    exact retT_nil HB1.out _

end Go.Proofs.YtpphihjbgikjkaaDoor
