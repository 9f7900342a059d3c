/- The contracts of spec.l06Number, spec.ListOfClasses and spec.IsInvariantPartition. -/
import Derived.Test.YtpphihjbgikjkaaDoorLcp
import Derived.Test.YtpphihjbgikjkaaDoorSiv
import Derived.Test.YtpphihjbgikjkaaDoorNi
import Derived.Test.YtpphihjbgikjkaaDoorTurn
import Derived.StillTailTactics
namespace Go.Proofs.YtpphihjbgikjkaaDoor
open Go Go.RowKit

set_option maxRecDepth 100000 in
set_option maxHeartbeats 2000000 in
theorem snum10_any (P : List Int) (n : Nat) (hn : n ≤ 5) (hp : parB P n = true) (a : Option Addr) (c : Nat) (w : World) (hr : InRow w a P) :
    Calls Tryd.prog 46 #[.slice a P.length c] w fun e w' => e = .returned (.int .i64 (nxK P n : Int)) ∧ w' = w := by
  have HR := Lib.hid hr
  obtain ⟨hl, hok⟩ := parB_iff.1 hp
  have HL := Lib.hid hl
  have HOK := Lib.hid hok
  rw [hl]
  clear hr hp hl hok
  go_enter Tryd.func46, Tryd.ntmps46
  go_wp2_with fail
  go_loopw [3, 4] (fun v i wr => ∃ k : Nat, k ≤ n ∧ i = .int .i64 (k : Int) ∧ v = .int .i64 ((nxK P k : Int) - 1) ∧ wr = w) (fun _ i _ => n - (intOf i).toNat)
  case atStart => exact ⟨0, by omega, rfl, rfl, rfl⟩
  case round =>
    obtain ⟨k, hk, rfl, rfl, rfl⟩ := hrel
    have hnk := nxK_le P k
    by_cases hkn : k < n
    · have hkn' : (k : Int) < (n : Int) := by omega
      obtain ⟨b, off, rfl, hlt, hin⟩ := HR.out.resolve_left (fun e => by have h3 := HL.out; rw [e] at h3; simp at h3; omega)
      have e1 := hin k (by rw [HL.out]; exact hkn)
      obtain ⟨h0, h1⟩ := okP_iff.1 (HOK.out k hkn)
      have HNN := Lib.hid (nxK_new (P := P) (k := k))
      have HNO := Lib.hid (nxK_old (P := P) (k := k))
      clear hin
      generalize P.getD k 0 = X at *
      by_cases hx : X = (nxK P k : Int)
      · have HN2 := Lib.hid (HNN.out hx)
        clear HNN HNO
        have hmx : max ((nxK P k : Int) - 1) X = X := by omega
        have hX2 : X = (nxK P k : Int) := hx
        clear hx h1
        generalize nxK P k = NK at *
        subst hX2
        go_wp2_with fail
        go_roundw
        case rel => exact ⟨k + 1, by omega, by go_num, by rw [HN2.out]; go_num, by trivial⟩
        case measure => simp [intOf]; omega
      · have HN2 := Lib.hid (HNO.out hx)
        clear HNN HNO
        have hmx : max ((nxK P k : Int) - 1) X = (nxK P k : Int) - 1 := by omega
        generalize nxK P k = NK at *
        go_wp2_with fail
        go_roundw
        case rel => exact ⟨k + 1, by omega, by go_num, by rw [HN2.out], by trivial⟩
        case measure => simp [intOf]; omega
    · obtain rfl : k = n := by omega
      have hkn' : ¬ ((k : Int) < (k : Int)) := by omega
      go_wp2_with fail
      go_ret
      exact ⟨by go_num, rfl⟩

theorem par_pos {P : List Int} {n : Nat} (hn : 1 ≤ n) (h : ∀ k, k < n → okP P k = true) : 1 ≤ nxK P n := by
  obtain ⟨h0, h1⟩ := okP_iff.1 (h 0 (by omega))
  have e : nxK P 1 = 1 := nxK_new (P := P) (k := 0) (by have h2 : (nxK P 0 : Int) = 0 := rfl; omega)
  have := nxK_mono P (show 1 ≤ n by omega)
  omega

set_option maxRecDepth 100000 in
set_option maxHeartbeats 8000000 in
theorem sLoc_any (L : List MapN) (hl1 : L.length ≤ 1048576) (P : List Int) (_ : P.length ≤ 1048576) (a : Option Addr) (cap : Nat) (_ : a = none → cap = 0) (a2 : Option Addr) (c2 : Nat) (w : World) (hr : InRowM w a L) (hr2 : InRow w a2 P) :
    Calls Tryd.prog 28 #[.slice a L.length cap, .slice a2 P.length c2] w (RetRowN w.heap.size (locL L P) (locC L P) w) := by
  have HG := Lib.hid (sgv10_any L hl1 P a cap a2 c2 w hr hr2)
  by_cases hC : ptC L P = 0
  · obtain ⟨hck, hpb⟩ := ptC_zero hC
    obtain ⟨n, hok, hn⟩ := LOk.of hck
    rw [hn, Int.toNat_natCast] at hpb
    obtain ⟨hPl, hPo⟩ := parB_iff.1 hpb
    have hn5 := hok.n5
    have HI := fun wx (hb : Below w.heap.size w wx) => sinv_any L hok P hPl a cap a2 c2 wx (hr.below hb) (hr2.below hb)
    rw [hC] at HG
    cases hi : invB L P n
    · have e1 : locC L P = 5 := by unfold locC; rw [if_pos hC, hn, Int.toNat_natCast, hi]; rfl
      have e2 : locL L P = [] := by unfold locL; rw [if_neg (by omega)]
      rw [e1, e2]
      rw [hi] at HI
      have HI := Lib.hid HI
      clear hr hr2 hC hck hpb hok hn hi e1 e2 hPo hPl
      go_enter Tryd.func28, Tryd.ntmps28
      go_wp2_with fail
      refine HG.out.mono ?_
      rintro e w1 ⟨rfl, hb⟩
      have HB1 := Lib.hid hb
      clear hb
      go_wp2_with fail
      refine (HI.out _ HB1.out).mono ?_
      rintro e w2 ⟨rfl, hb⟩
      have HB2 := Lib.hid hb
      clear hb
      go_wp2_with fail
      go_ret2
      exact ⟨none, 0, rfl, ⟨by simp, Or.inl rfl⟩, HB1.out.trans (HB2.out.mono HB1.out.size)⟩
    · have e1 : locC L P = 0 := by unfold locC; rw [if_pos hC, hn, Int.toNat_natCast, if_pos hi]
      have e2 : locL L P = locM L P n := by unfold locL; rw [if_pos e1, hn, Int.toNat_natCast]
      rw [e1, e2]
      rw [hi] at HI
      have HI := Lib.hid HI
      have hl6 := hok.len6
      have HN := Lib.hid fun wx (hb : Below w.heap.size w wx) => snum10_any P n hn5 hpb a2 c2 wx (hr2.below hb)
      have HK := Lib.hid hok
      have HIV := Lib.hid (invB_iff.1 hi)
      have HPO := Lib.hid hPo
      have HR := Lib.hid hr
      have HP := Lib.hid hr2
      have HL := Lib.hid hPl
      have hmn := nxK_le P n
      have hm1 := par_pos hok.n1 hPo
      have HLM := Lib.hid (locM_len L P n)
      rw [hPl] at HN HI HG ⊢
      clear hr hr2 hC hck hpb hok hn hi e1 e2 hPo hPl
      obtain ⟨m, hm⟩ : ∃ m, m = nxK P n := ⟨_, rfl⟩
      have HM := Lib.hid hm
      rw [← hm] at HN hmn hm1
      clear hm
      go_enter Tryd.func28, Tryd.ntmps28
      go_wp2_with fail
      refine HG.out.mono ?_
      rintro e w1 ⟨rfl, hb⟩
      have HB1 := Lib.hid hb
      clear hb
      go_wp2_with fail
      refine (HI.out _ HB1.out).mono ?_
      rintro e w2 ⟨rfl, hb⟩
      have HB2 : Hid (Below w.heap.size w w2) := Lib.hid (HB1.out.trans (hb.mono HB1.out.size))
      clear hb HB1
      go_wp2_with fail
      refine (HN.out _ HB2.out).mono ?_
      rintro e w2 ⟨rfl, rfl⟩
      have hz2 := HB2.out.size
      have hmk := make_ints9 m (by omega)
      have HMK := Lib.hid hmk
      clear hmk
      go_wp2_with fail
      go_loopw [8, 9, 10, 11] (fun v i _ _ wr => ∃ k : Nat, k ≤ L.length ∧ i = .int .i64 (k : Int) ∧ OwnM wr w.heap.size v (locM (L.take k) P n) ∧ Below w.heap.size w wr) (fun _ i _ _ _ => L.length - (intOf i).toNat)
      case atStart => exact ⟨0, by omega, rfl, ownM_empty _ _ hz2, HB2.out.alloc hz2 _⟩
      case round =>
        obtain ⟨k, hk, rfl, hown, hb⟩ := hrel
        have HO := Lib.hid hown
        have HB := Lib.hid hb
        have hsr := hb.size
        clear hown hb
        obtain ⟨wo, hwo⟩ : ∃ wo, wo = wr := ⟨_, rfl⟩
        subst hwo
        by_cases hkl : k < L.length
        · have hkl' : (k : Int) < (L.length : Int) := by omega
          have hmk := fun w => HMK.out w
          have hm0 : (0 : Int) ≤ (m : Int) := by omega
          go_wp2_with fail
          clear hmk
          obtain ⟨wz, hwz⟩ : ∃ wz, wz = wo.alloc (.cells (Array.replicate m (.int .i64 0)) 2) := ⟨_, rfl⟩
          have HNI : Hid (Ni wz wo.heap.size m (fun _ => 0)) := Lib.hid (by rw [hwz]; exact ni_new m wo)
          have HBZ : Hid (Below wo.heap.size wo wz) := Lib.hid (by rw [hwz]; exact (Below.refl _ _).alloc (Nat.le_refl _) _)
          have hzz : wz.heap.size = wo.heap.size + 1 := by rw [hwz]; simp
          rw [← hwz]
          clear hwz
          go_loopw [11] (fun i wx => ∃ j : Nat, j ≤ n ∧ i = .int .i64 (j : Int) ∧ Ni wx wo.heap.size m (imK P (L.getD k z0).2 j) ∧ Below wo.heap.size wo wx) (fun i _ => n - (intOf i).toNat)
          case atStart => exact ⟨0, by omega, rfl, HNI.out, HBZ.out⟩
          case round =>
            obtain ⟨j, hj, rfl, hni, hb⟩ := hrel
            have HNJ := Lib.hid hni
            have HBJ := Lib.hid hb
            have hszj := hb.size
            have HBW : Hid (Below w.heap.size w wr) := Lib.hid (HB.out.trans (hb.mono hsr))
            clear hni hb
            by_cases hjn : j < n
            · have hjn' : (j : Int) < (n : Int) := by omega
              obtain ⟨bL, oL, rfl, hbL, hat⟩ := (HR.out.below HBW.out).at6 k hkl
              obtain ⟨bP, oP, rfl, hbP, hcP⟩ := (HP.out.below HBW.out).resolve_left (fun e => by have := HL.out; rw [e] at this; simp at this; omega)
              have e1 := hcP j (by rw [HL.out]; exact hjn)
              have t1 := at6_pt hat j (by omega)
              obtain ⟨s1, l1⟩ := HK.out.step hkl hjn
              rw [s1] at t1
              have e3 := hcP (stL L k j) (by rw [HL.out]; exact l1)
              obtain ⟨p0, p1⟩ := par_lt HPO.out hjn
              rw [← HM.out] at p1
              obtain ⟨c, hc⟩ := Int.eq_ofNat_of_zero_le p0
              rw [hc] at e1
              have hcm : c < m := by omega
              have hcm' : (c : Int) < (m : Int) := by omega
              have hset := fun x => HNJ.out.set c hcm x
              have hcell := (HNJ.out.2 c hcm).1
              have hfz := (HNJ.out.2 c hcm).2
              have hgl := HNJ.out.1
              have hisu := imK_succ P (L.getD k z0).2 j
              rw [hc, s1, Int.toNat_natCast, Int.toNat_natCast] at hisu
              have HSU := Lib.hid hisu
              have HSET := Lib.hid hset
              have hj5 : (j : Int) < 5 := by omega
              have l1' : (stL L k j : Int) < (n : Int) := by omega
              clear hat hcP p0 p1 hc s1 hset hisu
              generalize imK P (L.getD k z0).2 j c = OLD at *
              generalize stL L k j = u at *
              obtain ⟨U, hU⟩ : ∃ U, U = P.getD u 0 := ⟨_, rfl⟩
              rw [← hU] at e3 HSU
              clear hU
              go_wp2_with fail
              go_still_tail 16, (by kernel_rfl)
              go_wp2_with fail
              go_roundw
              case rel => exact ⟨j + 1, by omega, by go_num, by rw [HSU.out]; exact (HSET.out U).below (Below.refl _ _).drew, (HBJ.out.setCell (Nat.le_refl _) _).drew⟩
              case measure => simp [intOf]; omega
            · obtain rfl : j = n := by omega
              have hjn' : ¬ ((j : Int) < (j : Int)) := by omega
              have HMA := fun wx (hbx : Below wr.heap.size wr wx) => made_any (rgL (imK P (L.getD k z0).2 j) m) (by rw [rgL_len]; exact hm1) (by rw [rgL_len]; omega) (some ⟨wo.heap.size, 0, none⟩) m wx (Or.inr ⟨_, 0, rfl, by have := HNJ.out.1; have := hbx.size; omega, fun i hi => by
                rw [rgL_len] at hi
                rw [Nat.zero_add, rgL_at _ _ _ hi]
                exact ((HNJ.out.below hbx).2 i hi).1⟩)
              rw [rgL_len, HM.out, tL_rg HPO.out (HIV.out k hkl), ← HM.out] at HMA
              have HMA := Lib.hid HMA
              have HSU := Lib.hid (locM_succ P j hkl)
              have HLT : Hid ((locM (L.take k) P j).length = k) := Lib.hid (by rw [locM_len, List.length_take]; omega)
              rw [← HM.out] at HSU
              generalize qmF P (L.getD k z0).2 j = Q at *
              simp only [mv, mcells] at HMA
              go_wp2_with fail
              refine (HMA.out _ (Below.refl _ _)).mono ?_
              rintro e w5 ⟨rfl, hb⟩
              have HB5 : Hid (Below w.heap.size w w5) := Lib.hid (HBW.out.trans (hb.mono (by omega)))
              have hz5 := hb.size
              have HO5 : Hid (OwnM w5 w.heap.size u8 (locM (L.take k) P j)) := Lib.hid ((Turn.of_below (S := fun _ => False) (HBJ.out.trans (hb.mono hszj))).own HO.out (fun _ _ h => h))
              clear hb
              go_wp2_with (at_builtin; refine wpList_apM1 rfl _ _ rfl w.heap.size _ (locM (L.take k) P j) rfl (World.ownsRow.alloc HO5.out _) w5.heap.size 1 ((m : Int), Q) rfl (halloc_at _ _ _ rfl) (by rw [HLT.out]; omega) (by simp; omega) ?_; intro v6 w6 ho6 hg6)
              rw [← HSU.out] at ho6
              have HO6 := Lib.hid ho6
              have HB6 : Hid (Below w.heap.size w w6) := Lib.hid ((HB5.out.alloc (by omega) _).grown hg6 (by simp; omega) (fun r e => (HO5.out.lt r e).1))
              clear ho6 hg6
              go_roundw
              case rel => exact ⟨k + 1, by omega, by go_num, HO6.out, HB6.out⟩
              case measure => simp [intOf]; omega
        · obtain rfl : k = L.length := by omega
          have hkl' : ¬ ((L.length : Int) < (L.length : Int)) := by omega
          rw [List.take_length] at HO
          obtain ⟨a4, c4, rfl, hrd⟩ := ownM_rd HO.out (by rw [locM_len]; omega)
          have HRD := Lib.hid hrd
          clear hrd
          go_wp2_with fail
          go_ret2
          exact ⟨a4, c4, rfl, HRD.out, HB.out⟩
  · have e1 : locC L P = ptC L P := by unfold locC; rw [if_neg hC]
    have e2 : locL L P = [] := by unfold locL; rw [if_neg (by rw [e1]; exact hC)]
    rw [e1, e2]
    have hne : (ptC L P == 0) = false := by simpa using hC
    have hne2 : (ptC L P != 0) = true := by simpa using hC
    clear hr hr2 hC e1 e2
    generalize ptC L P = C at *
    go_enter Tryd.func28, Tryd.ntmps28
    go_wp2_with fail
    refine HG.out.mono ?_
    rintro e w1 ⟨rfl, hb⟩
    have HB1 := Lib.hid hb
    clear hb
    go_wp2_with fail
    go_ret2
    exact ⟨none, 0, rfl, ⟨by simp, Or.inl rfl⟩, HB1.out⟩

end Go.Proofs.YtpphihjbgikjkaaDoor
