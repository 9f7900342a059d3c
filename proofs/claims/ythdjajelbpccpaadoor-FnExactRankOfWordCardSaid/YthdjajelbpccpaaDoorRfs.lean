/- The contracts of spec.RankOfWord, spec.FixedByWord, spec.l05Set and spec.ImageAlong. -/
import Derived.Test.YthdjajelbpccpaaDoorRfw
import Derived.Test.YthdjajelbpccpaaDoorS5
import Derived.Test.YthdjajelbpccpaaDoorWv
import Derived.Test.YthdjajelbpccpaaDoorBits
import Derived.Test.YthdjajelbpccpaaDoorPoints
import Derived.Maps.AppendAt
import Derived.Deep.RegionHeld3
namespace Go.Proofs.YthdjajelbpccpaaDoor
open Go Go.RowKit

theorem c5_nil (L : List MapN) (W : List Int) : c5C L W [] = w5C L W := by
  unfold c5C p5B
  by_cases h : w5C L W = 0
  · rw [if_pos h, h]; rfl
  · rw [if_neg h]

set_option maxRecDepth 1000000 in
set_option maxHeartbeats 4000000 in
theorem sRow_any (L : List MapN) (hl1 : L.length ≤ 1048576) (W : List Int) (hl2 : W.length ≤ 1048576) (a1 : Option Addr) (c1 : Nat) (_ : a1 = none → c1 = 0) (a2 : Option Addr) (c2 : Nat) (w : World) (hr1 : InRowM w a1 L) (hr2 : InRow w a2 W) :
    Calls Tryd.prog 18 #[.slice a1 L.length c1, .slice a2 W.length c2] w fun e w' => e = .returned (rowV L W) ∧ Below w.heap.size w w' := by
  have HCO := fun wx (hb : Below w.heap.size w wx) => scode_any L hl1 W hl2 [] (by simp) a1 c1 a2 c2 none 0 wx (hr1.below hb) (hr2.below hb) (Or.inl rfl)
  rw [c5_nil] at HCO
  by_cases hC : w5C L W = 0
  · obtain ⟨e1, e2, hok⟩ := wm_ok hC
    rw [show rowV L W = .tuple #[.int .i64 ((asc (imgB (wmP L W) (wmT L W))).length : Nat), .int .i64 (w5C L W)] from rfl, e1, e2, hC]
    rw [hC] at HCO
    have HCO := Lib.hid HCO
    have HM := Lib.hid fun wx (hb : Below w.heap.size w wx) => smap5_any L hl1 W hl2 hC a1 c1 a2 c2 wx (hr1.below hb) (hr2.below hb)
    have HR := Lib.hid fun w => srank_any (fst0 L) (wrdK L W W.length) hok w
    clear hr1 hr2 hC e1 e2 hok
    generalize (asc (imgB (fst0 L) (wrdK L W W.length))).length = R at *
    generalize wrdK L W W.length = T at *
    generalize fst0 L = P at *
    simp only [mv, mcells] at *
    go_enter Tryd.func18, Tryd.ntmps18
    go_wp2_with fail
    refine (HCO.out _ (Below.refl _ _)).mono ?_
    rintro e w1 ⟨rfl, hb⟩
    have HB := Lib.hid hb
    have hz1 := hb.size
    clear hb
    go_wp2_with fail
    refine (HM.out _ HB.out).mono ?_
    rintro e w2 ⟨rfl, hb⟩
    have HB2 := Lib.hid hb
    have hz2 := hb.size
    clear hb
    go_wp2_with fail
    refine (HR.out _).mono ?_
    rintro e w3 ⟨rfl, hb⟩
    have HB3 := Lib.hid hb
    clear hb
    go_wp2_with fail
    go_ret2
    exact ⟨rfl, HB.out.trans ((HB2.out.mono hz1).trans (HB3.out.mono (by omega)))⟩
  · obtain ⟨e1, e2⟩ := wm_bad hC
    rw [show rowV L W = .tuple #[.int .i64 ((asc (imgB (wmP L W) (wmT L W))).length : Nat), .int .i64 (w5C L W)] from rfl, e1, e2, show (asc (imgB 0 fun _ => 0)).length = 0 from rfl]
    have hne : (w5C L W != 0) = true := by simpa using hC
    have HCO := Lib.hid HCO
    clear hr1 hr2 hC e1 e2
    generalize w5C L W = C at *
    go_enter Tryd.func18, Tryd.ntmps18
    go_wp2_with fail
    refine (HCO.out _ (Below.refl _ _)).mono ?_
    rintro e w1 ⟨rfl, hb⟩
    have HB := Lib.hid hb
    clear hb
    go_wp2_with fail
    go_ret2
    exact ⟨rfl, HB.out⟩

set_option maxRecDepth 1000000 in
set_option maxHeartbeats 4000000 in
theorem sFbw_any (L : List MapN) (hl1 : L.length ≤ 1048576) (W : List Int) (hl2 : W.length ≤ 1048576) (a1 : Option Addr) (c1 : Nat) (_ : a1 = none → c1 = 0) (a2 : Option Addr) (c2 : Nat) (w : World) (hr1 : InRowM w a1 L) (hr2 : InRow w a2 W) :
    Calls Tryd.prog 22 #[.slice a1 L.length c1, .slice a2 W.length c2] w (RetRow w.heap.size (fbwL L W) (w5C L W) w) := by
  have HCO := fun wx (hb : Below w.heap.size w wx) => scode_any L hl1 W hl2 [] (by simp) a1 c1 a2 c2 none 0 wx (hr1.below hb) (hr2.below hb) (Or.inl rfl)
  rw [c5_nil] at HCO
  by_cases hC : w5C L W = 0
  · obtain ⟨e1, e2, hok⟩ := wm_ok hC
    rw [show fbwL L W = asc (fixB (wmP L W) (wmT L W)) from rfl, e1, e2, hC]
    rw [hC] at HCO
    have HCO := Lib.hid HCO
    have HM := Lib.hid fun wx (hb : Below w.heap.size w wx) => smap5_any L hl1 W hl2 hC a1 c1 a2 c2 wx (hr1.below hb) (hr2.below hb)
    obtain ⟨h1, h5⟩ := isB_pts hok
    have HFA := Lib.hid fun k hk h5' => fix_asc (p := fst0 L) (wrdK L W W.length) k hk h5'
    clear hr1 hr2 hC e1 e2 hok
    generalize wrdK L W W.length = T at *
    generalize fst0 L = P at *
    simp only [mv, mcells] at *
    obtain ⟨i0, hi, hz0', hz1', hz2'⟩ := info_parts info_int
    go_enter Tryd.func22, Tryd.ntmps22
    go_wp2_with fail
    refine (HCO.out _ (Below.refl _ _)).mono ?_
    rintro e w1 ⟨rfl, hb⟩
    have HB := Lib.hid hb
    have hz1 := hb.size
    clear hb
    go_wp2_with fail
    refine (HM.out _ HB.out).mono ?_
    rintro e w2 ⟨rfl, hb⟩
    have HB2 := Lib.hid (HB.out.trans (hb.mono hz1))
    have hz2 := hb.size
    have hz3 : w.heap.size ≤ w2.heap.size := by omega
    clear hb
    go_wp2_with fail
    go_loopw [8, 9] (fun v i wr => ∃ k : Nat, (k : Int) ≤ P ∧ i = .int .i64 k ∧ wr.ownsRow w2.heap.size 2 1 v (ascK (fun i => T i == (i : Int)) k).length ((ascK (fun i => T i == (i : Int)) k).map (Value.int .i64)) ∧ Below w2.heap.size w2 wr ∧
      wr.heap[w2.heap.size + 1]? = some (.cells (mcells P T) 54 (0, 0)) ∧ v.ownBlock ≠ some (w2.heap.size + 1)) (fun _ i _ => (P - intOf i).toNat)
    case atStart =>
      refine ⟨0, by omega, rfl, ?_, ((Below.refl _ _).alloc (Nat.le_refl _) _).alloc (by simp) _, halloc_at _ _ _ (by simp), by simp [Value.ownBlock]⟩
      exact (own_empty w2 w2.heap.size (Nat.le_refl _)).alloc _
    case round =>
      obtain ⟨k, hk, rfl, hown, hb, hbx, hne⟩ := hrel
      have hp := (blk6 hbx).1
      have Hb' := Lib.hid hb
      have HBX := Lib.hid hbx
      have HNE := Lib.hid hne
      have hsz := hb.size
      have hlt : w2.heap.size + 1 < wr.heap.size := (Array.getElem?_eq_some_iff.1 hbx).1
      clear hbx hne
      by_cases hkp : (k : Int) < P
      · have k5 : k < 5 := by omega
        have k5' : (k : Int) < 5 := by omega
        have hc := blk_at HBX.out k k5
        clear hb
        have hlen := ascK_len (fun i => T i == (i : Int)) k
        cases hs : (T k == (k : Int))
        · have hown' : Hid (wr.ownsRow w2.heap.size 2 1 u8 (ascK (fun i => T i == (i : Int)) (k + 1)).length ((ascK (fun i => T i == (i : Int)) (k + 1)).map (Value.int .i64))) := by
            refine Lib.hid ?_
            rw [ascK_succ, if_neg (by simp only [hs]; exact Bool.false_ne_true)]; exact hown
          clear hown
          go_wp2_with fail
          go_roundw
          case rel => exact ⟨k + 1, by omega, by go_num, hown'.out, Hb'.out, HBX.out, HNE.out⟩
          case measure => simp [intOf]; omega
        · have Hst : Hid ((T k == (k : Int)) = true) := Lib.hid hs
          go_wp2_with (at_builtin; refine wpList_append_own_at _ rfl _ _ 23 rfl w2.heap.size 2 i0 (.int .i64 0) 1 8 Tryd.underlying23 hi hz0' hz1' hz2' rfl (by decide) _ _ _ rfl (hown.alloc _) ⟨wr.heap.size, 0, none⟩ 1 1 [.int .i64 k] rfl rfl ?d1 ?d2 ?d3 ?d4 ?d5 ?_)
          case d1 =>
            intro j u hj
            match j, hj with
            | 0, hj => simp at hj; subst hj; simp [Addr.add]
          case d2 => first | rfl | (intro u hu; simp at hu; subst hu; rfl)
          case d3 => unfold maxLen; omega
          case d4 => omega
          case d5 => first | omega | (simp; omega)
          intro v' w3 hown' hgrow _ hat
          have hown2 : Hid (w3.ownsRow w2.heap.size 2 1 v' (ascK (fun i => T i == (i : Int)) (k + 1)).length ((ascK (fun i => T i == (i : Int)) (k + 1)).map (Value.int .i64))) := by
            refine Lib.hid ?_
            rw [ascK_succ, if_pos (by simp only [Hst.out])]; simpa using hown'
          have hb2 : Hid (Below w2.heap.size w2 w3) :=
            Lib.hid ((Hb'.out.alloc hsz _).grown hgrow (by simp; omega) (fun b hbk => by
              rcases hown.2 with ⟨hv, _⟩ | ⟨g, cap, cur, hv, hg, _⟩
              · rw [hv] at hbk; cases hbk
              · rw [hv] at hbk; cases hbk; exact hg))
          have hbx2 : Hid (w3.heap[w2.heap.size + 1]? = some (.cells (mcells P T) 54 (0, 0))) := Lib.hid (grown_at hgrow ((halloc_lt _ _ _ hlt).trans HBX.out) HNE.out)
          have hne2 : Hid (v'.ownBlock ≠ some (w2.heap.size + 1)) := Lib.hid (by
            rcases hat with e | e
            · rw [e]; exact HNE.out
            · rw [e]
              intro h
              injection h with h
              omega)
          clear hown' hgrow hown hat
          go_wp2_with fail
          go_roundw
          case rel => exact ⟨k + 1, by omega, by go_num, hown2.out, hb2.out, hbx2.out, hne2.out⟩
          case measure => simp [intOf]; omega
      · have hfix := HFA.out k (by omega) (by omega)
        have hown0 : Own wr w2.heap.size u8 (ascK (fun i => T i == (i : Int)) k) := hown
        rw [hfix] at hown0
        obtain ⟨a, cap, rfl, hrd⟩ := own_rd hown0 (asc_len _)
        have HO := Lib.hid hrd
        clear hb hown hown0 hrd
        clear hfix
        go_wp2_with fail
        go_ret2
        exact ⟨a, cap, rfl, HO.out.mono hz3, HB2.out.trans (Hb'.out.mono hz3)⟩
  · obtain ⟨e1, e2⟩ := wm_bad hC
    rw [show fbwL L W = asc (fixB (wmP L W) (wmT L W)) from rfl, e1, e2, show asc (fixB 0 fun _ => 0) = [] from rfl]
    have hne : (w5C L W != 0) = true := by simpa using hC
    have HCO := Lib.hid HCO
    clear hr1 hr2 hC e1 e2
    generalize w5C L W = C at *
    go_enter Tryd.func22, Tryd.ntmps22
    go_wp2_with fail
    refine (HCO.out _ (Below.refl _ _)).mono ?_
    rintro e w1 ⟨rfl, hb⟩
    have HB := Lib.hid hb
    clear hb
    go_wp2_with fail
    go_ret2
    exact ⟨none, 0, rfl, ⟨by simp, Or.inl rfl⟩, HB.out⟩

set_option maxRecDepth 1000000 in
set_option maxHeartbeats 4000000 in
theorem sIal_any (L : List MapN) (hl1 : L.length ≤ 1048576) (W : List Int) (hl2 : W.length ≤ 1048576) (S : List Int) (hl3 : S.length ≤ 1048576) (a1 : Option Addr) (c1 : Nat) (_ : a1 = none → c1 = 0) (a2 : Option Addr) (c2 : Nat) (a3 : Option Addr) (c3 : Nat) (w : World) (hr1 : InRowM w a1 L) (hr2 : InRow w a2 W) (hr3 : InRow w a3 S) :
    Calls Tryd.prog 20 #[.slice a1 L.length c1, .slice a2 W.length c2, .slice a3 S.length c3] w (RetRow w.heap.size (ialL L W S) (ialC L W S) w) := by
  have HCO := fun wx (hb : Below w.heap.size w wx) => scode_any L hl1 W hl2 [] (by simp) a1 c1 a2 c2 none 0 wx (hr1.below hb) (hr2.below hb) (Or.inl rfl)
  rw [c5_nil] at HCO
  by_cases hC : w5C L W = 0
  · obtain ⟨e1, e2, hok⟩ := wm_ok hC
    obtain ⟨hq1, hq5⟩ := isB_pts hok
    rw [hC] at HCO
    have HCO := Lib.hid HCO
    have HS := fun wx (hb : Below w.heap.size w wx) => set5_any (fst0 L) hq1 hq5 S hl3 a3 c3 wx (hr3.below hb)
    have hpos : 0 < L.length := by have := (good_of (w5C_zero hC).1).2; omega
    obtain ⟨b, off, rfl, hbl, hat0⟩ := hr1.at0 hpos
    have hx0 : w.cell? ⟨b, off, none⟩ = some (.int .i64 (fst0 L)) := hat0.1
    cases hP : ptsB (fst0 L) S
    · have e3 : ialC L W S = 2 := by unfold ialC ptsC; rw [if_pos hC, hP]; rfl
      have e4 : ialL L W S = [] := by unfold ialL; rw [e3]; rfl
      rw [e3, e4]
      rw [hP] at HS
      have HS := Lib.hid HS
      clear hr1 hr2 hr3 hC e1 e2 e3 e4 hok hP hat0
      go_enter Tryd.func20, Tryd.ntmps20
      go_wp2_with fail
      refine (HCO.out _ (Below.refl _ _)).mono ?_
      rintro e w1 ⟨rfl, hb⟩
      have HB := Lib.hid hb
      have hx1 := (hb.cell (p := ⟨b, off, none⟩) hbl).trans hx0
      have hz1 := hb.size
      clear hb
      go_wp2_with fail
      refine (HS.out _ HB.out).mono ?_
      rintro e w2 ⟨rfl, hb⟩
      have HB2 := Lib.hid hb
      clear hb
      go_wp2_with fail
      go_ret2
      exact ⟨none, 0, rfl, ⟨by simp, Or.inl rfl⟩, HB.out.trans (HB2.out.mono hz1)⟩
    · have e3 : ialC L W S = 0 := by unfold ialC ptsC; rw [if_pos hC, hP]; rfl
      have e4 : ialL L W S = asc (movK (wrdK L W W.length) (memB S) (fst0 L).toNat) := by unfold ialL; rw [if_pos e3]
      rw [e3, e4]
      rw [hP] at HS
      have HS := Lib.hid HS
      have HM := Lib.hid fun wx (hb : Below w.heap.size w wx) => smap5_any L hl1 W hl2 hC _ c1 a2 c2 wx (hr1.below hb) (hr2.below hb)
      have HBI := Lib.hid fun wx (hb : Below w.heap.size w wx) => sbits_any (fst0 L) hq5 S hP hl3 a3 c3 wx (hr3.below hb)
      have HMO := Lib.hid fun wx => smoved_any (fst0 L) (wrdK L W W.length) hok (memB S) wx
      have HPO := Lib.hid fun wx => spoints_any (movK (wrdK L W W.length) (memB S) (fst0 L).toNat) wx
      have HLen := Lib.hid (asc_len (movK (wrdK L W W.length) (memB S) (fst0 L).toNat))
      clear hr1 hr2 hr3 hC e1 e2 e3 e4 hok hP hat0
      generalize asc (movK (wrdK L W W.length) (memB S) (fst0 L).toNat) = R at *
      generalize mask (movK (wrdK L W W.length) (memB S) (fst0 L).toNat) = M2 at *
      generalize mask (memB S) = M1 at *
      generalize wrdK L W W.length = T at *
      generalize fst0 L = P at *
      simp only [mv, mcells] at *
      go_enter Tryd.func20, Tryd.ntmps20
      go_wp2_with fail
      refine (HCO.out _ (Below.refl _ _)).mono ?_
      rintro e w1 ⟨rfl, hb⟩
      have HB := Lib.hid hb
      have hx1 := (hb.cell (p := ⟨b, off, none⟩) hbl).trans hx0
      have hz1 := hb.size
      clear hb
      go_wp2_with fail
      refine (HS.out _ HB.out).mono ?_
      rintro e w2 ⟨rfl, hb⟩
      have HB2 := Lib.hid (HB.out.trans (hb.mono hz1))
      have hz2 := hb.size
      clear hb
      go_wp2_with fail
      refine (HM.out _ HB2.out).mono ?_
      rintro e w3 ⟨rfl, hb⟩
      have HB3 := Lib.hid (HB2.out.trans (hb.mono (by omega)))
      have hz3 := hb.size
      clear hb
      go_wp2_with fail
      refine (HBI.out _ HB3.out).mono ?_
      rintro e w3 ⟨rfl, rfl⟩
      go_wp2_with fail
      refine (HMO.out _).mono ?_
      rintro e w4 ⟨rfl, hb⟩
      have HB4 := Lib.hid (HB3.out.trans (hb.mono (by omega)))
      have hz4 := hb.size
      clear hb
      go_wp2_with fail
      refine (HPO.out _).mono ?_
      rintro e w5 ⟨v, rfl, hown, hb⟩
      obtain ⟨ax, cx, rfl, hrd⟩ := own_rd hown HLen.out
      have HB5 := Lib.hid (HB4.out.trans (hb.mono (by omega)))
      have HRX := Lib.hid hrd
      clear hb hown hrd
      go_wp2_with fail
      go_ret2
      exact ⟨ax, cx, rfl, HRX.out.mono (by omega), HB5.out⟩
  · have e3 : ialC L W S = w5C L W := by unfold ialC; rw [if_neg hC]
    have e4 : ialL L W S = [] := by unfold ialL; rw [e3, if_neg hC]
    rw [e3, e4]
    have hne : (w5C L W != 0) = true := by simpa using hC
    have hne2 : (w5C L W == 0) = false := by simpa using hC
    have HCO := Lib.hid HCO
    clear hr1 hr2 hr3 hC e3 e4
    generalize w5C L W = C at *
    go_enter Tryd.func20, Tryd.ntmps20
    go_wp2_with fail
    refine (HCO.out _ (Below.refl _ _)).mono ?_
    rintro e w1 ⟨rfl, hb⟩
    have HB := Lib.hid hb
    clear hb
    go_wp2_with fail
    go_ret2
    exact ⟨none, 0, rfl, ⟨by simp, Or.inl rfl⟩, HB.out⟩

end Go.Proofs.YthdjajelbpccpaaDoor
