/- The contract of spec.LeadPoint. -/
import Derived.Test.YthdjajelbpccpaaDoorLead
namespace Go.Proofs.YthdjajelbpccpaaDoor
open Go Go.RowKit

theorem wrd_zero (L : List MapN) (W : List Int) (q : Nat) (h : (q : Int) < fst0 L) : wrdK L W 0 q = q := by
  show idn (fst0 L) q = q
  unfold idn; rw [if_pos h]

theorem wrd_succ (L : List MapN) (W : List Int) (q k : Nat) (h : (q : Int) < fst0 L) : wrdK L W (k + 1) q = (L.getD (W.getD k 0).toNat z0).2 (wrdK L W k q).toNat := by
  show mul (fst0 L) (wrdK L W k) _ q = _
  unfold mul mulK
  rw [if_pos (by omega)]

theorem row_one (w : World) (x : Int) : InRow (w.alloc (.cells #[.int .i64 x] 2)) (some ⟨w.heap.size, 0, none⟩) [x] :=
  Or.inr ⟨_, _, rfl, by simp, fun j hj => by
    obtain rfl : j = 0 := by simpa using hj
    simp⟩

set_option maxRecDepth 1000000 in
set_option maxHeartbeats 4000000 in
theorem sLead_any (L : List MapN) (hl1 : L.length ≤ 1048576) (W : List Int) (hl2 : W.length ≤ 1048576) (p : Int) (a1 : Option Addr) (c1 : Nat) (_ : a1 = none → c1 = 0) (a2 : Option Addr) (c2 : Nat) (w : World) (hr1 : InRowM w a1 L) (hr2 : InRow w a2 W) :
    Calls Tryd.prog 9 #[.slice a1 L.length c1, .slice a2 W.length c2, .int .i64 p] w (RetRow w.heap.size (leadL L W p) (leadC L W p) w) := by
  obtain ⟨i0, hi, hz0, hz1, hz2⟩ := info_parts info_int
  have HCO := fun wx (hb : Below w.heap.size w wx) a3 c3 (h3 : InRow wx a3 [p]) => scode_any L hl1 W hl2 [p] (by simp) a1 c1 a2 c2 a3 c3 wx (hr1.below hb) (hr2.below hb) h3
  rw [show c5C L W [p] = leadC L W p from rfl] at HCO
  by_cases hC : leadC L W p = 0
  · have e2 := leadL_good (L := L) (W := W) (p := p) hC
    rw [hC, e2]
    rw [hC] at HCO
    have HCO := Lib.hid HCO
    have hw : w5C L W = 0 := by
      by_cases h : w5C L W = 0
      · exact h
      · rw [leadC_bad h] at hC; exact hC
    have hpn : 0 ≤ p ∧ p < fst0 L := by
      by_cases h : 0 ≤ p ∧ p < fst0 L
      · exact h
      · rw [leadC_out hw h] at hC; omega
    obtain ⟨hck, hbel, hw40⟩ := w5C_zero hw
    obtain ⟨hgood, hs1, hs6⟩ := good_of hck
    obtain ⟨hp1, hp5, hgk⟩ := hgood
    obtain ⟨q, rfl⟩ := Int.eq_ofNat_of_zero_le hpn.1
    have hq := hpn.2
    have HOK := Lib.hid fun k hk => wrdK_ok (L := L) (W := W) ⟨hp1, hp5, hgk⟩ k hk
    have HBW := Lib.hid fun k hk => belB_at hbel k hk
    have HSUC := Lib.hid fun k => ldL_succ L W (q : Int) k
    have HWS := Lib.hid fun k => wrd_succ L W q k hq
    have hz := wrd_zero L W q hq
    have HR1 := Lib.hid hr1
    have HR2 := Lib.hid hr2
    have h1L : ldL L W (q : Int) 1 = [(q : Int)] := by simp [ldL, List.range, List.range.loop, hz]
    have H1L := Lib.hid h1L
    have HZZ := Lib.hid hz
    clear hr1 hr2 hC e2 hw hpn hck hbel hgk hz h1L
    go_enter Tryd.func9, Tryd.ntmps9
    go_wp2_with fail
    refine (HCO.out _ (by (repeat' (first | (with_reducible exact Below.refl _ _) | (with_reducible refine Below.alloc ?_ ?_ _) | (with_reducible refine Below.setCell ?_ ?_ _) | (with_reducible refine Below.drew ?_) | (with_reducible refine below_drewN ?_ _) | (with_reducible refine Below.trans ?_ (Below.mono (Hid.out (by assumption)) ?_)) | omega | (simp; done) | (simp; omega)))) _ _ (row_one w _)).mono ?_
    rintro e w1 ⟨rfl, hb⟩
    have hsz : w.heap.size ≤ w1.heap.size := by have := hb.size; simp at this; omega
    have HB : Hid (Below w.heap.size w w1) := Lib.hid (((Below.refl _ _).alloc (Nat.le_refl _) _).trans (hb.mono (by simp)))
    clear hb HCO
    go_wp2_with fail
    go_loopw [2, 9, 10] (fun pv v i wr => ∃ k : Nat, k ≤ W.length ∧ i = .int .i64 k ∧ pv = .int .i64 (wrdK L W k q) ∧ Own wr w1.heap.size v (ldL L W q (k + 1)) ∧ Below w1.heap.size w1 wr) (fun _ _ i _ => W.length - (intOf i).toNat)
    case atStart =>
      refine ⟨0, by omega, rfl, by rw [HZZ.out], ?_, (Below.refl _ _).alloc (Nat.le_refl _) _⟩
      rw [H1L.out]
      exact ⟨rfl, Or.inr ⟨w1.heap.size, 1, #[.int .i64 q], rfl, Nat.le_refl _, halloc_at _ _ _ rfl, Nat.le_refl _, by unfold maxLen; omega, rfl, rfl⟩⟩
    case round =>
      obtain ⟨k, hk, rfl, rfl, hown, hb⟩ := hrel
      have hszr := hb.size
      have HBr := Lib.hid hb
      have HBW2 := Lib.hid (HB.out.trans (hb.mono hsz))
      by_cases hkn : k < W.length
      · have hkn' : (k : Int) < (W.length : Int) := by omega
        have hposW : 0 < W.length := by omega
        obtain ⟨b2, off2, rfl, hbl2, hin⟩ := (HR2.out.below HBW2.out).resolve_left (fun e => by rw [e] at hposW; simp at hposW)
        have e1 := hin k hkn
        obtain ⟨f0, f1⟩ := HBW.out k hkn
        have f1' : (W.getD k 0).toNat < L.length := by omega
        obtain ⟨b', off', rfl, hbl', hat⟩ := (HR1.out.below HBW2.out).at6 (W.getD k 0).toNat f1'
        obtain ⟨g0, g1, g5⟩ := ok_at (HOK.out k (fun j hj => HBW.out j (by omega))) q hq
        have HSU := HSUC.out (k + 1)
        have HWK := HWS.out k
        have hx : ∃ y : Nat, wrdK L W k q = (y : Int) ∧ y < 5 := ⟨(wrdK L W k q).toNat, by omega, by omega⟩
        obtain ⟨y, hy, hy5⟩ := hx
        have hcy : wr.cell? ⟨b', off' + (W.getD k 0).toNat * 6 + 1 + y, none⟩ = some (.int .i64 ((L.getD (W.getD k 0).toNat z0).2 y)) := by
          obtain ⟨x0, x1, x2, x3, x4, x5⟩ := hat
          rcases (by omega : y = 0 ∨ y = 1 ∨ y = 2 ∨ y = 3 ∨ y = 4) with rfl | rfl | rfl | rfl | rfl
          · exact x1
          · exact x2
          · exact x3
          · exact x4
          · exact x5
        rw [hy] at HWK ⊢
        simp only [Int.toNat_natCast] at HWK HSU
        rw [HWK] at HSU
        have HSU := Lib.hid HSU
        have HWK := Lib.hid HWK
        have hy5' : (y : Int) < 5 := by omega
        have HLEN := Lib.hid (ldL_len L W (q : Int) (k + 1))
        clear hin hat hb hy g0 g1
        generalize (L.getD (W.getD k 0).toNat z0).2 y = Z at *
        generalize W.getD k 0 = X at *
        generalize hR0 : ldL L W (q : Int) (k + 1) = R0 at *
        clear hR0
        have HOWN := Lib.hid hown
        go_wp2_with (at_builtin; refine wpList_append_own _ rfl _ _ 23 rfl w1.heap.size 2 i0 (.int .i64 0) 1 8 Tryd.underlying23 hi hz0 hz1 hz2 rfl (by decide) _ _ _ rfl (hown.alloc _) ⟨wr.heap.size, 0, none⟩ 1 1 [.int .i64 Z] rfl rfl ?d1 ?d2 ?d3 ?d4 ?d5 ?_)
        case d1 =>
          intro j u hj
          match j, hj with
          | 0, hj => simp at hj; subst hj; simp [Addr.add]
        case d2 => first | rfl | (intro u hu; simp at hu; subst hu; rfl)
        case d3 => unfold maxLen; rw [HLEN.out]; omega
        case d4 => rw [HLEN.out]; omega
        case d5 => first | omega | (simp; omega)
        intro v' w2 hown' hgrow _
        have hown2 : Hid (Own w2 w1.heap.size v' (ldL L W (q : Int) (k + 1 + 1))) := by
          refine Lib.hid ?_
          rw [HSU.out]
          unfold Own
          simpa using hown'
        have hb2 : Hid (Below w1.heap.size w1 w2) :=
          Lib.hid ((HBr.out.alloc hszr _).grown hgrow (by simp; omega) (fun b hbk => by
            rcases hown.2 with ⟨hv, _⟩ | ⟨g, cap, cur, hv, hg, _⟩
            · rw [hv] at hbk; cases hbk
            · rw [hv] at hbk; cases hbk; exact hg))
        clear hown' hgrow hown HOWN
        go_wp2_with fail
        go_roundw
        case rel => exact ⟨k + 1, by omega, by go_num, by rw [HWK.out], hown2.out, hb2.out⟩
        case measure => simp [intOf]; omega
      · obtain rfl : k = W.length := by omega
        have HOW := Lib.hid hown
        clear hown hb
        go_wp2_with fail
        have hlen := ldL_len L W (q : Int) (W.length + 1)
        obtain ⟨ax, cx, hv, hrd⟩ := own_rd HOW.out (by omega)
        subst hv
        have HRX := Lib.hid hrd
        clear hrd
        go_ret2
        exact ⟨ax, cx, rfl, HRX.out.mono hsz, HBW2.out⟩
  · have e2 := leadL_bad (L := L) (W := W) (p := p) hC
    rw [e2]
    have HCO := Lib.hid HCO
    have hne : (leadC L W p != 0) = true := by simpa using hC
    clear hr1 hr2 hC e2
    generalize leadC L W p = C at *
    go_enter Tryd.func9, Tryd.ntmps9
    go_wp2_with fail
    refine (HCO.out _ (by (repeat' (first | (with_reducible exact Below.refl _ _) | (with_reducible refine Below.alloc ?_ ?_ _) | (with_reducible refine Below.setCell ?_ ?_ _) | (with_reducible refine Below.drew ?_) | (with_reducible refine below_drewN ?_ _) | (with_reducible refine Below.trans ?_ (Below.mono (Hid.out (by assumption)) ?_)) | omega | (simp; done) | (simp; omega)))) _ _ (row_one w _)).mono ?_
    rintro e w1 ⟨rfl, hb⟩
    have HB : Hid (Below w.heap.size w w1) := Lib.hid (((Below.refl _ _).alloc (Nat.le_refl _) _).trans (hb.mono (by simp)))
    clear hb
    go_wp2_with fail
    go_ret2
    exact ⟨none, 0, rfl, ⟨by simp, Or.inl rfl⟩, HB.out⟩

end Go.Proofs.YthdjajelbpccpaaDoor
