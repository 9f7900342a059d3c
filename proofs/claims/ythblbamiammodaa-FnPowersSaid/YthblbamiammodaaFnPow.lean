/- The walk of the law FnPowers. -/
import Derived.Test.YthblbamiammodaaCodeb
import Derived.Test.YthblbamiammodaaDpow
import Derived.Test.YthblbamiammodaaPower
import Derived.Test.YthblbamiammodaaIdx
import Derived.Test.YthblbamiammodaaFnPn
import Derived.Test.YthblbamiammodaaDraws
import Derived.Test.YthblbamiammodaaDinv
import Derived.Test.YthblbamiammodaaDren
import Derived.Test.YthblbamiammodaaIdem0
import Derived.Deep.DeepCutAuto
import Derived.Test.YthblbamiammodaaLike
namespace Go.Proofs.Ythblbamiammodaa
open Go.RowKit

theorem carry {W w' : World} {b : Nat} {o : Obj} (h : W.heap[b]? = some o) (hb : Below W.heap.size W w') : w'.heap[b]? = some o := (hb.block b (Array.getElem?_eq_some_iff.1 h).1).trans h
theorem over_alloc {w : World} {b : Nat} {o : Obj} (h : w.heap[b]? = some o) (x : Obj) : (w.alloc x).heap[b]? = some o := (halloc_lt _ _ _ (Array.getElem?_eq_some_iff.1 h).1).trans h

theorem rd_at {w : World} {B : Nat} {a : Option Addr} {L : List Int} (h : Rd w B a L) (i : Nat) (hi : i < L.length) : ∃ g, a = some ⟨g, 0, none⟩ ∧ g < w.heap.size ∧ w.cell? ⟨g, i, none⟩ = some (.int .i64 (L.getD i 0)) := by
  rcases h.2 with h0 | ⟨g, ha, _, hg, hc⟩
  · rw [h0] at hi; simp at hi
  · exact ⟨g, ha, hg, (hc i hi).1⟩

set_option maxRecDepth 100000 in
set_option maxHeartbeats 4000000 in
theorem fnpow_any (w : World) (a : Option Addr) (n c : Nat) (hB : Bytes w a n) :
    Calls Try.prog 3 #[.slice a n c] w fun e w' => e = .returned (.bool true) ∧ Below w.heap.size w w' := by
  have HBG := Lib.hid fun w => big_any a n c w
  by_cases hn : 4096 < n
  · rw [decide_eq_true hn] at HBG
    go_enter Try.func3, Try.ntmps3
    go_wp2_with fail
    refine (HBG.out _).mono ?_
    rintro e w ⟨rfl, rfl⟩
    go_wp2_with fail
    go_ret
    exact ⟨rfl, Below.refl _ _⟩
  · rw [decide_eq_false hn] at HBG
    have hn2 : n ≤ 2000000 := by omega
    have HBY := Lib.hid hB
    clear hB hn
    go_enter Try.func3, Try.ntmps3
    go_wp2_with fail
    refine (HBG.out _).mono ?_
    rintro e w ⟨rfl, rfl⟩
    clear HBG
    go_wp2_with fail
    refine (dPow_any a n c hn2 _ HBY.out).mono ?_
    rintro e wa ⟨p, t, k, rfl, hb⟩
    simp only [mv, mcells]
    have HBa := Lib.hid hb
    have hza := hb.size
    clear hb
    obtain ⟨P, T, C, i0, d0, c0, hV, hV2, hV3⟩ := pow_idx p t k
    have HI := Lib.hid fun w => iPow_any p t k w
    have HS := Lib.hid fun w => sPow_any p t k w
    have HI2 := Lib.hid fun w => iIdx_any p t w
    have HS2 := Lib.hid fun w => sIdx_any p t w
    have HI3 := Lib.hid fun w => iPow_any p t (k + d0) w
    rw [hV] at HI HS
    rw [hV2] at HI2 HS2
    have HV3 := Lib.hid hV3
    clear hV hV2 hV3
    simp only [mv, mcells] at HI HS HI2 HS2 HI3
    go_wp2_with fail
    refine (HI.out _).mono ?_
    rintro e wb ⟨rfl, hb⟩
    have F3b : Hid (wb.heap[wa.heap.size]? = some (.cells (mcells p t) 26 (0, 0))) := Lib.hid (carry (halloc_at _ _ _ rfl) hb)
    have HBb : Hid (Below w.heap.size w wb) := Lib.hid ((HBa.out.alloc hza _).trans (hb.mono (by simp; omega)))
    have hzb : wa.heap.size < wb.heap.size := (Array.getElem?_eq_some_iff.1 F3b.out).1
    obtain ⟨x0, x1, x2, x3, x4, x5⟩ := blk6 F3b.out
    clear hb HBa
    go_wp2_with fail
    refine (HS.out _).mono ?_
    rintro e wk ⟨rfl, hb⟩
    have F3c : Hid (wk.heap[wa.heap.size]? = some (.cells (mcells p t) 26 (0, 0))) := Lib.hid (carry (over_alloc F3b.out _) hb)
    have F5c : Hid (wk.heap[wb.heap.size]? = some (.cells (mcells P T) 26 (0, 0))) := Lib.hid (carry (halloc_at _ _ _ rfl) hb)
    have HBc : Hid (Below w.heap.size w wk) := Lib.hid ((HBb.out.alloc (by omega) _).trans (hb.mono (by simp; omega)))
    have hzc : wb.heap.size < wk.heap.size := (Array.getElem?_eq_some_iff.1 F5c.out).1
    have hz3c : wa.heap.size < wk.heap.size := by omega
    clear x0 x1 x2 x3 x4 x5 hb HBb F3b
    obtain ⟨x0, x1, x2, x3, x4, x5⟩ := blk6 F3c.out
    go_wp2_with fail
    refine (HI2.out _).mono ?_
    rintro e wd ⟨rfl, hb⟩
    have F3d : Hid (wd.heap[wa.heap.size]? = some (.cells (mcells p t) 26 (0, 0))) := Lib.hid (carry (over_alloc F3c.out _) hb)
    have F5d : Hid (wd.heap[wb.heap.size]? = some (.cells (mcells P T) 26 (0, 0))) := Lib.hid (carry (over_alloc F5c.out _) hb)
    have F7d : Hid (wd.heap[wk.heap.size]? = some (.cells (mcells P T) 26 (0, 0))) := Lib.hid (carry (halloc_at _ _ _ rfl) hb)
    have HBd : Hid (Below w.heap.size w wd) := Lib.hid ((HBc.out.alloc (by omega) _).trans (hb.mono (by simp; omega)))
    have hzd : wk.heap.size < wd.heap.size := (Array.getElem?_eq_some_iff.1 F7d.out).1
    have hz3d : wa.heap.size < wd.heap.size := by omega
    have hz5d : wb.heap.size < wd.heap.size := by omega
    clear x0 x1 x2 x3 x4 x5 hb HBc F3c F5c
    obtain ⟨x0, x1, x2, x3, x4, x5⟩ := blk6 F3d.out
    go_wp2_with fail
    refine (HS2.out _).mono ?_
    rintro e we ⟨rfl, hb⟩
    have F3e : Hid (we.heap[wa.heap.size]? = some (.cells (mcells p t) 26 (0, 0))) := Lib.hid (carry F3d.out hb)
    have F5e : Hid (we.heap[wb.heap.size]? = some (.cells (mcells P T) 26 (0, 0))) := Lib.hid (carry F5d.out hb)
    have F7e : Hid (we.heap[wk.heap.size]? = some (.cells (mcells P T) 26 (0, 0))) := Lib.hid (carry F7d.out hb)
    have HBe : Hid (Below w.heap.size w we) := Lib.hid (HBd.out.trans (hb.mono (by omega)))
    have hze : wd.heap.size ≤ we.heap.size := hb.size
    have hz3e : wa.heap.size < we.heap.size := by omega
    have hz5e : wb.heap.size < we.heap.size := by omega
    have hz7e : wk.heap.size < we.heap.size := by omega
    clear x0 x1 x2 x3 x4 x5 hb HBd F3d F5d F7d
    obtain ⟨x0, x1, x2, x3, x4, x5⟩ := blk6 F3e.out
    obtain ⟨y0, y1, y2, y3, y4, y5⟩ := blk6 F5e.out
    obtain ⟨z0, z1, z2, z3, z4, z5⟩ := blk6 F7e.out
    have hq := fun w => runNeM P T P T w
    simp only [eqB_refl, Bool.not_true] at hq
    go_upto_region 10 with fail
    go_cut [138, 6, 8, 81, 84, 86, 87, 90, 92, 105, 106] from 138 to 138 (fun s _ _ _ _ _ _ _ _ _ _ wx => ∃ B : Bool, s = .bool B ∧ (B = true → C = 0 ∧ i0 ≤ k ∧ k < 900000000000) ∧ Below w.heap.size w wx ∧ wx.heap[wa.heap.size]? = some (.cells (mcells p t) 26 (0, 0)) ∧ wx.heap[wb.heap.size]? = some (.cells (mcells P T) 26 (0, 0)))
    case first =>
      by_cases e1 : C = 0
      · subst e1
        by_cases e2 : i0 ≤ k
        · by_cases e3 : k < 900000000000
          · go_wp2_with fail
            go_meet
            exact ⟨true, rfl, fun _ => ⟨(by trivial), e2, e3⟩, HBe.out, F3e.out, F5e.out⟩
          · go_wp2_with fail
            go_meet
            exact ⟨false, rfl, (fun h => by cases h), HBe.out, F3e.out, F5e.out⟩
        · go_wp2_with fail
          go_meet
          exact ⟨false, rfl, (fun h => by cases h), HBe.out, F3e.out, F5e.out⟩
      · go_wp2_with fail
        go_meet
        exact ⟨false, rfl, (fun h => by cases h), HBe.out, F3e.out, F5e.out⟩
    case rest =>
      obtain ⟨B, rfl, hB2, hb, c3, c5⟩ := hcut
      have HBf := Lib.hid hb
      have C3 := Lib.hid c3
      have C5 := Lib.hid c5
      have HB2 := Lib.hid hB2
      clear hb c3 c5 hB2 x0 x1 x2 x3 x4 x5 y0 y1 y2 y3 y4 y5 z0 z1 z2 z3 z4 z5 HBe F3e F5e F7e hze hz3e hz5e hz7e
      go_upto_if 138 with fail
      go_cut [] from 139 to 139 (fun wx => Below w.heap.size w wx)
      case first =>
        cases B
        · go_wp2_with fail
          go_meet
          exact HBf.out
        · obtain ⟨rfl, h1, h2⟩ := HB2.out rfl
          obtain ⟨g1, g2, g3, g4⟩ := HV3.out rfl h1 h2
          have hadd : IntKind.i64.wrap (k + d0) = k + d0 := IntWalk.i64_in _ (by omega)
          have HI3 := HI3.out
          rw [g4] at HI3
          simp only [mv, mcells] at HI3
          have HI3 := Lib.hid HI3
          obtain ⟨x0, x1, x2, x3, x4, x5⟩ := blk6 C3.out
          clear g4 HV3
          go_wp2_with fail
          refine (HI3.out _).mono ?_
          rintro e v1 ⟨rfl, hb⟩
          have hbl : Below wc.heap.size wc v1 := hb
          have F3_1 : Hid (v1.heap[wa.heap.size]? = some (.cells (mcells p t) 26 (0, 0))) := Lib.hid (carry C3.out hbl)
          have F5_1 : Hid (v1.heap[wb.heap.size]? = some (.cells (mcells P T) 26 (0, 0))) := Lib.hid (carry C5.out hbl)
          have HB_1 : Hid (Below w.heap.size w v1) := Lib.hid (HBf.out.trans (hbl.mono HBf.out.size))
          have hz3_1 : wa.heap.size < v1.heap.size := (Array.getElem?_eq_some_iff.1 F3_1.out).1
          have hz5_1 : wb.heap.size < v1.heap.size := (Array.getElem?_eq_some_iff.1 F5_1.out).1
          have hw_1 : w.heap.size ≤ v1.heap.size := HB_1.out.size
          clear C3 C5 hb hbl HBf
          obtain ⟨x00, x01, x02, x03, x04, x05⟩ := blk6 F5_1.out
          have hq := fun w => runNeM P T P T w
          simp only [eqB_refl, Bool.not_true] at hq
          go_wp2_with fail
          go_meet
          exact ((HB_1.out).alloc hw_1 _)
      case rest =>
        have HB0_2 := Lib.hid hcut
        clear hcut
        go_wp2_with fail
        refine (dIp_any a n c hn2 _ (HBY.out.below HB0_2.out)).mono ?_
        rintro e v1 ⟨p2, t2, rfl, hb⟩
        simp only [mv, mcells]
        have hbl : Below wc.heap.size wc v1 := hb
        have HB_1 : Hid (Below w.heap.size w v1) := Lib.hid (HB0_2.out.trans (hbl.mono HB0_2.out.size))
        have hw_1 : w.heap.size ≤ v1.heap.size := HB_1.out.size
        clear hb hbl HB0_2
        obtain ⟨P2, T2, C2, L2, hV, hV2, hV3, hV4, hV5⟩ := ip_all p2 t2
        have HI := Lib.hid fun w => iIp_any p2 t2 w
        have HS := Lib.hid fun w => sIp_any p2 t2 w
        have HC := Lib.hid fun w => iCyc_any p2 t2 w
        have HD := Lib.hid fun w => sCyc_any p2 t2 w
        rw [hV] at HI HS
        rw [hV2, hV3] at HC HD
        have HV5 := Lib.hid hV5
        have hl2 : L2.length < 2000000 := by omega
        clear hV hV2 hV3 hV4 hV5
        simp only [mv, mcells] at HI HS HC HD
        go_wp2_with fail
        refine (HI.out _).mono ?_
        rintro e v2 ⟨rfl, hb⟩
        have hbl : Below v1.heap.size v1 v2 := ((Below.refl _ _).alloc (Nat.le_refl _) _).trans (hb.mono (by simp))
        have F17_2 : Hid (v2.heap[v1.heap.size]? = some (.cells (mcells p2 t2) 26 (0, 0))) := Lib.hid (carry (halloc_at _ _ _ rfl) hb)
        have HB_2 : Hid (Below w.heap.size w v2) := Lib.hid (HB_1.out.trans (hbl.mono hw_1))
        have hz17_2 : v1.heap.size < v2.heap.size := (Array.getElem?_eq_some_iff.1 F17_2.out).1
        have hw_2 : w.heap.size ≤ v2.heap.size := HB_2.out.size
        clear hb hbl HB_1 hw_1
        obtain ⟨x00, x01, x02, x03, x04, x05⟩ := blk6 F17_2.out
        go_wp2_with fail
        refine (HS.out _).mono ?_
        rintro e v3 ⟨rfl, hb⟩
        have hbl : Below v2.heap.size v2 v3 := ((Below.refl _ _).alloc (Nat.le_refl _) _).trans (hb.mono (by simp))
        have F17_3 : Hid (v3.heap[v1.heap.size]? = some (.cells (mcells p2 t2) 26 (0, 0))) := Lib.hid (carry F17_2.out hbl)
        have F18_3 : Hid (v3.heap[v2.heap.size]? = some (.cells (mcells P2 T2) 26 (0, 0))) := Lib.hid (carry (halloc_at _ _ _ rfl) hb)
        have HB_3 : Hid (Below w.heap.size w v3) := Lib.hid (HB_2.out.trans (hbl.mono hw_2))
        have hz17_3 : v1.heap.size < v3.heap.size := (Array.getElem?_eq_some_iff.1 F17_3.out).1
        have hz18_3 : v2.heap.size < v3.heap.size := (Array.getElem?_eq_some_iff.1 F18_3.out).1
        have hw_3 : w.heap.size ≤ v3.heap.size := HB_3.out.size
        clear x00 x01 x02 x03 x04 x05
        clear F17_2 hb hbl HB_2 hz17_2 hw_2
        obtain ⟨x00, x01, x02, x03, x04, x05⟩ := blk6 F17_3.out
        go_wp2_with fail
        refine (HC.out _).mono ?_
        rintro e v4 ⟨a2, c2, rfl, hrd, hb⟩
        have hbl : Below v3.heap.size v3 v4 := ((Below.refl _ _).alloc (Nat.le_refl _) _).trans (hb.mono (by simp))
        have F17_4 : Hid (v4.heap[v1.heap.size]? = some (.cells (mcells p2 t2) 26 (0, 0))) := Lib.hid (carry F17_3.out hbl)
        have F18_4 : Hid (v4.heap[v2.heap.size]? = some (.cells (mcells P2 T2) 26 (0, 0))) := Lib.hid (carry F18_3.out hbl)
        have F20_4 : Hid (v4.heap[v3.heap.size]? = some (.cells (mcells P2 T2) 26 (0, 0))) := Lib.hid (carry (halloc_at _ _ _ rfl) hb)
        have R22_4 : Hid (Rd v4 0 a2 L2) := Lib.hid (hrd.mono (Nat.zero_le _))
        have HB_4 : Hid (Below w.heap.size w v4) := Lib.hid (HB_3.out.trans (hbl.mono hw_3))
        have hz17_4 : v1.heap.size < v4.heap.size := (Array.getElem?_eq_some_iff.1 F17_4.out).1
        have hz18_4 : v2.heap.size < v4.heap.size := (Array.getElem?_eq_some_iff.1 F18_4.out).1
        have hz20_4 : v3.heap.size < v4.heap.size := (Array.getElem?_eq_some_iff.1 F20_4.out).1
        have hw_4 : w.heap.size ≤ v4.heap.size := HB_4.out.size
        clear x00 x01 x02 x03 x04 x05
        clear F17_3 F18_3 hb hbl hrd HB_3 hz17_3 hz18_3 hw_3
        obtain ⟨x00, x01, x02, x03, x04, x05⟩ := blk6 F17_4.out
        go_wp2_with fail
        refine (HD.out _).mono ?_
        rintro e v5 ⟨a3, c3, rfl, hrd, hb⟩
        have hbl : Below v4.heap.size v4 v5 := hb
        have F17_5 : Hid (v5.heap[v1.heap.size]? = some (.cells (mcells p2 t2) 26 (0, 0))) := Lib.hid (carry F17_4.out hbl)
        have F18_5 : Hid (v5.heap[v2.heap.size]? = some (.cells (mcells P2 T2) 26 (0, 0))) := Lib.hid (carry F18_4.out hbl)
        have F20_5 : Hid (v5.heap[v3.heap.size]? = some (.cells (mcells P2 T2) 26 (0, 0))) := Lib.hid (carry F20_4.out hbl)
        have R22_5 : Hid (Rd v5 0 a2 L2) := Lib.hid (R22_4.out.below hbl)
        have R24_5 : Hid (Rd v5 0 a3 L2) := Lib.hid (hrd.mono (Nat.zero_le _))
        have HB_5 : Hid (Below w.heap.size w v5) := Lib.hid (HB_4.out.trans (hbl.mono hw_4))
        have hz17_5 : v1.heap.size < v5.heap.size := (Array.getElem?_eq_some_iff.1 F17_5.out).1
        have hz18_5 : v2.heap.size < v5.heap.size := (Array.getElem?_eq_some_iff.1 F18_5.out).1
        have hz20_5 : v3.heap.size < v5.heap.size := (Array.getElem?_eq_some_iff.1 F20_5.out).1
        have hw_5 : w.heap.size ≤ v5.heap.size := HB_5.out.size
        clear x00 x01 x02 x03 x04 x05
        clear F17_4 F18_4 F20_4 R22_4 hb hbl hrd HB_4 hz17_4 hz18_4 hz20_4 hw_4
        have hq := fun w => runNeM P2 T2 P2 T2 w
        simp only [eqB_refl, Bool.not_true] at hq
        obtain ⟨x00, x01, x02, x03, x04, x05⟩ := blk6 F18_5.out
        obtain ⟨y00, y01, y02, y03, y04, y05⟩ := blk6 F20_5.out
        go_wp2_with fail
        refine (like_same L2 a2 a3 c2 c3 0 0 _ R22_5.out R24_5.out).mono ?_
        rintro e v6 ⟨rfl, hb⟩
        have hbl : Below v5.heap.size v5 v6 := hb
        have F17_6 : Hid (v6.heap[v1.heap.size]? = some (.cells (mcells p2 t2) 26 (0, 0))) := Lib.hid (carry F17_5.out hbl)
        have F18_6 : Hid (v6.heap[v2.heap.size]? = some (.cells (mcells P2 T2) 26 (0, 0))) := Lib.hid (carry F18_5.out hbl)
        have F20_6 : Hid (v6.heap[v3.heap.size]? = some (.cells (mcells P2 T2) 26 (0, 0))) := Lib.hid (carry F20_5.out hbl)
        have R22_6 : Hid (Rd v6 0 a2 L2) := Lib.hid (R22_5.out.below hbl)
        have R24_6 : Hid (Rd v6 0 a3 L2) := Lib.hid (R24_5.out.below hbl)
        have HB_6 : Hid (Below w.heap.size w v6) := Lib.hid (HB_5.out.trans (hbl.mono hw_5))
        have hz17_6 : v1.heap.size < v6.heap.size := (Array.getElem?_eq_some_iff.1 F17_6.out).1
        have hz18_6 : v2.heap.size < v6.heap.size := (Array.getElem?_eq_some_iff.1 F18_6.out).1
        have hz20_6 : v3.heap.size < v6.heap.size := (Array.getElem?_eq_some_iff.1 F20_6.out).1
        have hw_6 : w.heap.size ≤ v6.heap.size := HB_6.out.size
        clear y00 y01 y02 y03 y04 y05 x00 x01 x02 x03 x04 x05
        clear F17_5 F18_5 F20_5 R22_5 R24_5 hb hbl HB_5 hz17_5 hz18_5 hz20_5 hw_5
        clear hq
        clear F17_6 hz17_6
        clear F20_6 hz20_6
        clear R24_6
        obtain ⟨B2, hB2⟩ : ∃ B : Bool, (C2 == 0) = B := ⟨_, rfl⟩
        have HB2 := Lib.hid hB2
        go_upto_if 196 with fail
        clear hB2
        go_cut [] from 196 to 196 (fun wx => Below w.heap.size w wx)
        case first =>
          cases B2
          · go_wp2_with fail
            go_meet
            exact HB_6.out
          · obtain ⟨g1, g2, g3, g4⟩ := HV5.out (eq_of_beq HB2.out)
            have HI := Lib.hid fun w => iIdemp_any P2 T2 w
            have HF := Lib.hid fun w => iFixed_any P2 T2 w
            have HR := Lib.hid fun w => iRankOf_any P2 T2 w
            rw [g1] at HI
            rw [g2, g3] at HF
            rw [g4] at HR
            clear g1 g2 g3 g4
            simp only [mv, mcells] at HI HF HR
            obtain ⟨x00, x01, x02, x03, x04, x05⟩ := blk6 F18_6.out
            go_wp2_with fail
            refine (HI.out _).mono ?_
            rintro e v7 ⟨rfl, hb⟩
            have hbl : Below v6.heap.size v6 v7 := hb
            have F18_7 : Hid (v7.heap[v2.heap.size]? = some (.cells (mcells P2 T2) 26 (0, 0))) := Lib.hid (carry F18_6.out hbl)
            have R22_7 : Hid (Rd v7 0 a2 L2) := Lib.hid (R22_6.out.below hbl)
            have HB_7 : Hid (Below w.heap.size w v7) := Lib.hid (HB_6.out.trans (hbl.mono hw_6))
            have hz18_7 : v2.heap.size < v7.heap.size := (Array.getElem?_eq_some_iff.1 F18_7.out).1
            have hw_7 : w.heap.size ≤ v7.heap.size := HB_7.out.size
            clear x00 x01 x02 x03 x04 x05
            clear F18_6 R22_6 hb hbl HB_6 hz18_6 hw_6
            obtain ⟨x00, x01, x02, x03, x04, x05⟩ := blk6 F18_7.out
            go_wp2_with fail
            refine (HF.out _).mono ?_
            rintro e v8 ⟨a4, c4, rfl, hrd, hb⟩
            have hbl : Below v7.heap.size v7 v8 := hb
            have F18_8 : Hid (v8.heap[v2.heap.size]? = some (.cells (mcells P2 T2) 26 (0, 0))) := Lib.hid (carry F18_7.out hbl)
            have R22_8 : Hid (Rd v8 0 a2 L2) := Lib.hid (R22_7.out.below hbl)
            have R28_8 : Hid (Rd v8 0 a4 L2) := Lib.hid (hrd.mono (Nat.zero_le _))
            have HB_8 : Hid (Below w.heap.size w v8) := Lib.hid (HB_7.out.trans (hbl.mono hw_7))
            have hz18_8 : v2.heap.size < v8.heap.size := (Array.getElem?_eq_some_iff.1 F18_8.out).1
            have hw_8 : w.heap.size ≤ v8.heap.size := HB_8.out.size
            clear x00 x01 x02 x03 x04 x05
            clear F18_7 R22_7 hb hbl hrd HB_7 hz18_7 hw_7
            obtain ⟨x00, x01, x02, x03, x04, x05⟩ := blk6 F18_8.out
            go_wp2_with fail
            refine (HR.out _).mono ?_
            rintro e v9 ⟨rfl, hb⟩
            have hbl : Below v8.heap.size v8 v9 := hb
            have F18_9 : Hid (v9.heap[v2.heap.size]? = some (.cells (mcells P2 T2) 26 (0, 0))) := Lib.hid (carry F18_8.out hbl)
            have R22_9 : Hid (Rd v9 0 a2 L2) := Lib.hid (R22_8.out.below hbl)
            have R28_9 : Hid (Rd v9 0 a4 L2) := Lib.hid (R28_8.out.below hbl)
            have HB_9 : Hid (Below w.heap.size w v9) := Lib.hid (HB_8.out.trans (hbl.mono hw_8))
            have hz18_9 : v2.heap.size < v9.heap.size := (Array.getElem?_eq_some_iff.1 F18_9.out).1
            have hw_9 : w.heap.size ≤ v9.heap.size := HB_9.out.size
            clear x00 x01 x02 x03 x04 x05
            clear F18_8 R22_8 R28_8 hb hbl HB_8 hz18_8 hw_8
            go_wp2_with fail
            refine (like_same L2 a4 a2 c4 c2 0 0 _ R28_9.out R22_9.out).mono ?_
            rintro e v10 ⟨rfl, hb⟩
            have hbl : Below v9.heap.size v9 v10 := hb
            have F18_10 : Hid (v10.heap[v2.heap.size]? = some (.cells (mcells P2 T2) 26 (0, 0))) := Lib.hid (carry F18_9.out hbl)
            have R22_10 : Hid (Rd v10 0 a2 L2) := Lib.hid (R22_9.out.below hbl)
            have R28_10 : Hid (Rd v10 0 a4 L2) := Lib.hid (R28_9.out.below hbl)
            have HB_10 : Hid (Below w.heap.size w v10) := Lib.hid (HB_9.out.trans (hbl.mono hw_9))
            have hz18_10 : v2.heap.size < v10.heap.size := (Array.getElem?_eq_some_iff.1 F18_10.out).1
            have hw_10 : w.heap.size ≤ v10.heap.size := HB_10.out.size
            clear F18_9 R22_9 R28_9 hb hbl HB_9 hz18_9 hw_9
            go_wp2_with fail
            go_meet
            exact (HB_10.out)
        case rest =>
          clear F18_6 R22_6 HB_6 hz18_6 hw_6
          have HB0_3 := Lib.hid hcut
          clear hcut
          clear HB2 HV5 HI HS HC HD hl2
          go_wp2_with fail
          refine (dInv_any a n c hn2 _ (HBY.out.below HB0_3.out)).mono ?_
          rintro e v1 ⟨p2, t2, rfl, hb⟩
          simp only [mv, mcells]
          have hbl : Below wc.heap.size wc v1 := hb
          have HB_1 : Hid (Below w.heap.size w v1) := Lib.hid (HB0_3.out.trans (hbl.mono HB0_3.out.size))
          have hw_1 : w.heap.size ≤ v1.heap.size := HB_1.out.size
          clear hb hbl HB0_3
          obtain ⟨P2, T2, C2, hV, hV2⟩ := inv_all p2 t2
          have HI := Lib.hid fun w => iInv_any p2 t2 w
          have HS := Lib.hid fun w => sInv_any p2 t2 w
          rw [hV] at HI HS
          have HV5 := Lib.hid hV2
          clear hV hV2
          simp only [mv, mcells] at HI HS
          go_wp2_with fail
          refine (HI.out _).mono ?_
          rintro e v2 ⟨rfl, hb⟩
          have hbl : Below v1.heap.size v1 v2 := ((Below.refl _ _).alloc (Nat.le_refl _) _).trans (hb.mono (by simp))
          have F32_2 : Hid (v2.heap[v1.heap.size]? = some (.cells (mcells p2 t2) 26 (0, 0))) := Lib.hid (carry (halloc_at _ _ _ rfl) hb)
          have HB_2 : Hid (Below w.heap.size w v2) := Lib.hid (HB_1.out.trans (hbl.mono hw_1))
          have hz32_2 : v1.heap.size < v2.heap.size := (Array.getElem?_eq_some_iff.1 F32_2.out).1
          have hw_2 : w.heap.size ≤ v2.heap.size := HB_2.out.size
          clear hb hbl HB_1 hw_1
          obtain ⟨x00, x01, x02, x03, x04, x05⟩ := blk6 F32_2.out
          go_wp2_with fail
          refine (HS.out _).mono ?_
          rintro e v3 ⟨rfl, hb⟩
          have hbl : Below v2.heap.size v2 v3 := ((Below.refl _ _).alloc (Nat.le_refl _) _).trans (hb.mono (by simp))
          have F32_3 : Hid (v3.heap[v1.heap.size]? = some (.cells (mcells p2 t2) 26 (0, 0))) := Lib.hid (carry F32_2.out hbl)
          have F33_3 : Hid (v3.heap[v2.heap.size]? = some (.cells (mcells P2 T2) 26 (0, 0))) := Lib.hid (carry (halloc_at _ _ _ rfl) hb)
          have HB_3 : Hid (Below w.heap.size w v3) := Lib.hid (HB_2.out.trans (hbl.mono hw_2))
          have hz32_3 : v1.heap.size < v3.heap.size := (Array.getElem?_eq_some_iff.1 F32_3.out).1
          have hz33_3 : v2.heap.size < v3.heap.size := (Array.getElem?_eq_some_iff.1 F33_3.out).1
          have hw_3 : w.heap.size ≤ v3.heap.size := HB_3.out.size
          clear x00 x01 x02 x03 x04 x05
          clear F32_2 hb hbl HB_2 hz32_2 hw_2
          have hq := fun w => runNeM P2 T2 P2 T2 w
          simp only [eqB_refl, Bool.not_true] at hq
          obtain ⟨x00, x01, x02, x03, x04, x05⟩ := blk6 F33_3.out
          obtain ⟨B2, hB2⟩ : ∃ B : Bool, (C2 == 0) = B := ⟨_, rfl⟩
          have HB2 := Lib.hid hB2
          go_upto_if 259 with fail
          clear hB2 hq
          clear x00 x01 x02 x03 x04 x05
          go_cut [] from 259 to 259 (fun wx => Below w.heap.size w wx)
          case first =>
            cases B2
            · go_wp2_with fail
              go_meet
              exact ((HB_3.out).alloc hw_3 _)
            · obtain ⟨U2, V2, L2, g1, g2, g3, g4⟩ := HV5.out (eq_of_beq HB2.out)
              have HI := Lib.hid fun w => iprod_any p2 t2 P2 T2 w
              have HF := Lib.hid fun w => iFixed_any U2 V2 w
              rw [g1] at HI
              rw [g2, g3] at HF
              clear g1 g2 g3
              simp only [mv, mcells] at HI HF
              obtain ⟨x00, x01, x02, x03, x04, x05⟩ := blk6 F32_3.out
              obtain ⟨y00, y01, y02, y03, y04, y05⟩ := blk6 F33_3.out
              go_wp2_with fail
              refine (HI.out _).mono ?_
              rintro e v4 ⟨rfl, hb⟩
              have hbl : Below v3.heap.size v3 v4 := ((Below.refl _ _).alloc (Nat.le_refl _) _).trans (hb.mono (by simp))
              have F32_4 : Hid (v4.heap[v1.heap.size]? = some (.cells (mcells p2 t2) 26 (0, 0))) := Lib.hid (carry F32_3.out hbl)
              have F33_4 : Hid (v4.heap[v2.heap.size]? = some (.cells (mcells P2 T2) 26 (0, 0))) := Lib.hid (carry F33_3.out hbl)
              have F35_4 : Hid (v4.heap[v3.heap.size]? = some (.cells (mcells P2 T2) 26 (0, 0))) := Lib.hid (carry (halloc_at _ _ _ rfl) hb)
              have HB_4 : Hid (Below w.heap.size w v4) := Lib.hid (HB_3.out.trans (hbl.mono hw_3))
              have hz32_4 : v1.heap.size < v4.heap.size := (Array.getElem?_eq_some_iff.1 F32_4.out).1
              have hz33_4 : v2.heap.size < v4.heap.size := (Array.getElem?_eq_some_iff.1 F33_4.out).1
              have hz35_4 : v3.heap.size < v4.heap.size := (Array.getElem?_eq_some_iff.1 F35_4.out).1
              have hw_4 : w.heap.size ≤ v4.heap.size := HB_4.out.size
              clear y00 y01 y02 y03 y04 y05 x00 x01 x02 x03 x04 x05
              clear F32_3 F33_3 hb hbl HB_3 hz32_3 hz33_3 hw_3
              go_wp2_with fail
              refine (HF.out _).mono ?_
              rintro e v5 ⟨a4, c4, rfl, hrd, hb⟩
              have hbl : Below v4.heap.size v4 v5 := ((Below.refl _ _).alloc (Nat.le_refl _) _).trans (hb.mono (by simp))
              have F32_5 : Hid (v5.heap[v1.heap.size]? = some (.cells (mcells p2 t2) 26 (0, 0))) := Lib.hid (carry F32_4.out hbl)
              have F33_5 : Hid (v5.heap[v2.heap.size]? = some (.cells (mcells P2 T2) 26 (0, 0))) := Lib.hid (carry F33_4.out hbl)
              have F35_5 : Hid (v5.heap[v3.heap.size]? = some (.cells (mcells P2 T2) 26 (0, 0))) := Lib.hid (carry F35_4.out hbl)
              have F37_5 : Hid (v5.heap[v4.heap.size]? = some (.cells (mcells U2 V2) 26 (0, 0))) := Lib.hid (carry (halloc_at _ _ _ rfl) hb)
              have R39_5 : Hid (Rd v5 0 a4 L2) := Lib.hid (hrd.mono (Nat.zero_le _))
              have HB_5 : Hid (Below w.heap.size w v5) := Lib.hid (HB_4.out.trans (hbl.mono hw_4))
              have hz32_5 : v1.heap.size < v5.heap.size := (Array.getElem?_eq_some_iff.1 F32_5.out).1
              have hz33_5 : v2.heap.size < v5.heap.size := (Array.getElem?_eq_some_iff.1 F33_5.out).1
              have hz35_5 : v3.heap.size < v5.heap.size := (Array.getElem?_eq_some_iff.1 F35_5.out).1
              have hz37_5 : v4.heap.size < v5.heap.size := (Array.getElem?_eq_some_iff.1 F37_5.out).1
              have hw_5 : w.heap.size ≤ v5.heap.size := HB_5.out.size
              clear F32_4 F33_4 F35_4 hb hbl hrd HB_4 hz32_4 hz33_4 hz35_4 hw_4
              obtain ⟨x00, x01, x02, x03, x04, x05⟩ := blk6 F32_5.out
              go_wp2_with fail
              go_meet
              exact (HB_5.out)
          case rest =>
            clear F32_3 F33_3 HB_3 hz32_3 hz33_3 hw_3
            have HB0_4 := Lib.hid hcut
            clear hcut
            clear HB2 HV5 HI HS
            go_wp2_with fail
            refine (dRen_any a n c hn2 _ (HBY.out.below HB0_4.out)).mono ?_
            rintro e v1 ⟨p2, t2, q2, u2, rfl, hb⟩
            simp only [mv, mcells]
            have hbl : Below wc.heap.size wc v1 := hb
            have HB_1 : Hid (Below w.heap.size w v1) := Lib.hid (HB0_4.out.trans (hbl.mono HB0_4.out.size))
            have hw_1 : w.heap.size ≤ v1.heap.size := HB_1.out.size
            clear hb hbl HB0_4
            obtain ⟨P2, T2, C2, hV, hV2⟩ := ren_all p2 t2 q2 u2
            have HI := Lib.hid fun w => iRen_any p2 t2 q2 u2 w
            have HS := Lib.hid fun w => sRen_any p2 t2 q2 u2 w
            rw [hV] at HI HS
            have HV5 := Lib.hid hV2
            clear hV hV2
            simp only [mv, mcells] at HI HS
            go_wp2_with fail
            refine (HI.out _).mono ?_
            rintro e v2 ⟨rfl, hb⟩
            have hbl : Below v1.heap.size v1 v2 := (((Below.refl _ _).alloc (Nat.le_refl _) _).alloc (by simp) _).trans (hb.mono (by simp; omega))
            have F41_2 : Hid (v2.heap[v1.heap.size]? = some (.cells (mcells p2 t2) 26 (0, 0))) := Lib.hid (carry (over_alloc (halloc_at _ _ _ rfl) _) hb)
            have F42_2 : Hid (v2.heap[v1.heap.size + 1]? = some (.cells (mcells q2 u2) 26 (0, 0))) := Lib.hid (carry (halloc_at _ _ _ (by simp)) hb)
            have HB_2 : Hid (Below w.heap.size w v2) := Lib.hid (HB_1.out.trans (hbl.mono hw_1))
            have hz41_2 : v1.heap.size < v2.heap.size := (Array.getElem?_eq_some_iff.1 F41_2.out).1
            have hz42_2 : v1.heap.size + 1 < v2.heap.size := (Array.getElem?_eq_some_iff.1 F42_2.out).1
            have hw_2 : w.heap.size ≤ v2.heap.size := HB_2.out.size
            clear hb hbl HB_1 hw_1
            obtain ⟨x00, x01, x02, x03, x04, x05⟩ := blk6 F41_2.out
            obtain ⟨y00, y01, y02, y03, y04, y05⟩ := blk6 F42_2.out
            go_wp2_with fail
            refine (HS.out _).mono ?_
            rintro e v3 ⟨rfl, hb⟩
            have hbl : Below v2.heap.size v2 v3 := ((Below.refl _ _).alloc (Nat.le_refl _) _).trans (hb.mono (by simp))
            have F41_3 : Hid (v3.heap[v1.heap.size]? = some (.cells (mcells p2 t2) 26 (0, 0))) := Lib.hid (carry F41_2.out hbl)
            have F42_3 : Hid (v3.heap[v1.heap.size + 1]? = some (.cells (mcells q2 u2) 26 (0, 0))) := Lib.hid (carry F42_2.out hbl)
            have F43_3 : Hid (v3.heap[v2.heap.size]? = some (.cells (mcells P2 T2) 26 (0, 0))) := Lib.hid (carry (halloc_at _ _ _ rfl) hb)
            have HB_3 : Hid (Below w.heap.size w v3) := Lib.hid (HB_2.out.trans (hbl.mono hw_2))
            have hz41_3 : v1.heap.size < v3.heap.size := (Array.getElem?_eq_some_iff.1 F41_3.out).1
            have hz42_3 : v1.heap.size + 1 < v3.heap.size := (Array.getElem?_eq_some_iff.1 F42_3.out).1
            have hz43_3 : v2.heap.size < v3.heap.size := (Array.getElem?_eq_some_iff.1 F43_3.out).1
            have hw_3 : w.heap.size ≤ v3.heap.size := HB_3.out.size
            clear y00 y01 y02 y03 y04 y05 x00 x01 x02 x03 x04 x05
            clear F41_2 F42_2 hb hbl HB_2 hz41_2 hz42_2 hw_2
            have hq := fun w => runNeM P2 T2 P2 T2 w
            simp only [eqB_refl, Bool.not_true] at hq
            obtain ⟨x00, x01, x02, x03, x04, x05⟩ := blk6 F43_3.out
            obtain ⟨B2, hB2⟩ : ∃ B : Bool, (C2 == 0) = B := ⟨_, rfl⟩
            have HB2 := Lib.hid hB2
            go_upto_if 310 with fail
            clear hB2 hq
            clear x00 x01 x02 x03 x04 x05
            go_cut [] from 310 to 310 (fun wx => Below w.heap.size w wx)
            case first =>
              cases B2
              · go_wp2_with fail
                go_meet
                exact ((HB_3.out).alloc hw_3 _)
              · obtain ⟨A2, G2, D2, E2, g1, g2, g3⟩ := HV5.out (eq_of_beq HB2.out)
                have HI := Lib.hid fun w => iPow_any p2 t2 2 w
                have HF := Lib.hid fun w => iRen_any A2 G2 q2 u2 w
                have HG := Lib.hid fun w => iPow_any P2 T2 2 w
                rw [g1] at HI
                rw [g2] at HF
                rw [g3] at HG
                clear g1 g2 g3
                simp only [mv, mcells] at HI HF HG
                obtain ⟨x00, x01, x02, x03, x04, x05⟩ := blk6 F41_3.out
                go_wp2_with fail
                refine (HI.out _).mono ?_
                rintro e v4 ⟨rfl, hb⟩
                have hbl : Below v3.heap.size v3 v4 := ((Below.refl _ _).alloc (Nat.le_refl _) _).trans (hb.mono (by simp))
                have F41_4 : Hid (v4.heap[v1.heap.size]? = some (.cells (mcells p2 t2) 26 (0, 0))) := Lib.hid (carry F41_3.out hbl)
                have F42_4 : Hid (v4.heap[v1.heap.size + 1]? = some (.cells (mcells q2 u2) 26 (0, 0))) := Lib.hid (carry F42_3.out hbl)
                have F43_4 : Hid (v4.heap[v2.heap.size]? = some (.cells (mcells P2 T2) 26 (0, 0))) := Lib.hid (carry F43_3.out hbl)
                have F45_4 : Hid (v4.heap[v3.heap.size]? = some (.cells (mcells P2 T2) 26 (0, 0))) := Lib.hid (carry (halloc_at _ _ _ rfl) hb)
                have HB_4 : Hid (Below w.heap.size w v4) := Lib.hid (HB_3.out.trans (hbl.mono hw_3))
                have hz41_4 : v1.heap.size < v4.heap.size := (Array.getElem?_eq_some_iff.1 F41_4.out).1
                have hz42_4 : v1.heap.size + 1 < v4.heap.size := (Array.getElem?_eq_some_iff.1 F42_4.out).1
                have hz43_4 : v2.heap.size < v4.heap.size := (Array.getElem?_eq_some_iff.1 F43_4.out).1
                have hz45_4 : v3.heap.size < v4.heap.size := (Array.getElem?_eq_some_iff.1 F45_4.out).1
                have hw_4 : w.heap.size ≤ v4.heap.size := HB_4.out.size
                clear x00 x01 x02 x03 x04 x05
                clear F41_3 F42_3 F43_3 hb hbl HB_3 hz41_3 hz42_3 hz43_3 hw_3
                obtain ⟨x00, x01, x02, x03, x04, x05⟩ := blk6 F42_4.out
                go_wp2_with fail
                refine (HF.out _).mono ?_
                rintro e v5 ⟨rfl, hb⟩
                have hbl : Below v4.heap.size v4 v5 := ((Below.refl _ _).alloc (Nat.le_refl _) _).trans (hb.mono (by simp))
                have F41_5 : Hid (v5.heap[v1.heap.size]? = some (.cells (mcells p2 t2) 26 (0, 0))) := Lib.hid (carry F41_4.out hbl)
                have F42_5 : Hid (v5.heap[v1.heap.size + 1]? = some (.cells (mcells q2 u2) 26 (0, 0))) := Lib.hid (carry F42_4.out hbl)
                have F43_5 : Hid (v5.heap[v2.heap.size]? = some (.cells (mcells P2 T2) 26 (0, 0))) := Lib.hid (carry F43_4.out hbl)
                have F45_5 : Hid (v5.heap[v3.heap.size]? = some (.cells (mcells P2 T2) 26 (0, 0))) := Lib.hid (carry F45_4.out hbl)
                have F47_5 : Hid (v5.heap[v4.heap.size]? = some (.cells (mcells A2 G2) 26 (0, 0))) := Lib.hid (carry (halloc_at _ _ _ rfl) hb)
                have HB_5 : Hid (Below w.heap.size w v5) := Lib.hid (HB_4.out.trans (hbl.mono hw_4))
                have hz41_5 : v1.heap.size < v5.heap.size := (Array.getElem?_eq_some_iff.1 F41_5.out).1
                have hz42_5 : v1.heap.size + 1 < v5.heap.size := (Array.getElem?_eq_some_iff.1 F42_5.out).1
                have hz43_5 : v2.heap.size < v5.heap.size := (Array.getElem?_eq_some_iff.1 F43_5.out).1
                have hz45_5 : v3.heap.size < v5.heap.size := (Array.getElem?_eq_some_iff.1 F45_5.out).1
                have hz47_5 : v4.heap.size < v5.heap.size := (Array.getElem?_eq_some_iff.1 F47_5.out).1
                have hw_5 : w.heap.size ≤ v5.heap.size := HB_5.out.size
                clear x00 x01 x02 x03 x04 x05
                clear F41_4 F42_4 F43_4 F45_4 hb hbl HB_4 hz41_4 hz42_4 hz43_4 hz45_4 hw_4
                obtain ⟨x00, x01, x02, x03, x04, x05⟩ := blk6 F43_5.out
                go_wp2_with fail
                refine (HG.out _).mono ?_
                rintro e v6 ⟨rfl, hb⟩
                have hbl : Below v5.heap.size v5 v6 := ((Below.refl _ _).alloc (Nat.le_refl _) _).trans (hb.mono (by simp))
                have F41_6 : Hid (v6.heap[v1.heap.size]? = some (.cells (mcells p2 t2) 26 (0, 0))) := Lib.hid (carry F41_5.out hbl)
                have F42_6 : Hid (v6.heap[v1.heap.size + 1]? = some (.cells (mcells q2 u2) 26 (0, 0))) := Lib.hid (carry F42_5.out hbl)
                have F43_6 : Hid (v6.heap[v2.heap.size]? = some (.cells (mcells P2 T2) 26 (0, 0))) := Lib.hid (carry F43_5.out hbl)
                have F45_6 : Hid (v6.heap[v3.heap.size]? = some (.cells (mcells P2 T2) 26 (0, 0))) := Lib.hid (carry F45_5.out hbl)
                have F47_6 : Hid (v6.heap[v4.heap.size]? = some (.cells (mcells A2 G2) 26 (0, 0))) := Lib.hid (carry F47_5.out hbl)
                have F49_6 : Hid (v6.heap[v5.heap.size]? = some (.cells (mcells D2 E2) 26 (0, 0))) := Lib.hid (carry (halloc_at _ _ _ rfl) hb)
                have HB_6 : Hid (Below w.heap.size w v6) := Lib.hid (HB_5.out.trans (hbl.mono hw_5))
                have hz41_6 : v1.heap.size < v6.heap.size := (Array.getElem?_eq_some_iff.1 F41_6.out).1
                have hz42_6 : v1.heap.size + 1 < v6.heap.size := (Array.getElem?_eq_some_iff.1 F42_6.out).1
                have hz43_6 : v2.heap.size < v6.heap.size := (Array.getElem?_eq_some_iff.1 F43_6.out).1
                have hz45_6 : v3.heap.size < v6.heap.size := (Array.getElem?_eq_some_iff.1 F45_6.out).1
                have hz47_6 : v4.heap.size < v6.heap.size := (Array.getElem?_eq_some_iff.1 F47_6.out).1
                have hz49_6 : v5.heap.size < v6.heap.size := (Array.getElem?_eq_some_iff.1 F49_6.out).1
                have hw_6 : w.heap.size ≤ v6.heap.size := HB_6.out.size
                clear x00 x01 x02 x03 x04 x05
                clear F41_5 F42_5 F43_5 F45_5 F47_5 hb hbl HB_5 hz41_5 hz42_5 hz43_5 hz45_5 hz47_5 hw_5
                have hq := fun w => runNeM D2 E2 D2 E2 w
                simp only [eqB_refl, Bool.not_true] at hq
                obtain ⟨x00, x01, x02, x03, x04, x05⟩ := blk6 F49_6.out
                go_wp2_with fail
                go_meet
                exact ((HB_6.out).alloc hw_6 _)
            case rest =>
              clear F41_3 F42_3 F43_3 HB_3 hz41_3 hz42_3 hz43_3 hw_3
              have HB0_5 := Lib.hid hcut
              clear hcut
              clear HB2 HV5 HI HS
              go_wp2_with fail
              refine (dKer_any a n c hn2 _ (HBY.out.below HB0_5.out)).mono ?_
              rintro e v1 ⟨p2, t2, rfl, hb⟩
              simp only [mv, mcells]
              have hbl : Below wc.heap.size wc v1 := hb
              have HB_1 : Hid (Below w.heap.size w v1) := Lib.hid (HB0_5.out.trans (hbl.mono HB0_5.out.size))
              have hw_1 : w.heap.size ≤ v1.heap.size := HB_1.out.size
              clear hb hbl HB0_5
              obtain ⟨L2, C2, R2, D2, hV1, hV2, hV3, hV4, hV5, hV6⟩ := ker_all p2 t2
              have HI := Lib.hid fun w => iKer_any p2 t2 w
              have HS := Lib.hid fun w => sKer_any p2 t2 w
              have HC := Lib.hid fun w => iRankOf_any p2 t2 w
              have HD := Lib.hid fun w => sRankOf_any p2 t2 w
              rw [hV1, hV2] at HI HS
              rw [hV3] at HC HD
              have HV5 := Lib.hid hV5
              have HV6 := Lib.hid hV6
              clear hV1 hV2 hV3 hV5 hV6
              simp only [mv, mcells] at HI HS HC HD
              go_wp2_with fail
              refine (HI.out _).mono ?_
              rintro e v2 ⟨a2, c2, rfl, hrd, hb⟩
              have hbl : Below v1.heap.size v1 v2 := ((Below.refl _ _).alloc (Nat.le_refl _) _).trans (hb.mono (by simp))
              have F53_2 : Hid (v2.heap[v1.heap.size]? = some (.cells (mcells p2 t2) 26 (0, 0))) := Lib.hid (carry (halloc_at _ _ _ rfl) hb)
              have R54_2 : Hid (Rd v2 0 a2 L2) := Lib.hid (hrd.mono (Nat.zero_le _))
              have HB_2 : Hid (Below w.heap.size w v2) := Lib.hid (HB_1.out.trans (hbl.mono hw_1))
              have hz53_2 : v1.heap.size < v2.heap.size := (Array.getElem?_eq_some_iff.1 F53_2.out).1
              have hw_2 : w.heap.size ≤ v2.heap.size := HB_2.out.size
              clear hb hbl hrd HB_1 hw_1
              obtain ⟨x00, x01, x02, x03, x04, x05⟩ := blk6 F53_2.out
              go_wp2_with fail
              refine (HS.out _).mono ?_
              rintro e v3 ⟨a3, c3, rfl, hrd, hb⟩
              have hbl : Below v2.heap.size v2 v3 := hb
              have F53_3 : Hid (v3.heap[v1.heap.size]? = some (.cells (mcells p2 t2) 26 (0, 0))) := Lib.hid (carry F53_2.out hbl)
              have R54_3 : Hid (Rd v3 0 a2 L2) := Lib.hid (R54_2.out.below hbl)
              have R56_3 : Hid (Rd v3 0 a3 L2) := Lib.hid (hrd.mono (Nat.zero_le _))
              have HB_3 : Hid (Below w.heap.size w v3) := Lib.hid (HB_2.out.trans (hbl.mono hw_2))
              have hz53_3 : v1.heap.size < v3.heap.size := (Array.getElem?_eq_some_iff.1 F53_3.out).1
              have hw_3 : w.heap.size ≤ v3.heap.size := HB_3.out.size
              clear x00 x01 x02 x03 x04 x05
              clear F53_2 R54_2 hb hbl hrd HB_2 hz53_2 hw_2
              obtain ⟨x00, x01, x02, x03, x04, x05⟩ := blk6 F53_3.out
              go_wp2_with fail
              refine (HC.out _).mono ?_
              rintro e v4 ⟨rfl, hb⟩
              have hbl : Below v3.heap.size v3 v4 := hb
              have F53_4 : Hid (v4.heap[v1.heap.size]? = some (.cells (mcells p2 t2) 26 (0, 0))) := Lib.hid (carry F53_3.out hbl)
              have R54_4 : Hid (Rd v4 0 a2 L2) := Lib.hid (R54_3.out.below hbl)
              have R56_4 : Hid (Rd v4 0 a3 L2) := Lib.hid (R56_3.out.below hbl)
              have HB_4 : Hid (Below w.heap.size w v4) := Lib.hid (HB_3.out.trans (hbl.mono hw_3))
              have hz53_4 : v1.heap.size < v4.heap.size := (Array.getElem?_eq_some_iff.1 F53_4.out).1
              have hw_4 : w.heap.size ≤ v4.heap.size := HB_4.out.size
              clear x00 x01 x02 x03 x04 x05
              clear F53_3 R54_3 R56_3 hb hbl HB_3 hz53_3 hw_3
              obtain ⟨x00, x01, x02, x03, x04, x05⟩ := blk6 F53_4.out
              go_wp2_with fail
              refine (HD.out _).mono ?_
              rintro e v5 ⟨rfl, hb⟩
              have hbl : Below v4.heap.size v4 v5 := hb
              have F53_5 : Hid (v5.heap[v1.heap.size]? = some (.cells (mcells p2 t2) 26 (0, 0))) := Lib.hid (carry F53_4.out hbl)
              have R54_5 : Hid (Rd v5 0 a2 L2) := Lib.hid (R54_4.out.below hbl)
              have R56_5 : Hid (Rd v5 0 a3 L2) := Lib.hid (R56_4.out.below hbl)
              have HB_5 : Hid (Below w.heap.size w v5) := Lib.hid (HB_4.out.trans (hbl.mono hw_4))
              have hz53_5 : v1.heap.size < v5.heap.size := (Array.getElem?_eq_some_iff.1 F53_5.out).1
              have hw_5 : w.heap.size ≤ v5.heap.size := HB_5.out.size
              clear x00 x01 x02 x03 x04 x05
              clear F53_4 R54_4 R56_4 hb hbl HB_4 hz53_4 hw_4
              clear F53_5 hz53_5
              clear HI HS HC HD
              go_wp2_with fail
              refine (dFix_any a n c hn2 _ (HBY.out.below HB_5.out)).mono ?_
              rintro e v6 ⟨p3, t3, rfl, hb⟩
              simp only [mv, mcells]
              have hbl : Below v5.heap.size v5 v6 := hb
              have R54_6 : Hid (Rd v6 0 a2 L2) := Lib.hid (R54_5.out.below hbl)
              have R56_6 : Hid (Rd v6 0 a3 L2) := Lib.hid (R56_5.out.below hbl)
              have HB_6 : Hid (Below w.heap.size w v6) := Lib.hid (HB_5.out.trans (hbl.mono hw_5))
              have hw_6 : w.heap.size ≤ v6.heap.size := HB_6.out.size
              clear R54_5 R56_5 hb hbl HB_5 hw_5
              have HI := Lib.hid fun w => iFixed_any p3 t3 w
              have HS := Lib.hid fun w => sFixed_any p3 t3 w
              generalize fixL p3 t3 = L3 at HI HS
              generalize fixC p3 t3 = C3 at HI HS
              simp only [mv, mcells] at HI HS
              go_wp2_with fail
              refine (HI.out _).mono ?_
              rintro e v7 ⟨a4, c4, rfl, hrd, hb⟩
              have hbl : Below v6.heap.size v6 v7 := ((Below.refl _ _).alloc (Nat.le_refl _) _).trans (hb.mono (by simp))
              have F62_7 : Hid (v7.heap[v6.heap.size]? = some (.cells (mcells p3 t3) 26 (0, 0))) := Lib.hid (carry (halloc_at _ _ _ rfl) hb)
              have R54_7 : Hid (Rd v7 0 a2 L2) := Lib.hid (R54_6.out.below hbl)
              have R56_7 : Hid (Rd v7 0 a3 L2) := Lib.hid (R56_6.out.below hbl)
              have R63_7 : Hid (Rd v7 0 a4 L3) := Lib.hid (hrd.mono (Nat.zero_le _))
              have HB_7 : Hid (Below w.heap.size w v7) := Lib.hid (HB_6.out.trans (hbl.mono hw_6))
              have hz62_7 : v6.heap.size < v7.heap.size := (Array.getElem?_eq_some_iff.1 F62_7.out).1
              have hw_7 : w.heap.size ≤ v7.heap.size := HB_7.out.size
              clear R54_6 R56_6 hb hbl hrd HB_6 hw_6
              obtain ⟨x00, x01, x02, x03, x04, x05⟩ := blk6 F62_7.out
              go_wp2_with fail
              refine (HS.out _).mono ?_
              rintro e v8 ⟨a5, c5, rfl, hrd, hb⟩
              have hbl : Below v7.heap.size v7 v8 := hb
              have F62_8 : Hid (v8.heap[v6.heap.size]? = some (.cells (mcells p3 t3) 26 (0, 0))) := Lib.hid (carry F62_7.out hbl)
              have R54_8 : Hid (Rd v8 0 a2 L2) := Lib.hid (R54_7.out.below hbl)
              have R56_8 : Hid (Rd v8 0 a3 L2) := Lib.hid (R56_7.out.below hbl)
              have R63_8 : Hid (Rd v8 0 a4 L3) := Lib.hid (R63_7.out.below hbl)
              have R65_8 : Hid (Rd v8 0 a5 L3) := Lib.hid (hrd.mono (Nat.zero_le _))
              have HB_8 : Hid (Below w.heap.size w v8) := Lib.hid (HB_7.out.trans (hbl.mono hw_7))
              have hz62_8 : v6.heap.size < v8.heap.size := (Array.getElem?_eq_some_iff.1 F62_8.out).1
              have hw_8 : w.heap.size ≤ v8.heap.size := HB_8.out.size
              clear x00 x01 x02 x03 x04 x05
              clear F62_7 R54_7 R56_7 R63_7 hb hbl hrd HB_7 hz62_7 hw_7
              clear F62_8 hz62_8
              clear HI HS
              go_wp2_with fail
              refine (dIsi_any a n c hn2 _ (HBY.out.below HB_8.out)).mono ?_
              rintro e v9 ⟨p4, t4, rfl, hb⟩
              simp only [mv, mcells]
              have hbl : Below v8.heap.size v8 v9 := hb
              have R54_9 : Hid (Rd v9 0 a2 L2) := Lib.hid (R54_8.out.below hbl)
              have R56_9 : Hid (Rd v9 0 a3 L2) := Lib.hid (R56_8.out.below hbl)
              have R63_9 : Hid (Rd v9 0 a4 L3) := Lib.hid (R63_8.out.below hbl)
              have R65_9 : Hid (Rd v9 0 a5 L3) := Lib.hid (R65_8.out.below hbl)
              have HB_9 : Hid (Below w.heap.size w v9) := Lib.hid (HB_8.out.trans (hbl.mono hw_8))
              have hw_9 : w.heap.size ≤ v9.heap.size := HB_9.out.size
              clear R54_8 R56_8 R63_8 R65_8 hb hbl HB_8 hw_8
              have HI := Lib.hid fun w => iIdemp_any p4 t4 w
              have HS := Lib.hid fun w => sIdemp_any p4 t4 w
              obtain ⟨b4, C4, hV⟩ := idem_some p4 t4
              rw [hV] at HI HS
              clear hV
              simp only [mv, mcells] at HI HS
              go_wp2_with fail
              refine (HI.out _).mono ?_
              rintro e v10 ⟨rfl, hb⟩
              have hbl : Below v9.heap.size v9 v10 := ((Below.refl _ _).alloc (Nat.le_refl _) _).trans (hb.mono (by simp))
              have F67_10 : Hid (v10.heap[v9.heap.size]? = some (.cells (mcells p4 t4) 26 (0, 0))) := Lib.hid (carry (halloc_at _ _ _ rfl) hb)
              have R54_10 : Hid (Rd v10 0 a2 L2) := Lib.hid (R54_9.out.below hbl)
              have R56_10 : Hid (Rd v10 0 a3 L2) := Lib.hid (R56_9.out.below hbl)
              have R63_10 : Hid (Rd v10 0 a4 L3) := Lib.hid (R63_9.out.below hbl)
              have R65_10 : Hid (Rd v10 0 a5 L3) := Lib.hid (R65_9.out.below hbl)
              have HB_10 : Hid (Below w.heap.size w v10) := Lib.hid (HB_9.out.trans (hbl.mono hw_9))
              have hz67_10 : v9.heap.size < v10.heap.size := (Array.getElem?_eq_some_iff.1 F67_10.out).1
              have hw_10 : w.heap.size ≤ v10.heap.size := HB_10.out.size
              clear R54_9 R56_9 R63_9 R65_9 hb hbl HB_9 hw_9
              obtain ⟨x00, x01, x02, x03, x04, x05⟩ := blk6 F67_10.out
              go_wp2_with fail
              refine (HS.out _).mono ?_
              rintro e v11 ⟨rfl, hb⟩
              have hbl : Below v10.heap.size v10 v11 := hb
              have F67_11 : Hid (v11.heap[v9.heap.size]? = some (.cells (mcells p4 t4) 26 (0, 0))) := Lib.hid (carry F67_10.out hbl)
              have R54_11 : Hid (Rd v11 0 a2 L2) := Lib.hid (R54_10.out.below hbl)
              have R56_11 : Hid (Rd v11 0 a3 L2) := Lib.hid (R56_10.out.below hbl)
              have R63_11 : Hid (Rd v11 0 a4 L3) := Lib.hid (R63_10.out.below hbl)
              have R65_11 : Hid (Rd v11 0 a5 L3) := Lib.hid (R65_10.out.below hbl)
              have HB_11 : Hid (Below w.heap.size w v11) := Lib.hid (HB_10.out.trans (hbl.mono hw_10))
              have hz67_11 : v9.heap.size < v11.heap.size := (Array.getElem?_eq_some_iff.1 F67_11.out).1
              have hw_11 : w.heap.size ≤ v11.heap.size := HB_11.out.size
              clear x00 x01 x02 x03 x04 x05
              clear F67_10 R54_10 R56_10 R63_10 R65_10 hb hbl HB_10 hz67_10 hw_10
              clear F67_11 hz67_11
              clear HI HS
              go_wp2_with fail
              refine (like_same L2 a2 a3 c2 c3 0 0 _ R54_11.out R56_11.out).mono ?_
              rintro e v12 ⟨rfl, hb⟩
              have hbl : Below v11.heap.size v11 v12 := hb
              have R54_12 : Hid (Rd v12 0 a2 L2) := Lib.hid (R54_11.out.below hbl)
              have R56_12 : Hid (Rd v12 0 a3 L2) := Lib.hid (R56_11.out.below hbl)
              have R63_12 : Hid (Rd v12 0 a4 L3) := Lib.hid (R63_11.out.below hbl)
              have R65_12 : Hid (Rd v12 0 a5 L3) := Lib.hid (R65_11.out.below hbl)
              have HB_12 : Hid (Below w.heap.size w v12) := Lib.hid (HB_11.out.trans (hbl.mono hw_11))
              have hw_12 : w.heap.size ≤ v12.heap.size := HB_12.out.size
              clear R54_11 R56_11 R63_11 R65_11 hb hbl HB_11 hw_11
              go_wp2_with fail
              refine (like_same L3 a4 a5 c4 c5 0 0 _ R63_12.out R65_12.out).mono ?_
              rintro e v13 ⟨rfl, hb⟩
              have hbl : Below v12.heap.size v12 v13 := hb
              have R54_13 : Hid (Rd v13 0 a2 L2) := Lib.hid (R54_12.out.below hbl)
              have R56_13 : Hid (Rd v13 0 a3 L2) := Lib.hid (R56_12.out.below hbl)
              have R63_13 : Hid (Rd v13 0 a4 L3) := Lib.hid (R63_12.out.below hbl)
              have R65_13 : Hid (Rd v13 0 a5 L3) := Lib.hid (R65_12.out.below hbl)
              have HB_13 : Hid (Below w.heap.size w v13) := Lib.hid (HB_12.out.trans (hbl.mono hw_12))
              have hw_13 : w.heap.size ≤ v13.heap.size := HB_13.out.size
              clear R54_12 R56_12 R63_12 R65_12 hb hbl HB_12 hw_12
              clear R56_13
              clear R63_13
              clear R65_13
              have hcell := rd_at R54_13.out
              have HCELL := Lib.hid hcell
              clear hcell
              by_cases hC2 : C2 = 0
              · have HMX := Lib.hid (HV6.out hC2)
                subst hC2
                go_wp2_with fail
                go_loopw [72, 73] (fun m i wr => ∃ q d : Nat, q ≤ L2.length ∧ m = .int .i64 (mxL L2 q) ∧ i = .int .i64 q ∧ wr = v13.drewN d) (fun _ i _ => L2.length - (intOf i).toNat)
                case atStart => exact ⟨0, 0, by omega, rfl, rfl, rfl⟩
                case round =>
                  obtain ⟨q, d, hq, rfl, rfl, rfl⟩ := hrel
                  by_cases hql : q < L2.length
                  · have hql2 : (q : Int) < (L2.length : Int) := by omega
                    obtain ⟨g, ea, hgb, hcl⟩ := HCELL.out q hql
                    subst ea
                    have hbd := HV5.out q hql
                    have HM : Hid (max (mxL L2 q) (L2.getD q 0 + 1) = mxL L2 (q + 1)) := Lib.hid rfl
                    have hmb := mxL_bnd HV5.out q hq
                    have HM2 := Lib.hid hmb
                    generalize L2.getD q 0 = X at *
                    generalize mxL L2 q = Y at *
                    go_wp2_with fail
                    go_roundw
                    case rel => exact ⟨q + 1, d, by omega, by rw [HM.out], by go_num, rfl⟩
                    case measure => simp [intOf]; omega
                  · have hqe : q = L2.length := by omega
                    subst hqe
                    have hmx := HMX.out
                    generalize mxL L2 L2.length = M at *
                    subst hmx
                    go_wp2_with fail
                    go_ret
                    refine ⟨by simp, below_drewN HB_13.out _⟩
              · go_wp2_with fail
                go_ret
                exact ⟨rfl, HB_13.out⟩

end Go.Proofs.Ythblbamiammodaa
