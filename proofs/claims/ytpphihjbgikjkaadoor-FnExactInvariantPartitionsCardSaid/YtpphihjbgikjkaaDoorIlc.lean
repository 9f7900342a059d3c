/- The contracts of impl.ListOfClasses and of its closure. -/
import Derived.Test.YtpphihjbgikjkaaDoorBhd
import Derived.Test.YtpphihjbgikjkaaDoorMoc
import Derived.Test.YtpphihjbgikjkaaDoorLcp
import Derived.Test.YtpphihjbgikjkaaDoorRlo
import Derived.Deep.RegionHeld3
import Derived.StillTailTactics
namespace Go.Proofs.YtpphihjbgikjkaaDoor
open Go Go.RowKit

set_option maxRecDepth 100000 in
set_option maxHeartbeats 4000000 in
theorem clo_any (L : List MapN) (P : List Int) (n : Nat) (hn : n ≤ 5) (E : Addr) (hl : 0 < L.length) (b off : Nat) (cap : Nat) (a2 : Option Addr) (c2 b1 b2 : Nat) (w : World)
    (h1 : w.heap[b1]? = some (.cells #[.slice a2 P.length c2] 36 (0, 0))) (h2 : w.heap[b2]? = some (.cells #[.slice (some ⟨b, off, none⟩) L.length cap] 27 (0, 0))) (hbl : b < w.heap.size) (hx : w.cell? ⟨b, off, none⟩ = some (.int .i64 (n : Int)))
    (hr : InRow w a2 P) (hE : parB P n = false → w.cell? ⟨0, 0, none⟩ = some (.iface 96 (.pointer (some E)))) :
    Calls Tryd.prog 49 #[.pointer (some ⟨b1, 0, none⟩), .pointer (some ⟨b2, 0, none⟩)] w (RetCla P n E w) := by
  have HCL := Lib.hid fun z (hb : Below w.heap.size w z) => icla_any P n hn E a2 c2 z (hr.below hb) (fun h => (hb.cell (p := ⟨0, 0, none⟩) (World.block_lt_of_cell? w _ (hE h))).trans (hE h))
  have hl1 : b1 < w.heap.size := (Array.getElem?_eq_some_iff.1 h1).1
  have hl2 : b2 < w.heap.size := (Array.getElem?_eq_some_iff.1 h2).1
  have hl' : (0 : Int) < (L.length : Int) := by omega
  have e1 := Joins.cell_of_block h1 0
  have e2 := Joins.cell_of_block h2 0
  simp only [List.getElem?_toArray, List.getElem?_cons_zero] at e1 e2
  have r1 : ∀ z, Below w.heap.size w z → z.cell? ⟨b1, 0, none⟩ = some (.slice a2 P.length c2) := fun z h => (h.cell (p := ⟨b1, 0, none⟩) hl1).trans e1
  have r2 : ∀ z, Below w.heap.size w z → z.cell? ⟨b2, 0, none⟩ = some (.slice (some ⟨b, off, none⟩) L.length cap) := fun z h => (h.cell (p := ⟨b2, 0, none⟩) hl2).trans e2
  have r3 : ∀ z, Below w.heap.size w z → z.cell? ⟨b, off, none⟩ = some (.int .i64 (n : Int)) := fun z h => (h.cell (p := ⟨b, off, none⟩) hbl).trans hx
  clear hr hE h1 h2 e1 e2 hx
  obtain ⟨RT, hRT⟩ : ∃ RT, RT = RetCla P n E w := ⟨_, rfl⟩
  have HRT := Lib.hid hRT
  rw [← hRT]
  clear hRT
  cases hp : parB P n
  · have HCB : Hid (∀ z, Below w.heap.size w z → Calls Tryd.prog 39 #[.slice a2 P.length c2, .int .i64 (n : Int)] z fun e w' => e = .panicked [{ v := .iface 96 (.pointer (some E)), recovered := false }] ∧ Below z.heap.size z w') := Lib.hid fun z hz => (HCL.out z hz).mono fun e w' h => by
      unfold RetCla at h
      rw [hp] at h
      simpa using h
    have HP := Lib.hid hp
    clear hp HCL
    go_enter Tryd.func49, Tryd.ntmps49
    go_wp2_with fail
    have f1 := r1 w (Below.refl _ _)
    have f2 := r2 w (Below.refl _ _)
    have f3 := r3 w (Below.refl _ _)
    go_still_tail 5, (by kernel_rfl)
    go_wp2_with fail
    refine (HCB.out _ (by (repeat' (first | (with_reducible exact Below.refl _ _) | (with_reducible refine Below.alloc ?_ ?_ _) | (with_reducible refine Below.setCell ?_ ?_ _) | (with_reducible refine Below.drew ?_) | (with_reducible refine below_drewN ?_ _) | (with_reducible refine Below.trans ?_ (Below.mono (Hid.out (by assumption)) ?_)) | omega | (simp; done) | (simp; omega))))).mono ?_
    rintro e w1 ⟨rfl, hb⟩
    have HB := Lib.hid hb
    clear hb
    go_wp2_with fail
    rw [HRT.out]
    exact ⟨rfl, RetCla.bad HP.out (by (repeat' (first | (with_reducible exact Below.refl _ _) | (with_reducible refine Below.alloc ?_ ?_ _) | (with_reducible refine Below.setCell ?_ ?_ _) | (with_reducible refine Below.drew ?_) | (with_reducible refine below_drewN ?_ _) | (with_reducible refine Below.trans ?_ (Below.mono (Hid.out (by assumption)) ?_)) | omega | (simp; done) | (simp; omega))))⟩
  · have HCB : Hid (∀ z, Below w.heap.size w z → Calls Tryd.prog 39 #[.slice a2 P.length c2, .int .i64 (n : Int)] z fun e w' => ∃ v us, e = .returned v ∧ Trw w' z.heap.size v us (clsK P n) ∧ Below z.heap.size z w') := Lib.hid fun z hz => (HCL.out z hz).mono fun e w' h => by
      unfold RetCla at h
      rw [if_pos hp] at h
      exact h
    have HP := Lib.hid hp
    clear hp HCL
    go_enter Tryd.func49, Tryd.ntmps49
    go_wp2_with fail
    go_region_held3 (fun w' => Below w.heap.size w w') (first | (with_reducible assumption) | ((repeat' (first | (with_reducible exact Below.refl _ _) | (with_reducible refine Below.alloc ?_ ?_ _) | (with_reducible refine Below.setCell ?_ ?_ _) | (with_reducible refine Below.drew ?_) | (with_reducible refine below_drewN ?_ _) | (with_reducible refine Below.trans ?_ (Below.mono (Hid.out (by assumption)) ?_)) | omega | (simp; done) | (simp; omega))); done))
      (first | (go_at_call 39; (with_reducible refine (HCB.out _ (by (repeat' (first | (with_reducible exact Below.refl _ _) | (with_reducible refine Below.alloc ?_ ?_ _) | (with_reducible refine Below.setCell ?_ ?_ _) | (with_reducible refine Below.drew ?_) | (with_reducible refine below_drewN ?_ _) | (with_reducible refine Below.trans ?_ (Below.mono (Hid.out (by assumption)) ?_)) | omega | (simp; done) | (simp; omega))))).mono ?_); rintro e w1 ⟨v, us, rfl, ht, hb⟩; have HT := Lib.hid ht; have HB := Lib.hid hb; have hz := hb.size; clear hb ht) | fail "arm")
    all_goals go_wp2_with fail
    all_goals rw [HRT.out]
    all_goals exact RetCla.good HP.out (HT.out.low (by simp)) (by (repeat' (first | (with_reducible exact Below.refl _ _) | (with_reducible refine Below.alloc ?_ ?_ _) | (with_reducible refine Below.setCell ?_ ?_ _) | (with_reducible refine Below.drew ?_) | (with_reducible refine below_drewN ?_ _) | (with_reducible refine Below.trans ?_ (Below.mono (Hid.out (by assumption)) ?_)) | omega | (simp; done) | (simp; omega))))

theorem mocV_yes {P : List Int} {t : Nat → Int} {n : Nat} (h : invT P t n = true) : mocV P t n = .tuple #[mv (nxK P n : Int) (qmF P t n), .int .i64 0] := by unfold mocV; rw [if_pos h]
theorem mocV_no {P : List Int} {t : Nat → Int} {n : Nat} (h : invT P t n = false) : mocV P t n = .tuple #[mv 0 (fun _ => 0), .int .i64 5] := by unfold mocV; rw [if_neg (by rw [h]; exact Bool.false_ne_true)]

set_option maxRecDepth 100000 in
set_option maxHeartbeats 8000000 in
theorem iLoc_any (L : List MapN) (hl1 : L.length ≤ 1048576) (P : List Int) (_ : P.length ≤ 1048576) (a : Option Addr) (cap : Nat) (hc1 : a = none → cap = 0) (a2 : Option Addr) (c2 : Nat) (w : World) (hr : InRowM w a L) (hr2 : InRow w a2 P) (hE : Er w) :
    Calls Tryd.prog 29 #[.slice a L.length cap, .slice a2 P.length c2] w (RetRowN w.heap.size (locL L P) (locC L P) w) := by
  have hmf : ∀ (fn : Fn) (first cap : Array Value) (w : World), (Instr.makeFunc fn first cap).run Tryd.prog w = .ok (.func fn first cap) w := fun _ _ _ _ => rfl
  have HG := Lib.hid fun wx (hb : Below w.heap.size w wx) => check_any a none cap 0 L [] hc1 (fun _ => rfl) hl1 (by simp) wx (hr.below hb) (Or.inl rfl)
  obtain ⟨wz, hwz⟩ : ∃ wz, wz = (w.alloc (.cells #[.slice a L.length cap] 27)).alloc (.cells #[.slice a2 P.length c2] 36) := ⟨_, rfl⟩
  have HBZ : Hid (Below w.heap.size w wz) := Lib.hid (by rw [hwz]; (repeat' (first | (with_reducible exact Below.refl _ _) | (with_reducible refine Below.alloc ?_ ?_ _) | (with_reducible refine Below.setCell ?_ ?_ _) | (with_reducible refine Below.drew ?_) | (with_reducible refine below_drewN ?_ _) | (with_reducible refine Below.trans ?_ (Below.mono (Hid.out (by assumption)) ?_)) | omega | (simp; done) | (simp; omega))))
  have HZ0 : Hid (wz.heap[w.heap.size]? = some (.cells #[.slice a L.length cap] 27 (0, 0))) := Lib.hid (by rw [hwz]; exact (halloc_lt _ _ _ (by simp)).trans (halloc_at _ _ _ rfl))
  have HZ1 : Hid (wz.heap[w.heap.size + 1]? = some (.cells #[.slice a2 P.length c2] 36 (0, 0))) := Lib.hid (by rw [hwz]; exact halloc_at _ _ _ (by simp))
  have hzs : wz.heap.size = w.heap.size + 1 + 1 := by rw [hwz]; simp
  have e0 := Joins.cell_of_block HZ0.out 0
  have e1 := Joins.cell_of_block HZ1.out 0
  simp only [List.getElem?_toArray, List.getElem?_cons_zero] at e0 e1
  have HWZ := Lib.hid hwz
  have HZS := Lib.hid hzs
  clear hwz hzs
  by_cases hC : chkC L [] = 0
  · obtain ⟨n, hok, hn⟩ := LOk.of hC
    rw [hC] at HG
    have hn5 := hok.n5
    have hl : 0 < L.length := by have := hok.len1; omega
    have hl' : (0 : Int) < (L.length : Int) := by omega
    obtain ⟨b, off, rfl, hbl, hat⟩ := hr.at0 hl
    have h0 := hat.1
    rw [hok.pts 0 hl] at h0
    obtain ⟨E, hEE⟩ := hE
    have hE0 := World.block_lt_of_cell? w _ hEE
    have HCLO := Lib.hid fun wx (hb : Below wz.heap.size wz wx) => clo_any L P n hn5 E hl b off cap a2 c2 (w.heap.size + 1) w.heap.size wx
      ((hb.block _ (by rw [HZS.out]; omega)).trans HZ1.out) ((hb.block _ (by rw [HZS.out]; omega)).trans HZ0.out) (by have := hb.size; have := HZS.out; omega)
      (((HBZ.out.trans (hb.mono (by rw [HZS.out]; omega))).cell (p := ⟨b, off, none⟩) hbl).trans h0)
      (hr2.below (HBZ.out.trans (hb.mono (by rw [HZS.out]; omega))))
      (fun _ => ((HBZ.out.trans (hb.mono (by rw [HZS.out]; omega))).cell (p := ⟨0, 0, none⟩) hE0).trans hEE)
    cases hp : parB P n
    · have e5 : ptC L P = 2 := ptC_out hC hn hp
      have e6 : locC L P = 2 := by unfold locC; rw [if_neg (by rw [e5]; decide), e5]
      have e7 : locL L P = [] := by unfold locL; rw [if_neg (by rw [e6]; decide)]
      rw [e6, e7]
      have HBD := Lib.hid fun wx (hb : Below wz.heap.size wz wx) => bhd_bad E ⟨w.heap.size + 1, 0, none⟩ ⟨w.heap.size, 0, none⟩ wx (fun wy hy => (HCLO.out wy (hb.trans (hy.mono hb.size))).mono fun e w' h => by
        unfold RetCla at h
        rw [hp] at h
        simpa using h)
      clear hr hr2 hC hok hn hat h0 hp e5 e6 e7 HCLO hEE
      go_enter Tryd.func29, Tryd.ntmps29
      go_wp2_with fail
      rw [← HWZ.out]
      refine (HG.out _ HBZ.out).mono ?_
      rintro e w1 ⟨rfl, hb⟩
      have HB1 := Lib.hid hb
      clear hb
      go_wp2_with fail
      refine (HBD.out _ HB1.out).mono ?_
      rintro e w2 ⟨rfl, hb⟩
      have HB2 := Lib.hid hb
      clear hb
      go_wp2_with fail
      go_ret2
      exact ⟨none, 0, rfl, ⟨by simp, Or.inl rfl⟩, HBZ.out.trans ((HB1.out.trans (HB2.out.mono HB1.out.size)).mono HBZ.out.size)⟩
    · obtain ⟨hPl, hPo⟩ := parB_iff.1 hp
      have e5 : ptC L P = 0 := ptC_good hC hn hp
      have HBD := Lib.hid fun wx (hb : Below wz.heap.size wz wx) => bhd_good (clsK P n) ⟨w.heap.size + 1, 0, none⟩ ⟨w.heap.size, 0, none⟩ wx (fun wy hy => (HCLO.out wy (hb.trans (hy.mono hb.size))).mono fun e w' h => by
        unfold RetCla at h
        rw [if_pos hp] at h
        exact h)
      have HCO : Hid (invB L P n = true → locC L P = 0 ∧ locL L P = locM L P n) := Lib.hid fun h => by
        have e6 : locC L P = 0 := by unfold locC; rw [if_pos e5, hn, Int.toNat_natCast, if_pos h]
        exact ⟨e6, by unfold locL; rw [if_pos e6, hn, Int.toNat_natCast]⟩
      have HCN : Hid (invB L P n = false → locC L P = 5 ∧ locL L P = []) := Lib.hid fun h => by
        have e6 : locC L P = 5 := by unfold locC; rw [if_pos e5, hn, Int.toNat_natCast, h]; rfl
        exact ⟨e6, by unfold locL; rw [if_neg (by rw [e6]; decide)]⟩
      have HK := Lib.hid hok
      have HPO := Lib.hid hPo
      have HR := Lib.hid hr
      have HP := Lib.hid hr2
      have HL := Lib.hid hPl
      have hmn := nxK_le P n
      have hl6 := hok.len6
      have HCLL := Lib.hid (clsK_len P n)
      have HRLL := Lib.hid (clsK_rlen P n)
      have HMO := Lib.hid fun t ht a4 c4 wx h1 h2 => imoc_any P n hn5 hPo hPl t ht a2 c2 a4 c4 wx h1 h2
      rw [hPl] at e1 HWZ ⊢
      clear hr hr2 hC hok hn hat h0 hp e5 HCLO hEE hPl hPo
      obtain ⟨RC, hRC⟩ : ∃ RC, RC = locC L P := ⟨_, rfl⟩
      obtain ⟨RL, hRL⟩ : ∃ RL, RL = locL L P := ⟨_, rfl⟩
      rw [← hRC, ← hRL] at HCO HCN
      rw [← hRC, ← hRL]
      clear hRC hRL
      obtain ⟨m, hm⟩ : ∃ m, m = nxK P n := ⟨_, rfl⟩
      have HM := Lib.hid hm
      rw [← hm] at HCLL hmn HMO
      clear hm
      go_enter Tryd.func29, Tryd.ntmps29
      go_wp2_with fail
      rw [← HWZ.out]
      refine (HG.out _ HBZ.out).mono ?_
      rintro e w1 ⟨rfl, hb⟩
      have HB1 := Lib.hid hb
      clear hb
      go_wp2_with fail
      refine (HBD.out _ HB1.out).mono ?_
      rintro e w2 ⟨v, us, rfl, ht, hb⟩
      obtain ⟨a4, c4, rfl, hrt⟩ := ht.rdT (by rw [HCLL.out]; omega) (fun j _ => by have := HRLL.out j; omega)
      rw [HCLL.out]
      have HCI := Lib.hid hrt.inRowL
      have HB2 : Hid (Below wz.heap.size wz w2) := Lib.hid (HB1.out.trans (hb.mono HB1.out.size))
      have hz2 := HB2.out.size
      have hzz := HZS.out
      have hx0 := (HB2.out.cell (p := ⟨w.heap.size, 0, none⟩) (by rw [HZS.out]; show w.heap.size < _; omega)).trans e0
      have r1 : ∀ z, Below wz.heap.size wz z → z.cell? ⟨w.heap.size + 1, 0, none⟩ = some (.slice a2 n c2) := fun z h => (h.cell (p := ⟨w.heap.size + 1, 0, none⟩) (by rw [HZS.out]; show w.heap.size + 1 < _; omega)).trans e1
      have HR1 := Lib.hid r1
      clear ht hrt hb r1
      go_wp2_with fail
      go_loopw [8, 10, 11, 12, 28] (fun v _ _ _ i wr => ∃ k : Nat, k ≤ L.length ∧ i = .int .i64 (k : Int) ∧ OwnM wr w2.heap.size v (locM (L.take k) P n) ∧ (∀ i, i < k → invT P (L.getD i z0).2 n = true) ∧ Below w2.heap.size w2 wr) (fun _ _ _ _ i _ => L.length - (intOf i).toNat)
      case atStart => exact ⟨0, by omega, rfl, World.ownsRow_nil _ _ _ _, fun i hi => by omega, Below.refl _ _⟩
      case round =>
        obtain ⟨k, hk, rfl, hown, hin, hb⟩ := hrel
        have HO := Lib.hid hown
        have HI := Lib.hid hin
        have HB := Lib.hid hb
        have hsr := hb.size
        have HBW : Hid (Below wz.heap.size wz wr) := Lib.hid (HB2.out.trans (hb.mono hz2))
        have HBWW : Hid (Below w.heap.size w wr) := Lib.hid (HBZ.out.trans (HBW.out.mono (by omega)))
        clear hown hin hb
        obtain ⟨wo, hwo⟩ : ∃ wo, wo = wr := ⟨_, rfl⟩
        subst hwo
        by_cases hkl : k < L.length
        · have hkl' : (k : Int) < (L.length : Int) := by omega
          obtain ⟨bL, oL, hab, hbL, x0, x1, x2, x3, x4, x5⟩ := (HR.out.below HBWW.out).at6 k hkl
          injection hab with hab
          injection hab with hab1 hab2 _
          subst hab1 hab2
          rw [HK.out.pts k hkl] at x0
          have hib := HK.out.isb k hkl
          obtain ⟨t, hT⟩ : ∃ t, t = (L.getD k z0).2 := ⟨_, rfl⟩
          rw [← hT] at x1 x2 x3 x4 x5 hib
          have HT := Lib.hid hT
          have HIB := Lib.hid hib
          clear hT hib
          have y1 := HR1.out wo HBW.out
          have hy1l : w.heap.size + 1 < wo.heap.size := by omega
          have HMK := Lib.hid fun wx (hb : Below wo.heap.size wo wx) => HMO.out t HIB.out a4 c4 wx (HP.out.below (HBWW.out.trans (hb.mono HBWW.out.size))) (HCI.out.below (HB.out.trans (hb.mono hsr)))
          cases hi : invT P t n
          · have HF := Lib.hid (HCN.out (invB_no hkl (by rw [← HT.out]; exact hi)))
            rw [mocV_no hi] at HMK
            clear hi
            simp only [mv, mcells] at HMK
            go_wp2_with fail
            refine (HMK.out _ (by (repeat' (first | (with_reducible exact Below.refl _ _) | (with_reducible refine Below.alloc ?_ ?_ _) | (with_reducible refine Below.setCell ?_ ?_ _) | (with_reducible refine Below.drew ?_) | (with_reducible refine below_drewN ?_ _) | (with_reducible refine Below.trans ?_ (Below.mono (Hid.out (by assumption)) ?_)) | omega | (simp; done) | (simp; omega))))).mono ?_
            rintro e w5 ⟨rfl, hb⟩
            have hz5 := hb.size
            simp only [World.size_alloc] at hz5
            have HB5 : Hid (Below w.heap.size w w5) := Lib.hid ((HBWW.out.alloc HBWW.out.size _).trans (hb.mono (by simp; omega)))
            clear hb
            go_wp2_with fail
            go_ret2
            rw [HF.out.1, HF.out.2]
            exact ⟨none, 0, rfl, ⟨by simp, Or.inl rfl⟩, HB5.out.alloc (by omega) _⟩
          · have HNI : Hid (∀ i, i < k + 1 → invT P (L.getD i z0).2 n = true) := Lib.hid fun i h => by
              by_cases e : i = k
              · rw [e, ← HT.out]; exact hi
              · exact HI.out i (by omega)
            have HSU := Lib.hid (locM_succ P n hkl)
            rw [← HT.out, ← HM.out] at HSU
            have HLT : Hid ((locM (L.take k) P n).length = k) := Lib.hid (by rw [locM_len, List.length_take]; omega)
            rw [mocV_yes hi, ← HM.out] at HMK
            clear hi
            generalize qmF P t n = Q at *
            simp only [mv, mcells] at HMK
            go_wp2_with fail
            refine (HMK.out _ (by (repeat' (first | (with_reducible exact Below.refl _ _) | (with_reducible refine Below.alloc ?_ ?_ _) | (with_reducible refine Below.setCell ?_ ?_ _) | (with_reducible refine Below.drew ?_) | (with_reducible refine below_drewN ?_ _) | (with_reducible refine Below.trans ?_ (Below.mono (Hid.out (by assumption)) ?_)) | omega | (simp; done) | (simp; omega))))).mono ?_
            rintro e w5 ⟨rfl, hb⟩
            have hz5 := hb.size
            simp only [World.size_alloc] at hz5
            have HB5 : Hid (Below w2.heap.size w2 w5) := Lib.hid ((HB.out.alloc hsr _).trans (hb.mono (by simp; omega)))
            have HO5 : Hid (OwnM w5 w2.heap.size u8 (locM (L.take k) P n)) := Lib.hid ((Turn.of_below (S := fun _ => False) (((Below.refl _ _).alloc (Nat.le_refl _) _).trans (hb.mono (by simp)))).own HO.out (fun _ _ h => h))
            clear hb
            go_wp2_with (at_builtin; refine wpList_apM1 rfl _ _ rfl w2.heap.size _ (locM (L.take k) P n) rfl (World.ownsRow.alloc (World.ownsRow.alloc HO5.out _) _) (w5.heap.size + 1) 1 ((m : Int), Q) rfl (halloc_at _ _ _ (by simp)) (by rw [HLT.out]; omega) (by simp; omega) ?_; intro v6 w6 ho6 hg6)
            rw [← HSU.out] at ho6
            have HO6 := Lib.hid ho6
            have HB6 : Hid (Below w2.heap.size w2 w6) := Lib.hid (((HB5.out.alloc (by omega) _).alloc (by simp; omega) _).grown hg6 (by simp; omega) (fun r e => (HO5.out.lt r e).1))
            clear ho6 hg6
            go_roundw
            case rel => exact ⟨k + 1, by omega, by go_num, HO6.out, HNI.out, HB6.out⟩
            case measure => simp [intOf]; omega
        · obtain rfl : k = L.length := by omega
          have hkl' : ¬ ((L.length : Int) < (L.length : Int)) := by omega
          have HF := Lib.hid (HCO.out (invB_iff.2 HI.out))
          rw [List.take_length] at HO
          obtain ⟨a5, c5, rfl, hrd⟩ := ownM_rd HO.out (by rw [locM_len]; omega)
          have HRD := Lib.hid hrd
          clear hrd
          go_wp2_with fail
          go_ret2
          rw [HF.out.1, HF.out.2]
          exact ⟨a5, c5, rfl, HRD.out.mono (by omega), HBWW.out⟩
  · have e6 : ptC L P = chkC L [] := ptC_bad hC
    have e7 : locC L P = chkC L [] := by unfold locC; rw [if_neg (by rw [e6]; exact hC), e6]
    have e8 : locL L P = [] := by unfold locL; rw [if_neg (by rw [e7]; exact hC)]
    rw [e7, e8]
    have hne : (chkC L [] != 0) = true := by simpa using hC
    clear hr hr2 hC e6 e7 e8 hE
    generalize chkC L [] = C at *
    go_enter Tryd.func29, Tryd.ntmps29
    go_wp2_with fail
    rw [← HWZ.out]
    refine (HG.out _ HBZ.out).mono ?_
    rintro e w1 ⟨rfl, hb⟩
    have HB1 := Lib.hid hb
    clear hb
    go_wp2_with fail
    go_ret2
    exact ⟨none, 0, rfl, ⟨by simp, Or.inl rfl⟩, HBZ.out.trans (HB1.out.mono HBZ.out.size)⟩

end Go.Proofs.YtpphihjbgikjkaaDoor
