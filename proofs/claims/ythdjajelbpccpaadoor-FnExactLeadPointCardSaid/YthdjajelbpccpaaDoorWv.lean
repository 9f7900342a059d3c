/- Words of chapter 5: the contracts of spec.l05Word, spec.l05Code, spec.l05Map and spec.l05Set. -/
import Derived.Test.YthdjajelbpccpaaDoorMow
import Derived.Test.YthdjajelbpccpaaDoorGiven
import Derived.Test.YthdjajelbpccpaaDoorSetc
namespace Go.Proofs.YthdjajelbpccpaaDoor
open Go.RowKit

def w5B (L : List MapN) (W : List Int) : Bool := belB L.length W && decide (W.length ≤ 40)

/-- The code of a list and a word. -/
def w5C (L : List MapN) (W : List Int) : Int := if chkC L [] = 0 then (if w5B L W = true then 0 else 2) else chkC L []

def p5B (n : Int) (P : List Int) : Bool := P.all fun x => inB x 0 (n - 1)

/-- The code of a list, a word and points. -/
def c5C (L : List MapN) (W P : List Int) : Int := if w5C L W = 0 then (if p5B (fst0 L) P = true then 0 else 2) else w5C L W

theorem w5C_zero {L : List MapN} {W : List Int} (h : w5C L W = 0) : chkC L [] = 0 ∧ belB L.length W = true ∧ W.length ≤ 40 := by
  unfold w5C at h
  split at h
  · next h1 =>
    split at h
    · next h2 => unfold w5B at h2; simp at h2; exact ⟨h1, h2.1, h2.2⟩
    · omega
  · omega

theorem p5B_false {n : Int} {P : List Int} (k : Nat) (hk : k < P.length) (h : inB (P.getD k 0) 0 (n - 1) = false) : p5B n P = false := by
  unfold p5B; rw [List.all_eq_false]
  exact ⟨P.getD k 0, by simp [hk], by rw [h]; exact Bool.false_ne_true⟩

theorem p5B_true {n : Int} {P : List Int} (h : ∀ k, k < P.length → inB (P.getD k 0) 0 (n - 1) = true) : p5B n P = true := by
  unfold p5B; rw [List.all_eq_true]
  intro x hx
  obtain ⟨k, hk, e⟩ := List.mem_iff_getElem.1 hx
  have := h k hk
  simp [hk, e] at this
  exact this

set_option maxHeartbeats 1000000 in
theorem sword_any (L : List MapN) (hl1 : L.length ≤ 1048576) (W : List Int) (hl2 : W.length ≤ 1048576) (a1 : Option Addr) (c1 : Nat) (a2 : Option Addr) (c2 : Nat) (w : World) (hr2 : InRow w a2 W) :
    Calls Tryd.prog 45 #[.slice a1 L.length c1, .slice a2 W.length c2] w fun e w' => e = .returned (.bool (w5B L W)) ∧ w' = w := by
  have HN := Lib.hid hr2
  have hsub : IntKind.i64.wrap ((L.length : Int) - 1) = (L.length : Int) - 1 := IntWalk.i64_in _ (by omega)
  clear hr2
  go_enter Tryd.func45, Tryd.ntmps45
  go_wp2_with fail
  go_loopw [5] (fun i wr => ∃ k : Nat, k ≤ W.length ∧ i = .int .i64 k ∧ (∀ j, j < k → 0 ≤ W.getD j 0 ∧ W.getD j 0 < L.length) ∧ wr = w) (fun i _ => W.length - (intOf i).toNat)
  case atStart => exact ⟨0, by omega, rfl, by omega, rfl⟩
  case round =>
    obtain ⟨k, hk, rfl, hs, rfl⟩ := hrel
    have HS := Lib.hid hs
    clear hs
    by_cases hkl : k < W.length
    · obtain ⟨b, off, rfl, hlt, hin⟩ := HN.out.resolve_left (fun e => by rw [e] at hkl; simp at hkl)
      have hkl' : (k : Int) < (W.length : Int) := by omega
      have e1 := hin k hkl
      have HF : Hid (¬ (0 ≤ W.getD k 0 ∧ W.getD k 0 < L.length) → w5B L W = false) := Lib.hid fun h => by unfold w5B; rw [belB_false k hkl h]; rfl
      have HO : Hid (0 ≤ W.getD k 0 ∧ W.getD k 0 < L.length → ∀ j, j < k + 1 → 0 ≤ W.getD j 0 ∧ W.getD j 0 < L.length) := Lib.hid fun h j hj => by
        by_cases e : j = k
        · rw [e]; exact h
        · exact HS.out j (by omega)
      clear hin
      generalize W.getD k 0 = X at *
      cases hi : inB X 0 ((L.length : Int) - 1)
      · have HV := Lib.hid (HF.out (fun h => by rw [Bool.eq_false_iff] at hi; exact hi (inB_true.2 (by omega))))
        go_wp2_with (go_at_call 50; refine (in_any _ _ _ _).mono ?_; rintro e wr ⟨rfl, rfl⟩)
        go_ret
        exact ⟨ret_b HV.out.symm, by trivial⟩
      · have HV := Lib.hid (HO.out (by have := inB_true.1 hi; omega))
        go_wp2_with (go_at_call 50; refine (in_any _ _ _ _).mono ?_; rintro e wr ⟨rfl, rfl⟩)
        go_roundw
        case rel => exact ⟨k + 1, by omega, by go_num, HV.out, by trivial⟩
        case measure => simp [intOf]; omega
    · obtain rfl : k = W.length := by omega
      have HV : Hid (w5B L W = decide ((W.length : Int) ≤ 40)) := Lib.hid (by unfold w5B; rw [belB_true HS.out, Bool.true_and]; exact decide_eq_decide.2 (by omega))
      by_cases h40 : (W.length : Int) ≤ 40
      · have HV' := Lib.hid (HV.out.trans (decide_eq_true h40))
        go_wp2_with fail
        go_ret
        exact ⟨ret_b HV'.out.symm, by trivial⟩
      · have HV' := Lib.hid (HV.out.trans (decide_eq_false h40))
        go_wp2_with fail
        go_ret
        exact ⟨ret_b HV'.out.symm, by trivial⟩

set_option maxRecDepth 100000 in
set_option maxHeartbeats 2000000 in
theorem scode_any (L : List MapN) (hl1 : L.length ≤ 1048576) (W : List Int) (hl2 : W.length ≤ 1048576) (P : List Int) (hl3 : P.length ≤ 1048576) (a1 : Option Addr) (c1 : Nat) (a2 : Option Addr) (c2 : Nat) (a3 : Option Addr) (c3 : Nat) (w : World)
    (hr1 : InRowM w a1 L) (hr2 : InRow w a2 W) (hr3 : InRow w a3 P) :
    Calls Tryd.prog 29 #[.slice a1 L.length c1, .slice a2 W.length c2, .slice a3 P.length c3] w fun e w' => e = .returned (.int .i64 (c5C L W P)) ∧ Below w.heap.size w w' := by
  have HR1 := Lib.hid hr1
  have HR2 := Lib.hid hr2
  have HR3 := Lib.hid hr3
  have HCK := fun wx (hb : Below w.heap.size w wx) => given_any a1 none c1 0 L [] hl1 (by simp) wx (HR1.out.below hb) (Or.inl rfl)
  have HW := fun wx (hb : Below w.heap.size w wx) => sword_any L hl1 W hl2 a1 c1 a2 c2 wx (HR2.out.below hb)
  clear hr1 hr2 hr3
  by_cases hC : chkC L [] = 0
  · obtain ⟨hgood, hs1, hs6⟩ := good_of hC
    obtain ⟨hp1, hp5, hgk⟩ := hgood
    rw [hC] at HCK
    have HCK := Lib.hid HCK
    cases hB : w5B L W
    · have hV : c5C L W P = 2 := by unfold c5C w5C; rw [if_pos hC, hB]; rfl
      rw [hV]
      rw [hB] at HW
      have HW := Lib.hid HW
      clear hC hB hgk hV
      go_enter Tryd.func29, Tryd.ntmps29
      go_wp2_with fail
      refine (HCK.out _ (by (repeat' (first | (with_reducible exact Below.refl _ _) | (with_reducible refine Below.alloc ?_ ?_ _) | (with_reducible refine Below.setCell ?_ ?_ _) | (with_reducible refine Below.drew ?_) | (with_reducible refine below_drewN ?_ _) | (with_reducible refine Below.trans ?_ (Below.mono (Hid.out (by assumption)) ?_)) | omega | (simp; done) | (simp; omega))))).mono ?_
      rintro e w1 ⟨rfl, hb⟩
      have HB := Lib.hid hb
      clear hb
      go_wp2_with fail
      refine (HW.out _ (by (repeat' (first | (with_reducible exact Below.refl _ _) | (with_reducible refine Below.alloc ?_ ?_ _) | (with_reducible refine Below.setCell ?_ ?_ _) | (with_reducible refine Below.drew ?_) | (with_reducible refine below_drewN ?_ _) | (with_reducible refine Below.trans ?_ (Below.mono (Hid.out (by assumption)) ?_)) | omega | (simp; done) | (simp; omega))))).mono ?_
      rintro e w2 ⟨rfl, rfl⟩
      go_wp2_with fail
      go_ret
      exact ⟨rfl, HB.out⟩
    · have hV : c5C L W P = if p5B (fst0 L) P = true then 0 else 2 := by unfold c5C w5C; rw [if_pos hC, hB]; rfl
      rw [hV]
      obtain ⟨V, hVV⟩ : ∃ V : Int, (if p5B (fst0 L) P = true then 0 else 2) = V := ⟨_, rfl⟩
      rw [hVV]
      have HVV := Lib.hid hVV
      rw [hB] at HW
      have HW := Lib.hid HW
      have hpos : 0 < L.length := by omega
      clear hVV
      have hf0 : (L.getD 0 z0).1 = fst0 L := rfl
      have HF0 := Lib.hid hf0
      have hsub : IntKind.i64.wrap (fst0 L - 1) = fst0 L - 1 := IntWalk.i64_in _ (by omega)
      clear hC hB hgk hV hf0
      go_enter Tryd.func29, Tryd.ntmps29
      go_wp2_with fail
      refine (HCK.out _ (by (repeat' (first | (with_reducible exact Below.refl _ _) | (with_reducible refine Below.alloc ?_ ?_ _) | (with_reducible refine Below.setCell ?_ ?_ _) | (with_reducible refine Below.drew ?_) | (with_reducible refine below_drewN ?_ _) | (with_reducible refine Below.trans ?_ (Below.mono (Hid.out (by assumption)) ?_)) | omega | (simp; done) | (simp; omega))))).mono ?_
      rintro e w1 ⟨rfl, hb⟩
      have HB := Lib.hid hb
      clear hb
      go_wp2_with fail
      refine (HW.out _ (by (repeat' (first | (with_reducible exact Below.refl _ _) | (with_reducible refine Below.alloc ?_ ?_ _) | (with_reducible refine Below.setCell ?_ ?_ _) | (with_reducible refine Below.drew ?_) | (with_reducible refine below_drewN ?_ _) | (with_reducible refine Below.trans ?_ (Below.mono (Hid.out (by assumption)) ?_)) | omega | (simp; done) | (simp; omega))))).mono ?_
      rintro e w2 ⟨rfl, rfl⟩
      go_wp2_with fail
      go_loopw [8] (fun i wr => ∃ k : Nat, k ≤ P.length ∧ i = .int .i64 k ∧ (∀ j, j < k → inB (P.getD j 0) 0 (fst0 L - 1) = true) ∧ Below w.heap.size w wr) (fun i _ => P.length - (intOf i).toNat)
      case atStart => exact ⟨0, by omega, rfl, by omega, HB.out⟩
      case round =>
        obtain ⟨k, hk, rfl, hs, hb⟩ := hrel
        have HS := Lib.hid hs
        have HBr := Lib.hid hb
        clear hs hb
        by_cases hkl : k < P.length
        · have hpos3 : 0 < P.length := by omega
          obtain ⟨b3, off3, rfl, hlt3, hin⟩ := (HR3.out.below HBr.out).resolve_left (fun e => by rw [e] at hpos3; simp at hpos3)
          have hkl' : (k : Int) < (P.length : Int) := by omega
          have e1 := hin k hkl
          obtain ⟨b, off, rfl, hbl, hat0⟩ := (HR1.out.below HBr.out).at0 hpos
          obtain ⟨y0, y1, y2, y3, y4, y5⟩ := hat0
          rw [HF0.out] at y0
          have HF := Lib.hid (p5B_false (n := fst0 L) k hkl)
          have HO : Hid (inB (P.getD k 0) 0 (fst0 L - 1) = true → ∀ j, j < k + 1 → inB (P.getD j 0) 0 (fst0 L - 1) = true) := Lib.hid fun h j hj => by
            by_cases e : j = k
            · rw [e]; exact h
            · exact HS.out j (by omega)
          clear hin y1 y2 y3 y4 y5
          generalize P.getD k 0 = X at *
          cases hi : inB X 0 (fst0 L - 1)
          · have HV : Hid (V = 2) := Lib.hid (by rw [← HVV.out, HF.out hi]; rfl)
            go_wp2_with fail
            go_quiet ((go_at_call 50; exact Calls.quiet_of_same (in_any _ _ _ _)))
            go_wp2_with fail
            go_ret
            exact ⟨ret_i HV.out.symm, below_drewN HBr.out _⟩
          · have HV := Lib.hid (HO.out hi)
            go_wp2_with fail
            go_quiet ((go_at_call 50; exact Calls.quiet_of_same (in_any _ _ _ _)))
            go_wp2_with fail
            go_roundw
            case rel => exact ⟨k + 1, by omega, by go_num, HV.out, below_drewN HBr.out _⟩
            case measure => simp [intOf]; omega
        · obtain rfl : k = P.length := by omega
          have HV : Hid (V = 0) := Lib.hid (by rw [← HVV.out, p5B_true HS.out]; rfl)
          go_wp2_with fail
          go_ret
          exact ⟨ret_i HV.out.symm, HBr.out⟩
  · have hV : c5C L W P = chkC L [] := by unfold c5C w5C; rw [if_neg hC, if_neg hC]
    rw [hV]
    have hne : (chkC L [] != 0) = true := by simpa using hC
    have HCK := Lib.hid HCK
    clear HW hV hC
    generalize chkC L [] = C at *
    go_enter Tryd.func29, Tryd.ntmps29
    go_wp2_with fail
    refine (HCK.out _ (by (repeat' (first | (with_reducible exact Below.refl _ _) | (with_reducible refine Below.alloc ?_ ?_ _) | (with_reducible refine Below.setCell ?_ ?_ _) | (with_reducible refine Below.drew ?_) | (with_reducible refine below_drewN ?_ _) | (with_reducible refine Below.trans ?_ (Below.mono (Hid.out (by assumption)) ?_)) | omega | (simp; done) | (simp; omega))))).mono ?_
    rintro e w1 ⟨rfl, hb⟩
    have HB := Lib.hid hb
    clear hb
    go_wp2_with fail
    go_ret
    exact ⟨rfl, HB.out⟩

set_option maxRecDepth 100000 in
set_option maxHeartbeats 2000000 in
theorem smap5_any (L : List MapN) (hl1 : L.length ≤ 1048576) (W : List Int) (hl2 : W.length ≤ 1048576) (hC : w5C L W = 0) (a1 : Option Addr) (c1 : Nat) (a2 : Option Addr) (c2 : Nat) (w : World) (hr1 : InRowM w a1 L) (hr2 : InRow w a2 W) :
    Calls Tryd.prog 34 #[.slice a1 L.length c1, .slice a2 W.length c2] w fun e w' => e = .returned (mv (fst0 L) (wrdK L W W.length)) ∧ Below w.heap.size w w' := by
  have HR1 := Lib.hid hr1
  have HR2 := Lib.hid hr2
  obtain ⟨hck, hbel, hw40⟩ := w5C_zero hC
  obtain ⟨hgood, hs1, hs6⟩ := good_of hck
  obtain ⟨hp1, hp5, hgk⟩ := hgood
  have HGK := Lib.hid hgk
  have HWK := Lib.hid fun k h => wrdK_ok (L := L) (W := W) ⟨hp1, hp5, hgk⟩ k h
  have HBW := Lib.hid fun k hk => belB_at hbel k hk
  have hpos : 0 < L.length := by omega
  have hf0 : (L.getD 0 z0).1 = fst0 L := rfl
  have HF0 := Lib.hid hf0
  have HSTEP : Hid (∀ k, wrdK L W (k + 1) = mul (fst0 L) (wrdK L W k) (L.getD (W.getD k 0).toNat z0).2) := Lib.hid fun k => rfl
  have HID := Lib.hid fun w => sid_any (fst0 L) hp1 hp5 w
  clear hf0 hC hgk hck hbel hr1 hr2
  simp only [mv, mcells] at HID ⊢
  go_enter Tryd.func34, Tryd.ntmps34
  obtain ⟨b, off, rfl, hbl, hat0⟩ := HR1.out.at0 hpos
  obtain ⟨y0, y1, y2, y3, y4, y5⟩ := hat0
  rw [HF0.out] at y0
  go_wp2_with fail
  refine (HID.out _).mono ?_
  rintro e w2 ⟨rfl, hb⟩
  have hz2 := hb.size
  have HB2 : Hid (Below w.heap.size w w2) := Lib.hid (((Below.refl _ _).alloc (Nat.le_refl _) _).trans (hb.mono (by simp)))
  have HZ2 : Hid (w2.heap[w.heap.size]? = some (.cells (mcells 0 fun _ => 0) 54 (0, 0))) := Lib.hid ((hb.block _ (by simp)).trans (halloc_at w _ _ rfl))
  simp at hz2
  clear hb y0 y1 y2 y3 y4 y5
  go_wp2_with fail
  go_loopw [6] (fun i wr => ∃ k : Nat, k ≤ W.length ∧ i = .int .i64 k ∧ Below w.heap.size w wr ∧ w2.heap.size < wr.heap.size ∧
    wr.heap[w.heap.size]? = some (.cells (mcells 0 fun _ => 0) 54 (0, 0)) ∧ wr.heap[w2.heap.size]? = some (.cells (mcells (fst0 L) (wrdK L W k)) 54 (0, 0))) (fun i _ => W.length - (intOf i).toNat)
  case atStart =>
    refine ⟨0, by omega, rfl, ?_, by simp, ?_, ?_⟩
    · exact HB2.out.alloc (by omega) _
    · exact (halloc_lt _ _ _ (by omega)).trans HZ2.out
    · exact halloc_at _ _ _ rfl
  case round =>
    obtain ⟨k, hk, rfl, hb, hsz, b0, b1⟩ := hrel
    have HB := Lib.hid hb
    have B0 := Lib.hid b0
    have B1 := Lib.hid b1
    clear hb b0 b1
    by_cases hkm : k < W.length
    · have hkm' : (k : Int) < (W.length : Int) := by omega
      have hpos2 : 0 < W.length := by omega
      obtain ⟨b2, off2, rfl, hbl2, hin⟩ := (HR2.out.below HB.out).resolve_left (fun e => by rw [e] at hpos2; simp at hpos2)
      have e1 := hin k hkm
      obtain ⟨f0, f1⟩ := HBW.out k hkm
      have f1' : (W.getD k 0).toNat < L.length := by omega
      obtain ⟨b', off', e, hbl', hat⟩ := (HR1.out.below HB.out).at6 (W.getD k 0).toNat f1'
      cases e
      obtain ⟨x0, x1, x2, x3, x4, x5⟩ := hat
      obtain ⟨y0, y1, y2, y3, y4, y5⟩ := blk6 B1.out
      have hfr := blk_free B1.out
      have HG := HGK.out _ f1'
      rw [HG.1] at x0
      have HP := Lib.hid fun w => times_any (fst0 L) (wrdK L W k) (L.getD (W.getD k 0).toNat z0).2 (HWK.out k (fun j hj => HBW.out j (by omega))) HG.2 w
      have HST := Lib.hid (HSTEP.out k)
      clear hin HG
      generalize (L.getD (W.getD k 0).toNat z0).2 = T at *
      generalize W.getD k 0 = X at *
      simp only [mv, mcells] at HP
      go_wp2_with fail
      go_still_tail 8, (by kernel_rfl)
      go_wp2_with fail
      refine (HP.out _).mono ?_
      rintro e w3 ⟨rfl, hb3⟩
      have hbd : Below wr.heap.size wr w3 := ⟨hb3.os, hb3.tape, hb3.output, hb3.size, fun x hx => hb3.block x hx⟩
      have HB3 := Lib.hid hbd
      have hz3 := hbd.size
      have B1' := (hbd.block w2.heap.size hsz).trans B1.out
      obtain ⟨u0, u1, u2, u3, u4, u5⟩ := blk6 B1'
      have hfr3 := blk_free B1'
      have HB1' := Lib.hid B1'
      clear hb3 hbd B1'
      simp only []
      go_wp2_with fail
      go_roundw
      case rel =>
        refine ⟨k + 1, by omega, by go_num, ?_, by simp; omega, ?_, ?_⟩
        · exact ((((((HB.out.trans (HB3.out.mono HB.out.size)).setCell (by simp; omega) _).setCell (by simp; omega) _).setCell (by simp; omega) _).setCell (by simp; omega) _).setCell (by simp; omega) _).setCell (by simp; omega) _
        · exact (chain_ne _ _ _ _ _ _ _ _ _ (by omega)).trans ((HB3.out.block _ (by omega)).trans B0.out)
        · rw [HST.out]; exact chainM HB1'.out
      case measure => simp [intOf]; omega
    · obtain rfl : k = W.length := by omega
      obtain ⟨y0, y1, y2, y3, y4, y5⟩ := blk6 B1.out
      obtain ⟨r0, r1, r2, r3, r4, r5⟩ := blk6 B0.out
      have hfr := blk_free B0.out
      go_wp2_with fail
      refine bodyPost_ret (v := mv (fst0 L) (wrdK L W W.length)) (by simp [results, Tryd.results34, go_sem, r0, r1, r2, r3, r4, r5]) rfl ⟨rfl, ?_⟩
      exact (((((HB.out.setCell (Nat.le_refl _) _).setCell (Nat.le_refl _) _).setCell (Nat.le_refl _) _).setCell (Nat.le_refl _) _).setCell (Nat.le_refl _) _).setCell (Nat.le_refl _) _

end Go.Proofs.YthdjajelbpccpaaDoor
