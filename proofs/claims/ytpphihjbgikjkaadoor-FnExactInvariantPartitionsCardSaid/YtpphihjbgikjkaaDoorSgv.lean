/- The contracts of spec.l06Is, spec.l10Partition, spec.l10Given, spec.l06Number and spec.l10Invariant. -/
import Derived.Test.YtpphihjbgikjkaaDoorIvp
import Derived.Test.YtpphihjbgikjkaaDoorGiven
import Derived.Deep.DeepCutAuto
namespace Go.Proofs.YtpphihjbgikjkaaDoor
open Go Go.RowKit

set_option maxRecDepth 100000 in
set_option maxHeartbeats 2000000 in
theorem sis10_any (P : List Int) (m : Nat) (hm : m ≤ 5) (a : Option Addr) (c : Nat) (w : World) (hr : InRow w a P) :
    Calls Tryd.prog 70 #[.slice a P.length c, .int .i64 (m : Int)] w fun e w' => e = .returned (.bool (parB P m)) ∧ w' = w := by
  have HR := Lib.hid hr
  clear hr
  by_cases hl : P.length = m
  · obtain ⟨B, hB⟩ : ∃ B, B = parB P m := ⟨_, rfl⟩
    have HB := Lib.hid hB
    rw [← hB]
    have hq : ((P.length : Int) != (m : Int)) = false := by simp [hl]
    have HL := Lib.hid hl
    obtain ⟨l, hll⟩ : ∃ l, l = P.length := ⟨_, rfl⟩
    have HLL := Lib.hid hll
    rw [← hll] at hq ⊢
    clear hB hl hll
    go_enter Tryd.func70, Tryd.ntmps70
    go_wp2_with fail
    go_loopw [5, 6] (fun nx i wr => ∃ k : Nat, k ≤ m ∧ i = .int .i64 (k : Int) ∧ nx = .int .i64 (nxK P k : Int) ∧ wr = w ∧ ∀ j, j < k → okP P j = true) (fun _ i _ => m - (intOf i).toNat)
    case atStart => exact ⟨0, by omega, rfl, rfl, rfl, fun j hj => by omega⟩
    case round =>
      obtain ⟨k, hk, rfl, rfl, rfl, hal⟩ := hrel
      have HAL := Lib.hid hal
      clear hal
      by_cases hkm : k < m
      · have hkm' : (k : Int) < (m : Int) := by omega
        obtain ⟨b, off, rfl, hlt, hin⟩ := HR.out.resolve_left (fun e => by have h3 := HL.out; rw [e] at h3; simp at h3; omega)
        have e1 := hin k (by rw [HL.out]; exact hkm)
        have hnk := nxK_le P k
        have hkl : (k : Int) < (l : Int) := by have := HL.out; have := HLL.out; omega
        have HIN := fun w => in_any (P.getD k 0) 0 (nxK P k : Int) w
        rw [show inB (P.getD k 0) 0 (nxK P k : Int) = okP P k from rfl] at HIN
        have HNN := Lib.hid (nxK_new (P := P) (k := k))
        have HNO := Lib.hid (nxK_old (P := P) (k := k))
        clear hin
        cases hi : okP P k
        · have HF : Hid (B = false) := Lib.hid (by rw [HB.out]; exact parB_no hkm hi)
          rw [hi] at HIN
          have HIN := Lib.hid HIN
          clear hi HNN HNO
          generalize P.getD k 0 = X at *
          generalize nxK P k = NK at *
          go_wp2_with (go_at_call 63; refine (HIN.out _).mono ?_; rintro e w ⟨rfl, rfl⟩)
          go_ret
          exact ⟨by rw [HF.out]; rfl, rfl⟩
        · have HV : Hid (∀ j, j < k + 1 → okP P j = true) := Lib.hid fun j hj => by
            by_cases e : j = k
            · rw [e]; exact hi
            · exact HAL.out j (by omega)
          rw [hi] at HIN
          have HIN := Lib.hid HIN
          clear hi
          generalize P.getD k 0 = X at *
          by_cases hx : X = (nxK P k : Int)
          · have HN2 := Lib.hid (HNN.out hx)
            clear HNN HNO
            rw [hx] at e1 HIN
            clear hx
            generalize nxK P k = NK at *
            go_wp2_with (go_at_call 63; refine (HIN.out _).mono ?_; rintro e w ⟨rfl, rfl⟩)
            go_roundw
            case rel => exact ⟨k + 1, by omega, by go_num, by rw [HN2.out]; go_num, by trivial, HV.out⟩
            case measure => simp [intOf]; omega
          · have HN2 := Lib.hid (HNO.out hx)
            have hxn : (X == (nxK P k : Int)) = false := by simpa using hx
            clear HNN HNO hx
            generalize hN2 : nxK P (k + 1) = N2 at *
            generalize nxK P k = NK at *
            go_wp2_with (go_at_call 63; refine (HIN.out _).mono ?_; rintro e w ⟨rfl, rfl⟩)
            go_roundw
            case rel => exact ⟨k + 1, by omega, by go_num, by rw [hN2, HN2.out], by trivial, HV.out⟩
            case measure => simp [intOf]; omega
      · obtain rfl : k = m := by omega
        have hkm' : ¬ ((k : Int) < (k : Int)) := by omega
        have HT : Hid (B = true) := Lib.hid (by rw [HB.out]; exact parB_iff.2 ⟨HL.out, HAL.out⟩)
        generalize nxK P k = NK at *
        go_wp2_with fail
        go_ret
        exact ⟨by rw [HT.out]; rfl, rfl⟩
  · rw [parB_len hl]
    have hq : ((P.length : Int) != (m : Int)) = true := by simp; omega
    clear hl
    go_enter Tryd.func70, Tryd.ntmps70
    go_wp2_with fail
    go_ret
    exact ⟨rfl, rfl⟩

theorem spt10_any (P : List Int) (m : Nat) (hm : m ≤ 5) (a : Option Addr) (c : Nat) (w : World) (hr : InRow w a P) :
    Calls Tryd.prog 59 #[.slice a P.length c, .int .i64 (m : Int)] w fun e w' => e = .returned (.bool (parB P m)) ∧ w' = w := by
  have HI := Lib.hid (sis10_any P m hm a c w hr)
  clear hr
  go_enter Tryd.func59, Tryd.ntmps59
  go_wp2_with fail
  refine HI.out.mono ?_
  rintro e w ⟨rfl, rfl⟩
  go_wp2_with fail
  go_ret
  exact ⟨rfl, rfl⟩

/-- The code of a list and numbers that are to be a partition. -/
def ptC (L : List MapN) (P : List Int) : Int := if chkC L [] = 0 then (if parB P (fst0 L).toNat = true then 0 else 2) else chkC L []
theorem ptC_good {L : List MapN} {P : List Int} {n : Nat} (h : chkC L [] = 0) (hn : fst0 L = (n : Int)) (hb : parB P n = true) : ptC L P = 0 := by unfold ptC; rw [if_pos h, hn, Int.toNat_natCast, if_pos hb]
theorem ptC_out {L : List MapN} {P : List Int} {n : Nat} (h : chkC L [] = 0) (hn : fst0 L = (n : Int)) (hb : parB P n = false) : ptC L P = 2 := by unfold ptC; rw [if_pos h, hn, Int.toNat_natCast, if_neg (by rw [hb]; exact Bool.false_ne_true)]
theorem ptC_bad {L : List MapN} {P : List Int} (h : chkC L [] ≠ 0) : ptC L P = chkC L [] := by unfold ptC; rw [if_neg h]

set_option maxRecDepth 100000 in
set_option maxHeartbeats 4000000 in
theorem sgv10_any (L : List MapN) (hl1 : L.length ≤ 1048576) (P : List Int) (a : Option Addr) (cap : Nat) (a2 : Option Addr) (c2 : Nat) (w : World) (hr : InRowM w a L) (hr2 : InRow w a2 P) :
    Calls Tryd.prog 42 #[.slice a L.length cap, .slice a2 P.length c2] w fun e w' => e = .returned (.int .i64 (ptC L P)) ∧ Below w.heap.size w w' := by
  have HG := Lib.hid (given_any a none cap 0 L [] hl1 (by simp) w hr (Or.inl rfl))
  by_cases hC : chkC L [] = 0
  · obtain ⟨n, hok, hn⟩ := LOk.of hC
    have hn5 := hok.n5
    have hl : 0 < L.length := by have := hok.len1; omega
    have hl' : (0 : Int) < (L.length : Int) := by omega
    obtain ⟨b, off, rfl, hbl, hat⟩ := hr.at0 hl
    have h0 := hat.1
    rw [hok.pts 0 hl] at h0
    have HPT := fun wx (hb : Below w.heap.size w wx) => spt10_any P n hn5 a2 c2 wx (hr2.below hb)
    rw [hC] at HG
    cases hb : parB P n
    · rw [ptC_out hC hn hb]
      rw [hb] at HPT
      have HPT := Lib.hid HPT
      clear hC hat hok hn hr hr2 hb
      go_enter Tryd.func42, Tryd.ntmps42
      go_wp2_with fail
      refine HG.out.mono ?_
      rintro e w1 ⟨rfl, hb⟩
      have HB := Lib.hid hb
      have hx := (hb.cell (p := ⟨b, off, none⟩) hbl).trans h0
      clear hb h0
      go_wp2_with fail
      refine (HPT.out _ HB.out).mono ?_
      rintro e w1 ⟨rfl, rfl⟩
      go_wp2_with fail
      go_ret
      exact ⟨rfl, HB.out⟩
    · rw [ptC_good hC hn hb]
      rw [hb] at HPT
      have HPT := Lib.hid HPT
      clear hC hat hok hn hr hr2 hb
      go_enter Tryd.func42, Tryd.ntmps42
      go_wp2_with fail
      refine HG.out.mono ?_
      rintro e w1 ⟨rfl, hb⟩
      have HB := Lib.hid hb
      have hx := (hb.cell (p := ⟨b, off, none⟩) hbl).trans h0
      clear hb h0
      go_wp2_with fail
      refine (HPT.out _ HB.out).mono ?_
      rintro e w1 ⟨rfl, rfl⟩
      go_wp2_with fail
      go_ret
      exact ⟨rfl, HB.out⟩
  · rw [ptC_bad hC]
    have hne : (chkC L [] == 0) = false := by simpa using hC
    clear hr hr2 hC
    generalize chkC L [] = C at *
    go_enter Tryd.func42, Tryd.ntmps42
    go_wp2_with fail
    refine HG.out.mono ?_
    rintro e w1 ⟨rfl, hb⟩
    have HB := Lib.hid hb
    clear hb
    go_wp2_with fail
    go_ret
    exact ⟨rfl, HB.out⟩

end Go.Proofs.YtpphihjbgikjkaaDoor
