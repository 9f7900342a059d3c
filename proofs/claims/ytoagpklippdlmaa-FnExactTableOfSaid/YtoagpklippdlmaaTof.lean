/- The contracts of TableOf, on both sides. -/
import Derived.Test.YtoagpklippdlmaaTab
namespace Go.Proofs.Ytoagpklippdlmaa
open Go Go.RowKit

/-- The table of a list; nothing with an error. -/
noncomputable def tofL (L : List MapN) : List (List Int) := if tC 40 L = 0 then tbL (muI (fst0 L) (elsK L)) (elsK L).length (elsK L).length else []

theorem tofL_0 {L : List MapN} (h : tC 40 L = 0) : tofL L = tbL (muI (fst0 L) (elsK L)) (elsK L).length (elsK L).length := by unfold tofL; rw [if_pos h]
theorem tofL_no {L : List MapN} (h : tC 40 L ≠ 0) : tofL L = [] := by unfold tofL; rw [if_neg h]

theorem tof_ret {L : List MapN} {w w' : World} {e : Ending} (h : RetTabT 40 L w e w') : RetT w.heap.size (tofL L) (tC 40 L) w e w' := by
  obtain ⟨hb, ⟨h1, rfl⟩ | ⟨h1, _, h3, a, cap, rfl, h5⟩⟩ := h
  · rw [tofL_no h1]
    exact retT_nil hb _
  · rw [tofL_0 h1, h1]
    exact retT_of (tbL_len _ _ _) h5 (Nat.le_refl _) (mkF_tb300 _ (by omega)) hb

set_option maxRecDepth 100000 in
set_option maxHeartbeats 2000000 in
theorem iTof_any (L : List MapN) (hl : L.length ≤ 1048576) (a : Option Addr) (c : Nat) (hc0 : a = none → c = 0) (w : World) (hr : InRowM w a L) :
    Calls Try.prog 41 #[.slice a L.length c] w (RetT w.heap.size (tofL L) (tC 40 L) w) := by
  have HG := Lib.hid ((itaT_any 40 (by omega) a c hc0 L hl w hr).mono fun _ _ h => tof_ret h)
  clear hr hc0
  generalize tofL L = R at *
  generalize tC 40 L = C at *
  go_enter Try.func41, Try.ntmps41
  go_wp2_with fail
  refine HG.out.mono ?_
  rintro e w1 ⟨a1, c1, rfl, hrd, hm, hb⟩
  have HR := Lib.hid hrd
  have HB := Lib.hid hb
  have HM := Lib.hid hm
  clear hrd hb hm
  go_wp2_with fail
  go_ret2
  exact ⟨a1, c1, rfl, HR.out, HM.out, HB.out⟩

set_option maxRecDepth 100000 in
set_option maxHeartbeats 2000000 in
theorem sTof_any (L : List MapN) (hl : L.length ≤ 1048576) (a : Option Addr) (c : Nat) (_ : a = none → c = 0) (w : World) (hr : InRowM w a L) :
    Calls Try.prog 40 #[.slice a L.length c] w (RetT w.heap.size (tofL L) (tC 40 L) w) := by
  have HS := Lib.hid (sels_any a none c 0 L [] hl (by simp) w hr (Or.inl rfl))
  clear hr
  by_cases hc : elsC L [] = 0
  · have hmon := mon_els hc
    have hll : elsL L [] = mE (fst0 L) (elsK L) := by unfold elsL; rw [if_pos hc]
    have hHS := HS.out
    rw [hll, hc] at hHS
    have HS := Lib.hid hHS
    have hm3 := hmon.le
    have hml := mE_len (fst0 L) (elsK L)
    clear hHS hll
    by_cases h2 : 40 < (elsK L).length
    · have e3 := tC_big hc h2
      rw [tofL_no (by rw [e3]; decide), e3]
      have h2' : (40 : Int) < ((elsK L).length : Int) := by omega
      clear hmon hc e3
      generalize elsK L = K at *
      generalize hp : fst0 L = p at *
      clear hp
      go_enter Try.func40, Try.ntmps40
      go_wp2_with fail
      refine HS.out.mono ?_
      rintro e w1 ⟨a1, c1, rfl, hrd, hb⟩
      have HB := Lib.hid hb
      clear hrd hb
      rw [hml]
      go_wp2_with fail
      go_ret2
      exact retT_nil HB.out 3
    · have e0 := tC_0 hc h2
      rw [tofL_0 e0, e0]
      have h2' : ¬ (40 : Int) < ((elsK L).length : Int) := by omega
      have HT := Lib.hid fun a cap w h => stable_any hmon a cap w h
      have HLN := Lib.hid (tbL_len (muI (fst0 L) (elsK L)) (elsK L).length (elsK L).length)
      have HMK := Lib.hid (mkF_tb300 (muI (fst0 L) (elsK L)) (n := (elsK L).length) (by omega))
      clear hmon hc e0
      generalize tbL (muI (fst0 L) (elsK L)) (elsK L).length (elsK L).length = TT at *
      generalize elsK L = K at *
      generalize fst0 L = p at *
      go_enter Try.func40, Try.ntmps40
      go_wp2_with fail
      refine HS.out.mono ?_
      rintro e w1 ⟨a1, c1, rfl, hrd, hb⟩
      have HB := Lib.hid hb
      have HR := Lib.hid hrd.inRow
      have hsz := hb.size
      clear hrd hb
      rw [hml]
      go_wp2_with fail
      refine (HT.out _ _ _ HR.out).mono ?_
      rintro e w2 ⟨a2, c2, rfl, hrd, hb⟩
      have HB2 : Hid (Below w.heap.size w w2) := Lib.hid (HB.out.trans (hb.mono hsz))
      have HRD := Lib.hid hrd
      clear hrd hb
      go_wp2_with fail
      go_ret2
      exact retT_of HLN.out HRD.out hsz HMK.out HB2.out
  · have e1 := tC_bad (most := 40) hc
    rw [tofL_no (by rw [e1]; exact hc), e1]
    have hne : (elsC L [] != 0) = true := by simpa using hc
    have hne0 : (elsC L [] == 0) = false := by simpa using hc
    have hll : elsL L [] = [] := by unfold elsL; rw [if_neg hc]
    have hHS := HS.out
    rw [hll] at hHS
    have HS := Lib.hid hHS
    clear hHS hll e1 hc
    generalize hce : elsC L [] = C at *
    clear hce
    go_enter Try.func40, Try.ntmps40
    go_wp2_with fail
    refine HS.out.mono ?_
    rintro e w1 ⟨a1, c1, rfl, hrd, hb⟩
    have HB := Lib.hid hb
    clear hrd hb
    go_wp2_with fail
    go_ret2
    exact retT_nil HB.out C

end Go.Proofs.Ytoagpklippdlmaa
