/- The contracts of IsMonoidTable and IdentityOf on both sides. -/
import Derived.Test.YtgiefgbpcjoieaaTbm
namespace Go.Proofs.Ytgiefgbpcjoieaa
open Go.RowKit

def imtV (LL : List (List Int)) : Value := .tuple #[.bool (tblB LL && monB LL.length (mp LL)), .int .i64 (if tblB LL = true then 0 else 2)]
theorem imtV_bad {LL : List (List Int)} (h : tblB LL = false) : imtV LL = .tuple #[.bool false, .int .i64 2] := by unfold imtV; rw [h]; rfl
theorem imtV_good {LL : List (List Int)} (h : tblB LL = true) : imtV LL = .tuple #[.bool (monB LL.length (mp LL)), .int .i64 0] := by unfold imtV; rw [h]; rfl
def idnI (LL : List (List Int)) : Int := if tblB LL = true then (match idF LL.length (mp LL) with | some e => (e : Int) | none => 0) else 0
def idnC (LL : List (List Int)) : Int := if tblB LL = true then (match idF LL.length (mp LL) with | some _ => 0 | none => 4) else 2
def idnT (LL : List (List Int)) : Value := .tuple #[.int .i64 (idnI LL), .int .i64 (idnC LL)]
theorem idnT_bad {LL : List (List Int)} (h : tblB LL = false) : idnT LL = .tuple #[.int .i64 0, .int .i64 2] := by unfold idnT idnI idnC; rw [h]; rfl
theorem idnT_none {LL : List (List Int)} (h : tblB LL = true) (hf : idF LL.length (mp LL) = none) : idnT LL = .tuple #[.int .i64 0, .int .i64 4] := by unfold idnT idnI idnC; rw [h, hf]; rfl
theorem idnT_some {LL : List (List Int)} (h : tblB LL = true) {e : Nat} (hf : idF LL.length (mp LL) = some e) : idnT LL = .tuple #[.int .i64 (e : Nat), .int .i64 0] := by unfold idnT idnI idnC; rw [h, hf]; rfl
theorem idnT_idR {LL : List (List Int)} (h : tblB LL = true) : idR LL.length (mp LL) = idnT LL := by
  cases hf : idF LL.length (mp LL) with
  | none => rw [idR_none hf, idnT_none h hf]
  | some e => rw [idR_some hf, idnT_some h hf]

set_option maxRecDepth 100000 in
set_option maxHeartbeats 2000000 in
theorem sImt_any (LL : List (List Int)) (hn : LL.length ≤ 1048576) (hl : ∀ j, j < LL.length → (LL.getD j []).length ≤ 1048576) (a : Option Addr) (c : Nat) (w : World) (h : InRowL w a LL) :
    Calls Try.prog 32 #[.slice a LL.length c] w fun e w' => e = .returned (imtV LL) ∧ Below w.heap.size w w' := by
  have HIS := Lib.hid fun w h => sis8_any LL hn hl a c w h
  cases hT : tblB LL
  · have HV := Lib.hid (imtV_bad hT)
    have HISW := HIS.out w h
    rw [hT] at HISW
    have HISW := Lib.hid HISW
    clear hT HIS h hl
    go_enter Try.func32, Try.ntmps32
    go_wp2_with fail
    refine HISW.out.mono ?_
    rintro e w1 ⟨rfl, hb⟩
    have HB := Lib.hid hb
    clear hb
    go_wp2_with fail
    go_ret2
    exact ⟨congrArg Ending.returned HV.out.symm, HB.out⟩
  · have hTB := h.tbl hT
    have HN := tblB_n hT
    have HISW := HIS.out w h
    rw [hT] at HISW
    have HISW := Lib.hid HISW
    have HV := Lib.hid (imtV_good hT)
    have HMO := Lib.hid fun wx (hb : Below w.heap.size w wx) => smon_any LL.length HN.2 (mp LL) a c wx (hTB.below hb)
    clear hT HIS h hl hTB
    obtain ⟨M, hM⟩ : ∃ M, M = monB LL.length (mp LL) := ⟨_, rfl⟩
    rw [← hM] at HV HMO
    clear hM
    go_enter Try.func32, Try.ntmps32
    go_wp2_with fail
    refine HISW.out.mono ?_
    rintro e w1 ⟨rfl, hb⟩
    have HB := Lib.hid hb
    have hsz := hb.size
    clear hb
    go_wp2_with fail
    refine (HMO.out _ HB.out).mono ?_
    rintro e w2 ⟨rfl, hb⟩
    have HB2 := Lib.hid hb
    clear hb
    go_wp2_with fail
    go_ret2
    exact ⟨congrArg Ending.returned HV.out.symm, HB.out.trans (HB2.out.mono hsz)⟩

set_option maxRecDepth 100000 in
set_option maxHeartbeats 2000000 in
theorem iImt_any (LL : List (List Int)) (hn : LL.length ≤ 1048576) (hl : ∀ j, j < LL.length → (LL.getD j []).length ≤ 1048576) (a : Option Addr) (c : Nat) (w : World) (h : InRowL w a LL) :
    Calls Try.prog 34 #[.slice a LL.length c] w fun e w' => e = .returned (imtV LL) ∧ Below w.heap.size w w' := by
  have HIS := Lib.hid fun w h => iis8_any LL hn hl a c w h
  cases hT : tblB LL
  · have HV := Lib.hid (imtV_bad hT)
    have HISW := HIS.out w h
    rw [hT] at HISW
    have HISW := Lib.hid HISW
    clear hT HIS h hl
    go_enter Try.func34, Try.ntmps34
    go_wp2_with fail
    refine HISW.out.mono ?_
    rintro e w1 ⟨rfl, hb⟩
    have HB := Lib.hid hb
    clear hb
    go_wp2_with fail
    go_ret2
    exact ⟨congrArg Ending.returned HV.out.symm, HB.out⟩
  · have hTB := h.tbl hT
    have HN := tblB_n hT
    have HISW := HIS.out w h
    rw [hT] at HISW
    have HISW := Lib.hid HISW
    have HV := Lib.hid (imtV_good hT)
    have HMO := Lib.hid fun wx (hb : Below w.heap.size w wx) => imon_any LL.length HN.2 (mp LL) a c wx (hTB.below hb)
    clear hT HIS h hl hTB
    obtain ⟨M, hM⟩ : ∃ M, M = monB LL.length (mp LL) := ⟨_, rfl⟩
    rw [← hM] at HV HMO
    clear hM
    go_enter Try.func34, Try.ntmps34
    go_wp2_with fail
    refine HISW.out.mono ?_
    rintro e w1 ⟨rfl, hb⟩
    have HB := Lib.hid hb
    have hsz := hb.size
    clear hb
    go_wp2_with fail
    refine (HMO.out _ HB.out).mono ?_
    rintro e w2 ⟨rfl, hb⟩
    have HB2 := Lib.hid hb
    clear hb
    go_wp2_with fail
    go_ret2
    exact ⟨congrArg Ending.returned HV.out.symm, HB.out.trans (HB2.out.mono hsz)⟩

set_option maxRecDepth 100000 in
set_option maxHeartbeats 2000000 in
theorem sIdn_any (LL : List (List Int)) (hn : LL.length ≤ 1048576) (hl : ∀ j, j < LL.length → (LL.getD j []).length ≤ 1048576) (a : Option Addr) (c : Nat) (w : World) (h : InRowL w a LL) :
    Calls Try.prog 36 #[.slice a LL.length c] w fun e w' => e = .returned (idnT LL) ∧ Below w.heap.size w w' := by
  have HIS := Lib.hid fun w h => sis8_any LL hn hl a c w h
  cases hT : tblB LL
  · have HV := Lib.hid (idnT_bad hT)
    have HISW := HIS.out w h
    rw [hT] at HISW
    have HISW := Lib.hid HISW
    clear hT HIS h hl
    go_enter Try.func36, Try.ntmps36
    go_wp2_with fail
    refine HISW.out.mono ?_
    rintro e w1 ⟨rfl, hb⟩
    have HB := Lib.hid hb
    clear hb
    go_wp2_with fail
    go_ret2
    exact ⟨congrArg Ending.returned HV.out.symm, HB.out⟩
  · have hTB := h.tbl hT
    have HN := tblB_n hT
    have HISW := HIS.out w h
    rw [hT] at HISW
    have HISW := Lib.hid HISW
    have HID := Lib.hid fun wx (hb : Below w.heap.size w wx) => sid_any LL.length HN.2 (mp LL) a c wx (hTB.below hb)
    cases hF : idF LL.length (mp LL) with
    | none =>
      have HV := Lib.hid (idnT_none hT hF)
      rw [idV_none hF] at HID
      clear hT HIS h hl hTB hF
      go_enter Try.func36, Try.ntmps36
      go_wp2_with fail
      refine HISW.out.mono ?_
      rintro e w1 ⟨rfl, hb⟩
      have HB := Lib.hid hb
      have hsz := hb.size
      clear hb
      go_wp2_with fail
      refine (HID.out _ HB.out).mono ?_
      rintro e w2 ⟨rfl, hb⟩
      have HB2 := Lib.hid hb
      clear hb
      go_wp2_with fail
      go_ret2
      exact ⟨congrArg Ending.returned HV.out.symm, HB.out.trans (HB2.out.mono hsz)⟩
    | some e0 =>
      have HV := Lib.hid (idnT_some hT hF)
      rw [idV_some hF] at HID
      have hlt0 : ¬ ((e0 : Int) < 0) := by omega
      clear hT HIS h hl hTB hF
      go_enter Try.func36, Try.ntmps36
      go_wp2_with fail
      refine HISW.out.mono ?_
      rintro e w1 ⟨rfl, hb⟩
      have HB := Lib.hid hb
      have hsz := hb.size
      clear hb
      go_wp2_with fail
      refine (HID.out _ HB.out).mono ?_
      rintro e w2 ⟨rfl, hb⟩
      have HB2 := Lib.hid hb
      clear hb
      go_wp2_with fail
      go_ret2
      exact ⟨congrArg Ending.returned HV.out.symm, HB.out.trans (HB2.out.mono hsz)⟩

set_option maxRecDepth 100000 in
set_option maxHeartbeats 2000000 in
theorem iIdn_any (LL : List (List Int)) (hn : LL.length ≤ 1048576) (hl : ∀ j, j < LL.length → (LL.getD j []).length ≤ 1048576) (a : Option Addr) (c : Nat) (w : World) (h : InRowL w a LL) :
    Calls Try.prog 37 #[.slice a LL.length c] w fun e w' => e = .returned (idnT LL) ∧ Below w.heap.size w w' := by
  have HIS := Lib.hid fun w h => iis8_any LL hn hl a c w h
  cases hT : tblB LL
  · have HV := Lib.hid (idnT_bad hT)
    have HISW := HIS.out w h
    rw [hT] at HISW
    have HISW := Lib.hid HISW
    clear hT HIS h hl
    go_enter Try.func37, Try.ntmps37
    go_wp2_with fail
    refine HISW.out.mono ?_
    rintro e w1 ⟨rfl, hb⟩
    have HB := Lib.hid hb
    clear hb
    go_wp2_with fail
    go_ret2
    exact ⟨congrArg Ending.returned HV.out.symm, HB.out⟩
  · have hTB := h.tbl hT
    have HN := tblB_n hT
    have HISW := HIS.out w h
    rw [hT] at HISW
    have HISW := Lib.hid HISW
    have HID := Lib.hid fun wx (hb : Below w.heap.size w wx) => iid_any LL.length HN.2 (mp LL) a c wx (hTB.below hb)
    rw [idnT_idR hT] at HID
    obtain ⟨P, C, hPC⟩ : ∃ P C, idnT LL = .tuple #[.int .i64 P, .int .i64 C] := ⟨_, _, rfl⟩
    rw [hPC] at HID
    have HV := Lib.hid hPC
    clear hT HIS h hl hTB hPC
    go_enter Try.func37, Try.ntmps37
    go_wp2_with fail
    refine HISW.out.mono ?_
    rintro e w1 ⟨rfl, hb⟩
    have HB := Lib.hid hb
    have hsz := hb.size
    clear hb
    go_wp2_with fail
    refine (HID.out _ HB.out).mono ?_
    rintro e w2 ⟨rfl, hb⟩
    have HB2 := Lib.hid hb
    clear hb
    go_wp2_with fail
    go_ret2
    exact ⟨congrArg Ending.returned HV.out.symm, HB.out.trans (HB2.out.mono hsz)⟩

end Go.Proofs.Ytgiefgbpcjoieaa
