/- The contracts of spec.SizeOf and impl.SizeOf. -/
import Derived.Test.YtpkapgidpgmdoaaMono
namespace Go.Proofs.Ytpkapgidpgmdoaa
open Go.RowKit Go.Maps

/-- The size, or nothing, and the code. -/
noncomputable def sizeV (L : List MapN) : Value := .tuple #[.int .i64 (elsL L []).length, .int .i64 (elsC L [])]

theorem elsL_bad {L O : List MapN} (h : elsC L O ≠ 0) : elsL L O = [] := by unfold elsL; rw [if_neg h]
theorem elsL_good {L O : List MapN} (h : elsC L O = 0) : elsL L O = mE (fst0 L) (elsK L) := by unfold elsL; rw [if_pos h]

set_option maxRecDepth 100000 in
theorem ssize_any (a : Option Addr) (c : Nat) (L : List MapN) (hl : L.length ≤ 1048576) (w : World) (hr : InRowM w a L) :
    Calls Try.prog 26 #[.slice a L.length c] w fun e w' => e = .returned (sizeV L) ∧ Below w.heap.size w w' := by
  have HS := Lib.hid (sels_any a none c 0 L [] hl (by simp) w hr (Or.inl rfl))
  have HV : Hid (sizeV L = .tuple #[.int .i64 (elsL L []).length, .int .i64 (elsC L [])]) := Lib.hid rfl
  have HLB := Lib.hid fun h => elsL_bad (L := L) (O := []) h
  clear hr
  generalize sizeV L = V at *
  generalize elsL L [] = K at *
  generalize elsC L [] = C at *
  simp only [List.length_nil] at HS
  by_cases hc : C = 0
  · subst hc
    go_enter Try.func26, Try.ntmps26
    go_wp2_with fail
    refine HS.out.mono ?_
    rintro e w1 ⟨a1, c1, rfl, _, hb⟩
    have HB := Lib.hid hb
    clear hb
    go_wp2_with fail
    go_ret2
    exact ⟨congrArg Ending.returned HV.out.symm, HB.out⟩
  · have hk := HLB.out hc
    subst hk
    have hcb : (C != 0) = true := by simpa using hc
    simp only [List.length_nil] at HS HV
    go_enter Try.func26, Try.ntmps26
    go_wp2_with fail
    refine HS.out.mono ?_
    rintro e w1 ⟨a1, c1, rfl, _, hb⟩
    have HB := Lib.hid hb
    clear hb
    go_wp2_with fail
    go_ret2
    exact ⟨congrArg Ending.returned HV.out.symm, HB.out⟩

set_option maxRecDepth 100000 in
theorem isize_any (a : Option Addr) (c : Nat) (L : List MapN) (h1 : a = none → c = 0) (hl : L.length ≤ 1048576) (w : World) (hr : InRowM w a L) :
    Calls Try.prog 27 #[.slice a L.length c] w fun e w' => e = .returned (sizeV L) ∧ Below w.heap.size w w' := by
  have HS := Lib.hid (mono_any a none c 0 L [] h1 (fun _ => rfl) hl (by simp) w hr (Or.inl rfl))
  simp only [List.length_nil] at HS
  clear hr
  go_enter Try.func27, Try.ntmps27
  go_wp2_with fail
  refine HS.out.mono ?_
  rintro e w1 ⟨hb, ⟨hc, rfl⟩ | ⟨hc, _, gE, cE, b, l, rfl, _⟩⟩
  · have HB := Lib.hid hb
    have HV : Hid (sizeV L = .tuple #[.int .i64 0, .int .i64 (elsC L [])]) := Lib.hid (by unfold sizeV; rw [elsL_bad hc]; rfl)
    clear hb hc
    go_wp2_with fail
    go_ret2
    exact ⟨congrArg Ending.returned HV.out.symm, HB.out.alloc HB.out.size _⟩
  · have HB := Lib.hid hb
    have HV : Hid (sizeV L = .tuple #[.int .i64 (elsK L).length, .int .i64 0]) := Lib.hid (by unfold sizeV; rw [elsL_good hc, hc, mE_len])
    clear hb hc
    go_wp2_with fail
    go_ret2
    exact ⟨congrArg Ending.returned HV.out.symm, HB.out.alloc HB.out.size _⟩

/-! The contracts of spec.ElementsOf and impl.ElementsOf. -/

set_option maxRecDepth 100000 in
theorem selems_any (a : Option Addr) (c : Nat) (L : List MapN) (hl : L.length ≤ 1048576) (w : World) (hr : InRowM w a L) :
    Calls Try.prog 20 #[.slice a L.length c] w (RetRowM w.heap.size (elsL L []) (elsC L []) w) := by
  have HS := Lib.hid (sels_any a none c 0 L [] hl (by simp) w hr (Or.inl rfl))
  clear hr
  generalize elsL L [] = K at *
  generalize elsC L [] = C at *
  simp only [List.length_nil] at HS
  go_enter Try.func20, Try.ntmps20
  go_wp2_with fail
  refine HS.out.mono ?_
  rintro e w1 ⟨a1, c1, rfl, hrd, hb⟩
  have HB := Lib.hid hb
  have HR := Lib.hid hrd
  clear hb hrd
  go_wp2_with fail
  go_ret2
  exact ⟨a1, c1, rfl, HR.out, HB.out⟩

theorem elsK_le {L O : List MapN} (h : elsC L O = 0) (hI : Cinv (fst0 L) (codes L) (cfin (fst0 L) (codes L))) : (elsK L).length ≤ 300 := by
  have e : (elsK L).length = (cfin (fst0 L) (codes L)).E.length := srtE_len _ hI.nd
  unfold elsC at h
  by_cases hc : chkC L O = 0
  · rw [if_pos hc] at h
    by_cases h3 : 300 < (cfin (fst0 L) (codes L)).E.length
    · rw [if_pos h3] at h; simp at h
    · omega
  · rw [if_neg hc] at h; exact absurd h hc

set_option maxRecDepth 100000 in
theorem ielems_any (a : Option Addr) (c : Nat) (L : List MapN) (h1 : a = none → c = 0) (hl : L.length ≤ 1048576) (w : World) (hr : InRowM w a L) :
    Calls Try.prog 22 #[.slice a L.length c] w (RetRowM w.heap.size (elsL L []) (elsC L []) w) := by
  have HS := Lib.hid (mono_any a none c 0 L [] h1 (fun _ => rfl) hl (by simp) w hr (Or.inl rfl))
  simp only [List.length_nil] at HS
  clear hr
  go_enter Try.func22, Try.ntmps22
  go_wp2_with fail
  refine HS.out.mono ?_
  rintro e w1 ⟨hb, ⟨hc, rfl⟩ | ⟨hc, hg, gE, cE, b, l, rfl, hput, _, _, hI⟩⟩
  · have HB := Lib.hid hb
    have HK : Hid (elsL L [] = []) := Lib.hid (elsL_bad hc)
    clear hb hc
    go_wp2_with fail
    go_ret2
    rw [HK.out]
    exact ⟨none, 0, rfl, ⟨by simp, Or.inl rfl⟩, HB.out.alloc HB.out.size _⟩
  · have HB := Lib.hid hb
    have HK : Hid (elsL L [] = mE (fst0 L) (elsK L)) := Lib.hid (elsL_good hc)
    have HC := Lib.hid hc
    have HP := Lib.hid hput
    have HLE := Lib.hid (elsK_le hc hI)
    clear hb hc hput hI
    go_wp2_with fail
    go_ret2
    rw [HK.out, HC.out]
    exact ⟨some ⟨gE, 0, none⟩, cE, by rw [mE_len]; rfl, (HP.out.rd (by rw [mE_len]; exact Nat.le_trans HLE.out (by omega))).below ((Below.refl _ _).alloc (Nat.le_refl _) _), HB.out.alloc HB.out.size _⟩

end Go.Proofs.Ytpkapgidpgmdoaa
