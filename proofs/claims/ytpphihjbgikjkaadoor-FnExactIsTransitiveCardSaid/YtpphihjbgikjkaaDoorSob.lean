/- The contracts of spec.l10Orbit, spec.l10Code and spec.OrbitOf. -/
import Derived.Test.YtpphihjbgikjkaaDoorRch
import Derived.Test.YtpphihjbgikjkaaDoorBits
import Derived.Test.YtpphihjbgikjkaaDoorPoints
import Derived.Test.YtpphihjbgikjkaaDoorGiven
import Derived.Deep.RegionHeld3
namespace Go.Proofs.YtpphihjbgikjkaaDoor
open Go Go.RowKit

/-- 1 at what is true. -/
def oneOf : Value → Nat
  | .bool true => 1
  | _ => 0

theorem mask_one (c : Nat) (h : c < 5) : wrap64 (2 ^ c) = mask (setB (fun _ => false) c) := by
  rcases (by omega : c = 0 ∨ c = 1 ∨ c = 2 ∨ c = 3 ∨ c = 4) with rfl | rfl | rfl | rfl | rfl <;> decide +kernel

theorem movK_in {t : Nat → Int} {s : Nat → Bool} {k j : Nat} (h : movK t s k j = true) : ∃ i, i < k ∧ s i = true ∧ t i = (j : Int) := by
  unfold movK at h
  rw [List.any_eq_true] at h
  obtain ⟨i, hi, he⟩ := h
  rw [Bool.and_eq_true, beq_iff_eq] at he
  exact ⟨i, List.mem_range.1 hi, he.1, he.2⟩

set_option maxRecDepth 100000 in
set_option maxHeartbeats 4000000 in
theorem sorb_any (L : List MapN) {n : Nat} (hok : LOk L n) (c : Nat) (hc : c < n) (a : Option Addr) (cap : Nat) (w : World) (hr : InRowM w a L) :
    Calls Tryd.prog 53 #[.slice a L.length cap, .int .i64 (c : Int)] w fun e w' => e = .returned (.int .i64 (mask (rchS L c))) ∧ Below w.heap.size w w' := by
  have hn5 := hok.n5
  have hl6 := hok.len6
  have HK := Lib.hid hok
  have HR := Lib.hid hr
  have h1 := mask_one c (by omega)
  have hc5 : (c : Int) < 5 := by omega
  clear hok hr
  obtain ⟨s0, hs0⟩ : ∃ s0, s0 = setB (fun _ => false) c := ⟨_, rfl⟩
  rw [← hs0] at h1
  have HS0 := Lib.hid hs0
  have H1 := Lib.hid h1
  clear hs0 h1
  go_enter Tryd.func53, Tryd.ntmps53
  go_wp2_with fail
  go_loopw [5, 6, 7, 8] (fun v m _ _ wr => ∃ (s : Nat → Bool) (mo : Bool), v = .int .i64 (mask s) ∧ m = .bool mo ∧ s c = true ∧ (∀ j, s j = true → Rch L c j) ∧ (mo = false → ∀ i, i < L.length → ∀ j, movK (L.getD i z0).2 s n j = true → s j = true) ∧ Below w.heap.size w wr)
    (fun v m _ _ _ => 2 * (31 - intOf v).toNat + oneOf m)
  case atStart =>
    refine ⟨s0, true, by rw [H1.out], rfl, by rw [HS0.out]; simp [setB], fun j hj => ?_, fun h => by simp at h, Below.refl _ _⟩
    rw [HS0.out] at hj
    unfold setB at hj
    by_cases e : j = c
    · rw [e]; exact Rch.refl L c
    · rw [if_neg e] at hj; cases hj
  case round =>
    obtain ⟨s, mo, rfl, rfl, hsc, hsr, hcl, hb⟩ := hrel
    have HSC := Lib.hid hsc
    have HSR := Lib.hid hsr
    have HB := Lib.hid hb
    have hMd := mask_bd s
    obtain ⟨wo, hwo⟩ : ∃ wo, wo = wr := ⟨_, rfl⟩
    subst hwo
    cases mo
    · have HE := Lib.hid (rchS_of HK.out hsc hsr (hcl rfl) hc)
      clear hsc hsr hcl hb
      go_wp2_with fail
      go_ret
      exact ⟨by rw [HE.out]; rfl, HB.out⟩
    · clear hsc hsr hcl hb
      obtain ⟨M0, hM0⟩ : ∃ M0, M0 = mask s := ⟨_, rfl⟩
      rw [← hM0] at hMd ⊢
      have HM0 := Lib.hid hM0
      clear hM0
      go_wp2_with fail
      go_loopw [5, 6, 7, 8] (fun v m i _ wx => ∃ (k : Nat) (s2 : Nat → Bool) (mo : Bool), k ≤ L.length ∧ i = .int .i64 (k : Int) ∧ v = .int .i64 (mask s2) ∧ m = .bool mo ∧ s2 c = true ∧ (∀ j, s2 j = true → Rch L c j) ∧
          ((mo = false ∧ mask s2 = M0 ∧ ∀ i, i < k → ∀ j, movK (L.getD i z0).2 s2 n j = true → s2 j = true) ∨ (mo = true ∧ M0 < mask s2)) ∧ Below w.heap.size w wx) (fun _ _ i _ _ => L.length - (intOf i).toNat)
      case atStart => exact ⟨0, s, false, by omega, rfl, by rw [HM0.out], rfl, HSC.out, HSR.out, Or.inl ⟨rfl, HM0.out.symm, fun i hi => by omega⟩, HB.out⟩
      case round =>
        clear hMd
        obtain ⟨k, s2, mo, hk, rfl, rfl, rfl, hsc, hsr, hcs, hb⟩ := hrel
        have HSC := Lib.hid hsc
        have HSR := Lib.hid hsr
        have HCS := Lib.hid hcs
        have HBX := Lib.hid hb
        have hMd := mask_bd s2
        by_cases hkl : k < L.length
        · have hkl' : (k : Int) < (L.length : Int) := by omega
          obtain ⟨b, off, rfl, hbl, x0, x1, x2, x3, x4, x5⟩ := (HR.out.below hb).at6 k hkl
          rw [HK.out.pts k hkl] at x0
          have HMV := Lib.hid fun w => smoved_any (n : Int) (L.getD k z0).2 (HK.out.isb k hkl) s2 w
          simp only [Int.toNat_natCast] at HMV
          have hor := or_masks s2 (movK (L.getD k z0).2 s2 n)
          have hle := mask_un_le s2 (movK (L.getD k z0).2 s2 n)
          have hbd := mask_bd (unB s2 (movK (L.getD k z0).2 s2 n))
          have HU1 : Hid (unB s2 (movK (L.getD k z0).2 s2 n) c = true) := Lib.hid (by unfold unB; rw [hsc]; rfl)
          have HU2 : Hid (∀ j, unB s2 (movK (L.getD k z0).2 s2 n) j = true → Rch L c j) := Lib.hid fun j hj => by
            unfold unB at hj
            rw [Bool.or_eq_true] at hj
            rcases hj with hj | hj
            · exact hsr j hj
            · obtain ⟨i, hi, hs, he⟩ := movK_in hj
              obtain ⟨e2, _⟩ := HK.out.step hkl hi
              rw [e2] at he
              have : stL L k i = j := by omega
              rw [← this]
              exact (hsr i hs).step hkl
          have HU3 : Hid (mask (unB s2 (movK (L.getD k z0).2 s2 n)) = mask s2 → ∀ j, movK (L.getD k z0).2 s2 n j = true → s2 j = true) := Lib.hid fun he j hj => by
            have hj5 : j < 5 := by
              obtain ⟨i, hi, hs, h2⟩ := movK_in hj
              obtain ⟨e2, e3⟩ := HK.out.step hkl hi
              omega
            rw [← mask_ext he j hj5]
            unfold unB
            rw [hj, Bool.or_true]
          clear hsc hsr hcs hb
          generalize hMV : movK (L.getD k z0).2 s2 n = mv2 at *
          generalize hUN : unB s2 mv2 = un at *
          generalize hT : (L.getD k z0).2 = t at *
          have HT := Lib.hid hT
          have hszx := HBX.out.size
          clear hT
          simp only [mv, mcells] at HMV
          by_cases he : mask un = mask s2
          · rw [he] at hor
            have HC3 := Lib.hid (HU3.out he)
            clear he hle hbd hUN
            generalize hS : mask s2 = S at *
            have HSS := Lib.hid hS
            clear hS
            generalize mask mv2 = V at *
            go_wp2_with fail
            refine (HMV.out _).mono ?_
            rintro e w1 ⟨rfl, hb1⟩
            have HB1 := Lib.hid hb1
            clear hb1
            go_wp2_with fail
            go_roundw
            case rel =>
              refine ⟨k + 1, s2, mo, by omega, by go_num, by rw [HSS.out], rfl, HSC.out, HSR.out, ?_, by (repeat' (first | (with_reducible exact Below.refl _ _) | (with_reducible refine Below.alloc ?_ ?_ _) | (with_reducible refine Below.setCell ?_ ?_ _) | (with_reducible refine Below.drew ?_) | (with_reducible refine below_drewN ?_ _) | (with_reducible refine Below.trans ?_ (Below.mono (Hid.out (by assumption)) ?_)) | omega | (simp; done) | (simp; omega)))⟩
              rcases HCS.out with ⟨h1, h2, h3⟩ | h
              · refine Or.inl ⟨h1, HSS.out.trans h2, fun i hi j hj => ?_⟩
                by_cases e : i = k
                · rw [e, HT.out, hMV] at hj; exact HC3.out j hj
                · exact h3 i (by omega) j hj
              · exact Or.inr ⟨h.1, by rw [HSS.out]; exact h.2⟩
            case measure => simp [intOf]; omega
          · have HLT : Hid (mask s2 < mask un) := Lib.hid (by omega)
            have hne : ¬ (mask un = mask s2) := he
            clear he hle
            generalize hS : mask s2 = S at *
            generalize hUU : mask un = U at *
            have HSS := Lib.hid hS
            have HUU := Lib.hid hUU
            clear hS hUU hUN
            generalize mask mv2 = V at *
            go_wp2_with fail
            refine (HMV.out _).mono ?_
            rintro e w1 ⟨rfl, hb1⟩
            have HB1 := Lib.hid hb1
            clear hb1
            go_wp2_with fail
            go_roundw
            case rel =>
              refine ⟨k + 1, un, true, by omega, by go_num, by rw [HUU.out], rfl, HU1.out, HU2.out, Or.inr ⟨rfl, ?_⟩, by (repeat' (first | (with_reducible exact Below.refl _ _) | (with_reducible refine Below.alloc ?_ ?_ _) | (with_reducible refine Below.setCell ?_ ?_ _) | (with_reducible refine Below.drew ?_) | (with_reducible refine below_drewN ?_ _) | (with_reducible refine Below.trans ?_ (Below.mono (Hid.out (by assumption)) ?_)) | omega | (simp; done) | (simp; omega)))⟩
              have := HLT.out
              have e1 := HUU.out
              rcases HCS.out with ⟨h1, h2, h3⟩ | ⟨_, h⟩ <;> omega
            case measure => simp [intOf]; omega
        · obtain rfl : k = L.length := by omega
          have hkl' : ¬ ((L.length : Int) < (L.length : Int)) := by omega
          have HMM : Hid (mo = false ∨ M0 < mask s2) := Lib.hid (by rcases hcs with h | h; exact Or.inl h.1; exact Or.inr h.2)
          clear hsc hsr hcs hb
          go_wp2_with fail
          go_roundw
          case rel =>
            refine ⟨s2, mo, rfl, rfl, HSC.out, HSR.out, fun h => ?_, HBX.out⟩
            rcases HCS.out with h1 | h1
            · exact h1.2.2
            · rw [h1.1] at h; cases h
          case measure =>
            rcases HMM.out with rfl | h
            · rcases HCS.out with h1 | h1
              · rw [h1.2.1]; simp [intOf, oneOf]
              · cases h1.1
            · cases mo <;> simp [intOf, oneOf] <;> omega
end Go.Proofs.YtpphihjbgikjkaaDoor
