/- The contracts of spec.l10Invariant and spec.l06Number. -/
import Derived.Test.YtpphihjbgikjkaaDoorSgv
namespace Go.Proofs.YtpphihjbgikjkaaDoor
open Go Go.RowKit

theorem at6_pt {w : World} {b o : Nat} {x : MapN} (h : At6 w b o x) (j : Nat) (hj : j < 5) : w.cell? ⟨b, o + 1 + j, none⟩ = some (.int .i64 (x.2 j)) := by
  obtain ⟨_, h0, h1, h2, h3, h4⟩ := h
  rcases (by omega : j = 0 ∨ j = 1 ∨ j = 2 ∨ j = 3 ∨ j = 4) with rfl | rfl | rfl | rfl | rfl <;> assumption

theorem invT_half {P : List Int} {t : Nat → Int} {n : Nat} (h : ∀ a, a < n → ∀ b, b < a → P.getD a 0 = P.getD b 0 → P.getD (t a).toNat 0 = P.getD (t b).toNat 0) : invT P t n = true := by
  refine invT_iff.2 fun a ha b hb e => ?_
  rcases Nat.lt_trichotomy a b with c | c | c
  · exact (h b hb a c e.symm).symm
  · rw [c]
  · exact h a ha b c e

set_option maxRecDepth 100000 in
set_option maxHeartbeats 8000000 in
theorem sinv_any (L : List MapN) {n : Nat} (hok : LOk L n) (P : List Int) (hPl : P.length = n) (a : Option Addr) (cap : Nat) (a2 : Option Addr) (c2 : Nat) (w : World) (hr : InRowM w a L) (hr2 : InRow w a2 P) :
    Calls Tryd.prog 43 #[.slice a L.length cap, .slice a2 P.length c2] w fun e w' => e = .returned (.bool (invB L P n)) ∧ Below w.heap.size w w' := by
  obtain ⟨B, hB⟩ : ∃ B, B = invB L P n := ⟨_, rfl⟩
  have HB := Lib.hid hB
  rw [← hB]
  have hn5 := hok.n5
  have hl6 := hok.len6
  have HK := Lib.hid hok
  have HR := Lib.hid hr
  have HP := Lib.hid hr2
  have HL := Lib.hid hPl
  rw [hPl]
  clear hB hok hr hr2 hPl
  go_enter Tryd.func43, Tryd.ntmps43
  go_wp2_with fail
  go_loopw [5, 6, 7] (fun i _ _ wr => ∃ k mm : Nat, k ≤ L.length ∧ i = .int .i64 (k : Int) ∧ wr = w.drewN mm ∧ ∀ i, i < k → invT P (L.getD i z0).2 n = true) (fun i _ _ _ => L.length - (intOf i).toNat)
  case atStart => exact ⟨0, 0, by omega, rfl, rfl, fun i hi => by omega⟩
  case round =>
    obtain ⟨k, mm, hk, rfl, hwr, hal⟩ := hrel
    have HAL := Lib.hid hal
    clear hal
    obtain ⟨wo, hwo⟩ : ∃ wo, wo = wr := ⟨_, rfl⟩
    subst hwo
    subst hwr
    by_cases hkl : k < L.length
    · have hkl' : (k : Int) < (L.length : Int) := by omega
      go_wp2_with fail
      go_loopw [6, 7] (fun i _ wx => ∃ x mx : Nat, x ≤ n ∧ i = .int .i64 (x : Int) ∧ wx = w.drewN mx ∧ ∀ a, a < x → ∀ b, b < a → P.getD a 0 = P.getD b 0 → P.getD ((L.getD k z0).2 a).toNat 0 = P.getD ((L.getD k z0).2 b).toNat 0) (fun i _ _ => n - (intOf i).toNat)
      case atStart => exact ⟨0, mm, by omega, rfl, rfl, fun a ha => by omega⟩
      case round =>
        obtain ⟨x, mx, hx, rfl, hwr, hal2⟩ := hrel
        have HAL2 := Lib.hid hal2
        clear hal2
        obtain ⟨wo2, hwo2⟩ : ∃ wo2, wo2 = wr := ⟨_, rfl⟩
        subst hwo2
        subst hwr
        by_cases hxn : x < n
        · have hxn' : (x : Int) < (n : Int) := by omega
          go_wp2_with fail
          go_loopw [7] (fun i wx => ∃ y my : Nat, y ≤ x ∧ i = .int .i64 (y : Int) ∧ wx = w.drewN my ∧ ∀ b, b < y → P.getD x 0 = P.getD b 0 → P.getD ((L.getD k z0).2 x).toNat 0 = P.getD ((L.getD k z0).2 b).toNat 0) (fun i _ => x - (intOf i).toNat)
          case atStart => exact ⟨0, mx, by omega, rfl, rfl, fun b hb => by omega⟩
          case round =>
            obtain ⟨y, my, hy, rfl, hwr, hal3⟩ := hrel
            have HAL3 := Lib.hid hal3
            clear hal3
            subst hwr
            by_cases hyx : y < x
            · have hyx' : (y : Int) < (x : Int) := by omega
              obtain ⟨bL, oL, rfl, hbL, hat⟩ := HR.out.at6 k hkl
              obtain ⟨bP, oP, rfl, hbP, hcP⟩ := HP.out.resolve_left (fun e => by have := HL.out; rw [e] at this; simp at this; omega)
              have e1 := hcP x (by rw [HL.out]; exact hxn)
              have e2 := hcP y (by rw [HL.out]; omega)
              have t1 := at6_pt hat x (by omega)
              have t2 := at6_pt hat y (by omega)
              obtain ⟨s1, l1⟩ := HK.out.step hkl hxn
              obtain ⟨s2, l2⟩ := HK.out.step hkl (show y < n by omega)
              rw [s1] at t1
              rw [s2] at t2
              have e3 := hcP (stL L k x) (by rw [HL.out]; exact l1)
              have e4 := hcP (stL L k y) (by rw [HL.out]; exact l2)
              have HS1 := Lib.hid s1
              have HS2 := Lib.hid s2
              have hx5 : (x : Int) < 5 := by omega
              have hy5 : (y : Int) < 5 := by omega
              have hyn : (y : Int) < (n : Int) := by omega
              clear s1 s2 hat hcP
              generalize stL L k x = u at *
              generalize stL L k y = v at *
              have l1' : (u : Int) < (n : Int) := by omega
              have l2' : (v : Int) < (n : Int) := by omega
              obtain ⟨X, hX⟩ : ∃ X, X = P.getD x 0 := ⟨_, rfl⟩
              obtain ⟨Y, hY⟩ : ∃ Y, Y = P.getD y 0 := ⟨_, rfl⟩
              obtain ⟨U, hU⟩ : ∃ U, U = P.getD u 0 := ⟨_, rfl⟩
              obtain ⟨V, hV⟩ : ∃ V, V = P.getD v 0 := ⟨_, rfl⟩
              rw [← hX] at e1
              rw [← hY] at e2
              rw [← hU] at e3
              rw [← hV] at e4
              have HX := Lib.hid hX
              have HY := Lib.hid hY
              have HU := Lib.hid hU
              have HV := Lib.hid hV
              clear hX hY hU hV
              by_cases hXY : X = Y
              · by_cases hUV : U = V
                · have HN : Hid (∀ b, b < y + 1 → P.getD x 0 = P.getD b 0 → P.getD ((L.getD k z0).2 x).toNat 0 = P.getD ((L.getD k z0).2 b).toNat 0) := Lib.hid fun b hb e => by
                    by_cases eb : b = y
                    · subst eb
                      rw [HS1.out, HS2.out, Int.toNat_natCast, Int.toNat_natCast, ← HU.out, ← HV.out, hUV]
                    · exact HAL3.out b (by omega) e
                  have HXY := Lib.hid hXY
                  subst hXY
                  subst hUV
                  go_wp2_with fail
                  go_quiet (fail)
                  go_wp2_with fail
                  go_roundw
                  case rel => exact ⟨y + 1, my + nq, by omega, by go_num, by simp, HN.out⟩
                  case measure => simp [intOf]; omega
                · have HF : Hid (B = false) := Lib.hid (by
                    rw [HB.out]
                    exact invB_no hkl (invT_no (a := x) (b := y) hxn (by omega) (by rw [← HX.out, ← HY.out, hXY]) (by rw [HS1.out, HS2.out, Int.toNat_natCast, Int.toNat_natCast, ← HU.out, ← HV.out]; exact hUV)))
                  have hne : (U != V) = true := by simpa using hUV
                  subst hXY
                  clear hUV
                  go_wp2_with fail
                  go_quiet (fail)
                  go_wp2_with fail
                  go_ret
                  exact ⟨by rw [HF.out]; rfl, below_drewN (below_drewN (Below.refl _ _) _) _⟩
              · have HN : Hid (∀ b, b < y + 1 → P.getD x 0 = P.getD b 0 → P.getD ((L.getD k z0).2 x).toNat 0 = P.getD ((L.getD k z0).2 b).toNat 0) := Lib.hid fun b hb e => by
                  by_cases eb : b = y
                  · subst eb
                    rw [← HX.out, ← HY.out] at e
                    exact absurd e hXY
                  · exact HAL3.out b (by omega) e
                have hd : decide (X = Y) = false := by simpa using hXY
                have hd2 : (X == Y) = false := by simpa using hXY
                clear hXY
                go_wp2_with fail
                go_quiet (fail)
                go_wp2_with fail
                go_roundw
                case rel => exact ⟨y + 1, my + nq, by omega, by go_num, by simp, HN.out⟩
                case measure => simp [intOf]; omega
            · obtain rfl : y = x := by omega
              have hyx' : ¬ ((y : Int) < (y : Int)) := by omega
              go_wp2_with fail
              go_roundw
              case rel =>
                refine ⟨y + 1, my, by omega, by go_num, rfl, fun a ha b hb e => ?_⟩
                by_cases ea : a = y
                · subst ea; exact HAL3.out b hb e
                · exact HAL2.out a (by omega) b hb e
              case measure => simp [intOf]; omega
        · obtain rfl : x = n := by omega
          have hxn' : ¬ ((x : Int) < (x : Int)) := by omega
          have HIT := Lib.hid (invT_half (P := P) (t := (L.getD k z0).2) HAL2.out)
          go_wp2_with fail
          go_roundw
          case rel =>
            refine ⟨k + 1, mx, by omega, by go_num, rfl, fun i hi => ?_⟩
            by_cases ei : i = k
            · rw [ei]; exact HIT.out
            · exact HAL.out i (by omega)
          case measure => simp [intOf]; omega
    · obtain rfl : k = L.length := by omega
      have hkl' : ¬ ((L.length : Int) < (L.length : Int)) := by omega
      have HT : Hid (B = true) := Lib.hid (by rw [HB.out]; exact invB_iff.2 HAL.out)
      go_wp2_with fail
      go_ret
      exact ⟨by rw [HT.out]; rfl, below_drewN (Below.refl _ _) _⟩

end Go.Proofs.YtpphihjbgikjkaaDoor
