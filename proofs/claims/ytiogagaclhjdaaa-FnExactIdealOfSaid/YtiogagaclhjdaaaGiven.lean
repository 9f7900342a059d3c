/- The contract of spec.l02Given. -/
import Derived.Test.YtiogagaclhjdaaaSame
namespace Go.Proofs.Ytiogagaclhjdaaa
open Go.RowKit

theorem allB_app (L O : List MapN) : allB (L ++ O) = (allB L && allB O) := by unfold allB; rw [List.all_append]
theorem sameB_app (p : Int) (L O : List MapN) : sameB p (L ++ O) = (sameB p L && sameB p O) := by unfold sameB; rw [List.all_append]

set_option maxRecDepth 100000 in
set_option maxHeartbeats 2000000 in
theorem given_any (a1 a2 : Option Addr) (c1 c2 : Nat) (L O : List MapN) (hl1 : L.length ≤ 1048576) (hl2 : O.length ≤ 900000) (w : World) (hr1 : InRowM w a1 L) (hr2 : InRowM w a2 O) :
    Calls Try.prog 92 #[.slice a1 L.length c1, .slice a2 O.length c2] w fun e w' => e = .returned (.int .i64 (chkC L O)) ∧ Below w.heap.size w w' := by
  have HR1 := Lib.hid hr1
  have HR2 := Lib.hid hr2
  have HI := Lib.hid fun (x : MapN) w => lis_any x.1 x.2 w
  have HCC : Hid (chkC L O = if allB (L ++ O) = true then (if sizeB L = true then (if sameB (fst0 L) (L ++ O) = true then 0 else 2) else 2) else 1) := Lib.hid rfl
  have HAP := Lib.hid (allB_app L O)
  have HSP := Lib.hid (sameB_app (fst0 L) L O)
  clear hr1 hr2
  go_enter Try.func92, Try.ntmps92
  go_wp2_with fail
  go_loopw [5] (fun i wr => ∃ k : Nat, k ≤ L.length ∧ i = .int .i64 k ∧ (∀ j, j < k → isB (L.getD j z0).1 (L.getD j z0).2 = true) ∧ Below w.heap.size w wr) (fun i _ => L.length - (intOf i).toNat)
  case atStart => exact ⟨0, by omega, rfl, by omega, Below.refl _ _⟩
  case round =>
    obtain ⟨k, hk, rfl, hok, hb⟩ := hrel
    have HB := Lib.hid hb
    have HOK := Lib.hid hok
    have hsz := hb.size
    clear hb hok
    by_cases hkm : k < L.length
    · have hkm' : (k : Int) < (L.length : Int) := by omega
      obtain ⟨g, off, rfl, hgl, hat⟩ := (HR1.out.below HB.out).at6 k hkm
      obtain ⟨x0, x1, x2, x3, x4, x5⟩ := hat
      have HX := Lib.hid fun w => HI.out (L.getD k z0) w
      have HXX := Lib.hid (allB_false k hkm)
      have HG : Hid (isB (L.getD k z0).1 (L.getD k z0).2 = true → ∀ j, j < k + 1 → isB (L.getD j z0).1 (L.getD j z0).2 = true) := Lib.hid fun h j hj => by
        by_cases e : j = k
        · rw [e]; exact h
        · exact HOK.out j (by omega)
      generalize L.getD k z0 = X at *
      obtain ⟨p, t⟩ := X
      have HQ := HX.out
      simp only [] at x0 x1 x2 x3 x4 x5
      cases hv : isB p t
      · have HF := HXX.out hv
        have HC := HCC.out
        rw [HAP.out, HF, Bool.false_and, if_neg Bool.false_ne_true] at HC
        have HCH := Lib.hid HC
        simp only [hv] at HQ
        have HQH := Lib.hid HQ
        clear hv HF HC HQ
        simp only [mv, mcells] at *
        go_wp2_with fail
        refine (HQH.out _).mono ?_
        rintro e w2 ⟨rfl, hb2⟩
        have HB2 := Lib.hid hb2
        clear hb2
        go_wp2_with fail
        go_ret
        exact ⟨ret_i HCH.out.symm, HB.out.trans (HB2.out.mono hsz)⟩
      · have HG := Lib.hid (HG.out hv)
        simp only [hv] at HQ
        have HQH := Lib.hid HQ
        clear hv HQ
        simp only [mv, mcells] at *
        go_wp2_with fail
        refine (HQH.out _).mono ?_
        rintro e w2 ⟨rfl, hb2⟩
        have HB2 := Lib.hid hb2
        clear hb2
        go_wp2_with fail
        go_roundw
        case rel => exact ⟨k + 1, by omega, by go_num, HG.out, HB.out.trans (HB2.out.mono hsz)⟩
        case measure => simp [intOf]; omega
    · obtain rfl : k = L.length := by omega
      have HALL := Lib.hid (allB_true HOK.out)
      obtain ⟨wp, hwp⟩ : ∃ wp, wp = wr := ⟨_, rfl⟩
      subst hwp
      have HBP := Lib.hid HB.out
      clear HB HOK hsz
      go_wp2_with fail
      go_loopw [6] (fun i wr => ∃ k : Nat, k ≤ O.length ∧ i = .int .i64 k ∧ (∀ j, j < k → isB (O.getD j z0).1 (O.getD j z0).2 = true) ∧ Below w.heap.size w wr) (fun i _ => O.length - (intOf i).toNat)
      case atStart => exact ⟨0, by omega, rfl, by omega, HBP.out⟩
      case round =>
        obtain ⟨k, hk, rfl, hok, hb⟩ := hrel
        have HB := Lib.hid hb
        have HOK := Lib.hid hok
        have hsz := hb.size
        clear hb hok
        by_cases hkm : k < O.length
        · have hkm' : (k : Int) < (O.length : Int) := by omega
          obtain ⟨g, off, rfl, hgl, hat⟩ := (HR2.out.below HB.out).at6 k hkm
          obtain ⟨x0, x1, x2, x3, x4, x5⟩ := hat
          have HX := Lib.hid fun w => HI.out (O.getD k z0) w
          have HXX := Lib.hid (allB_false k hkm)
          have HG : Hid (isB (O.getD k z0).1 (O.getD k z0).2 = true → ∀ j, j < k + 1 → isB (O.getD j z0).1 (O.getD j z0).2 = true) := Lib.hid fun h j hj => by
            by_cases e : j = k
            · rw [e]; exact h
            · exact HOK.out j (by omega)
          generalize O.getD k z0 = X at *
          obtain ⟨p, t⟩ := X
          have HQ := HX.out
          simp only [] at x0 x1 x2 x3 x4 x5
          cases hv : isB p t
          · have HF := HXX.out hv
            have HC := HCC.out
            rw [HAP.out, HALL.out, HF, Bool.true_and, if_neg Bool.false_ne_true] at HC
            have HCH := Lib.hid HC
            simp only [hv] at HQ
            have HQH := Lib.hid HQ
            clear hv HF HC HQ
            simp only [mv, mcells] at *
            go_wp2_with fail
            refine (HQH.out _).mono ?_
            rintro e w2 ⟨rfl, hb2⟩
            have HB2 := Lib.hid hb2
            clear hb2
            go_wp2_with fail
            go_ret
            exact ⟨ret_i HCH.out.symm, HB.out.trans (HB2.out.mono hsz)⟩
          · have HG := Lib.hid (HG.out hv)
            simp only [hv] at HQ
            have HQH := Lib.hid HQ
            clear hv HQ
            simp only [mv, mcells] at *
            go_wp2_with fail
            refine (HQH.out _).mono ?_
            rintro e w2 ⟨rfl, hb2⟩
            have HB2 := Lib.hid hb2
            clear hb2
            go_wp2_with fail
            go_roundw
            case rel => exact ⟨k + 1, by omega, by go_num, HG.out, HB.out.trans (HB2.out.mono hsz)⟩
            case measure => simp [intOf]; omega
        · obtain rfl : k = O.length := by omega
          have HALLO := Lib.hid (allB_true HOK.out)
          have HSM := fun wx hx => same_any L HALL.out hl1 a1 c1 wx hx
          have HRP := Lib.hid (HR1.out.below HB.out)
          have HC := HCC.out
          rw [HAP.out, HALL.out, HALLO.out, Bool.true_and, if_pos rfl, HSP.out] at HC
          obtain ⟨wq, hwq⟩ : ∃ wq, wq = wr := ⟨_, rfl⟩
          subst hwq
          cases hs : (sizeB L && sameB (fst0 L) L)
          · rw [hs] at HSM
            have HSM := Lib.hid HSM
            have hcc : chkC L O = 2 := by
              rw [HC]
              cases h1 : sizeB L
              · rw [if_neg Bool.false_ne_true]
              · rw [if_pos rfl]
                rw [h1, Bool.true_and] at hs
                rw [hs, Bool.false_and, if_neg Bool.false_ne_true]
            have HCH := Lib.hid hcc
            clear hs hcc HC
            go_wp2_with fail
            refine (HSM.out _ HRP.out).mono ?_
            rintro e w2 ⟨rfl, hb2⟩
            have HB2 := Lib.hid hb2
            clear hb2
            go_wp2_with fail
            go_ret
            exact ⟨ret_i HCH.out.symm, HB.out.trans (HB2.out.mono hsz)⟩
          · rw [hs] at HSM
            have HSM := Lib.hid HSM
            rw [Bool.and_eq_true] at hs
            rw [if_pos hs.1, hs.2, Bool.true_and] at HC
            have hs1 : 0 < L.length := by
              have := hs.1
              unfold sizeB at this
              simp at this
              omega
            have HCH := Lib.hid HC
            clear hs HC
            go_wp2_with fail
            refine (HSM.out _ HRP.out).mono ?_
            rintro e w2 ⟨rfl, hb2⟩
            have HBW := Lib.hid (HB.out.trans (hb2.mono hsz))
            clear hb2 HB HOK
            go_wp2_with fail
            go_loopw [7] (fun i wr => ∃ k : Nat, k ≤ O.length ∧ i = .int .i64 k ∧ (∀ j, j < k → (O.getD j z0).1 = fst0 L) ∧ Below w.heap.size w wr) (fun i _ => O.length - (intOf i).toNat)
            case atStart => exact ⟨0, by omega, rfl, by omega, HBW.out⟩
            case round =>
              obtain ⟨k, hk, rfl, hok, hb⟩ := hrel
              have HB := Lib.hid hb
              have HOK := Lib.hid hok
              have hsz := hb.size
              clear hb hok
              by_cases hkm : k < O.length
              · have hkm' : (k : Int) < (O.length : Int) := by omega
                obtain ⟨g, off2, rfl, hgl, hat⟩ := (HR2.out.below HB.out).at6 k hkm
                obtain ⟨x0, x1, x2, x3, x4, x5⟩ := hat
                obtain ⟨b, off, rfl, hbl, hat0⟩ := (HR1.out.below HB.out).at0 hs1
                obtain ⟨y0, y1, y2, y3, y4, y5⟩ := hat0
                have hf0 : (L.getD 0 z0).1 = fst0 L := rfl
                rw [hf0] at y0
                have HXX := Lib.hid (sameB_false (p := fst0 L) k hkm)
                have HG : Hid ((O.getD k z0).1 = fst0 L → ∀ j, j < k + 1 → (O.getD j z0).1 = fst0 L) := Lib.hid fun h j hj => by
                  by_cases e : j = k
                  · rw [e]; exact h
                  · exact HOK.out j (by omega)
                clear hf0 y1 y2 y3 y4 y5
                generalize fst0 L = p0 at *
                generalize O.getD k z0 = X at *
                obtain ⟨p, t⟩ := X
                simp only [] at x0 x1 x2 x3 x4 x5
                by_cases hv : p = p0
                · have HG := Lib.hid (HG.out hv)
                  have hne : (p != p0) = false := by simp [hv]
                  clear hv
                  go_wp2_with fail
                  go_quiet (fail)
                  go_wp2_with fail
                  go_roundw
                  case rel => exact ⟨k + 1, by omega, by go_num, HG.out, below_drewN HB.out _⟩
                  case measure => simp [intOf]; omega
                · have HF := HXX.out hv
                  have HC := HCH.out
                  rw [HF, if_neg Bool.false_ne_true] at HC
                  have HCQ := Lib.hid HC
                  have hne : (p != p0) = true := by simp [hv]
                  clear hv HF HC
                  go_wp2_with fail
                  go_quiet (fail)
                  go_wp2_with fail
                  go_ret
                  exact ⟨ret_i HCQ.out.symm, below_drewN HB.out _⟩
              · obtain rfl : k = O.length := by omega
                have HC := HCH.out
                rw [if_pos (sameB_true HOK.out)] at HC
                have HCQ := Lib.hid HC
                clear HC
                go_wp2_with fail
                go_ret
                exact ⟨ret_i HCQ.out.symm, HB.out⟩

end Go.Proofs.Ytiogagaclhjdaaa
