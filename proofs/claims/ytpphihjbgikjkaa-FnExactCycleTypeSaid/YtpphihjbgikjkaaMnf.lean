/- The contract of slices.MinFunc at numbers and cmp.Compare. -/
import Derived.Test.YtpphihjbgikjkaaIcm
import Derived.Test.YtpphihjbgikjkaaSl
namespace Go.Proofs.Ytpphihjbgikjkaa
open Go Go.RowKit

/-- The least of the first k + 1 numbers. -/
def mnK (L : List Int) : Nat → Int
  | 0 => L.getD 0 0
  | k + 1 => if L.getD (k + 1) 0 < mnK L k then L.getD (k + 1) 0 else mnK L k
theorem mnK_le (L : List Int) : ∀ k j, j ≤ k → mnK L k ≤ L.getD j 0
  | 0, j, h => by rw [show j = 0 by omega]; exact Int.le_refl _
  | k + 1, j, h => by
    unfold mnK
    by_cases e : j = k + 1
    · rw [e]; split <;> omega
    · have := mnK_le L k j (by omega)
      split <;> omega
theorem mnK_in (L : List Int) : ∀ k, k < L.length → mnK L k ∈ L
  | 0, h => by
    show L.getD 0 0 ∈ L
    rw [List.getD_eq_getElem?_getD, List.getElem?_eq_getElem h]
    exact List.getElem_mem h
  | k + 1, h => by
    unfold mnK
    split
    · rw [List.getD_eq_getElem?_getD, List.getElem?_eq_getElem h]
      exact List.getElem_mem h
    · exact mnK_in L k (by omega)
theorem mnK_step (L : List Int) {k : Nat} (h : 1 ≤ k) : mnK L k = if L.getD k 0 < mnK L (k - 1) then L.getD k 0 else mnK L (k - 1) := by
  obtain ⟨j, rfl⟩ : ∃ j, k = j + 1 := ⟨k - 1, by omega⟩
  rfl
/-- The least number of a list. -/
def mnL (L : List Int) : Int := mnK L (L.length - 1)
theorem mnL_in {L : List Int} (h : L ≠ []) : mnL L ∈ L := mnK_in L _ (by have := List.length_pos_iff.2 h; omega)
theorem mnL_le (L : List Int) (x : Int) (hx : x ∈ L) : mnL L ≤ x := by
  obtain ⟨j, hj, rfl⟩ := List.getElem_of_mem hx
  have := mnK_le L (L.length - 1) j (by omega)
  rw [List.getD_eq_getElem?_getD, List.getElem?_eq_getElem hj] at this
  exact this

set_option maxHeartbeats 1000000 in
theorem minf_any (L : List Int) (hL : L ≠ []) (hn : L.length ≤ 2000000) (a : Option Addr) (c : Nat) (w : World) (h : InRow w a L) :
    Calls Try.prog 75 #[.slice a L.length c, .func (.func 32) #[] #[]] w fun e w' => e = .returned (.int .i64 (mnL L)) ∧ w' = w := by
  have hpos := List.length_pos_iff.2 hL
  obtain ⟨b, off, rfl, hlt, hin⟩ := h.resolve_left hL
  have HIN := Lib.hid hin
  have e0 := hin 0 hpos
  rw [Nat.add_zero] at e0
  have hp1 : ¬ ((L.length : Int) < 1) := by omega
  have HE : Hid (L.getD 0 0 = mnK L 0) := Lib.hid rfl
  have HS := Lib.hid fun k h => mnK_step L (k := k) h
  have HF : Hid (∀ k, k = L.length - 1 → mnK L k = mnL L) := Lib.hid fun k h => by rw [h]; rfl
  rw [HE.out] at e0
  obtain ⟨n, hnn⟩ : ∃ n, n = L.length := ⟨_, rfl⟩
  rw [← hnn] at hpos hp1 hn HF HIN ⊢
  clear hin h hnn hL
  go_enter Try.func75, Try.ntmps75
  go_wp2_with fail
  clear e0
  go_loop [5, 6] (fun m i => ∃ k : Nat, 1 ≤ k ∧ k ≤ n ∧ i = .int .i64 (k : Int) ∧ m = .int .i64 (mnK L (k - 1))) (fun _ i => n - (intOf i).toNat)
  case atStart => exact ⟨1, Nat.le_refl _, hpos, rfl, rfl⟩
  case round =>
    obtain ⟨k, hk1, hk, rfl, rfl⟩ := hrel
    by_cases hkn : k < n
    · have hkn' : (k : Int) < (n : Int) := by omega
      have e1 := HIN.out k hkn
      have HST := Lib.hid (HS.out k hk1)
      have HG : Hid (k + 1 - 1 = k) := Lib.hid (by omega)
      obtain ⟨M1, hM1⟩ : ∃ M1, M1 = mnK L k := ⟨_, rfl⟩
      rw [← hM1] at HST
      have HM1 := Lib.hid hM1
      clear hM1
      generalize mnK L (k - 1) = M at *
      generalize L.getD k 0 = X at *
      by_cases hlt : X < M
      · have hs : sg X M = -1 := by unfold sg; rw [if_pos hlt]
        have hE2 : Hid (M1 = X) := Lib.hid (by rw [HST.out, if_pos hlt])
        have HC := Lib.hid fun w => cmp_any X M w
        rw [hs] at HC
        clear hs hlt HST
        go_wp2_with fail
        refine (HC.out _).mono ?_
        rintro e w ⟨rfl, rfl⟩
        go_wp2_with fail
        go_round
        case rel => exact ⟨k + 1, by omega, by omega, by go_num, by rw [HG.out, ← HM1.out, hE2.out]⟩
        case measure => simp [intOf]; omega
      · have hs : ¬ (sg X M < 0) := by unfold sg; rw [if_neg hlt]; split <;> omega
        have hE2 : Hid (M1 = M) := Lib.hid (by rw [HST.out, if_neg hlt])
        have HC := Lib.hid fun w => cmp_any X M w
        generalize sg X M = S at *
        clear hlt HST
        go_wp2_with fail
        refine (HC.out _).mono ?_
        rintro e w ⟨rfl, rfl⟩
        go_wp2_with fail
        go_round
        case rel => exact ⟨k + 1, by omega, by omega, by go_num, by rw [HG.out, ← HM1.out, hE2.out]⟩
        case measure => simp [intOf]; omega
    · obtain rfl : k = n := by omega
      have hF := Lib.hid (HF.out (k - 1) rfl)
      go_wp2_with fail
      go_ret
      exact ⟨congrArg (fun x => Ending.returned (.int .i64 x)) hF.out, rfl⟩

end Go.Proofs.Ytpphihjbgikjkaa
