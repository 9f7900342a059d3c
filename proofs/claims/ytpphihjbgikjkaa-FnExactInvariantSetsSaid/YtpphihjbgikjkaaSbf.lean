/- The contract of spec.l10Before. -/
import Derived.Test.YtpphihjbgikjkaaIvk
import Derived.Test.YtpphihjbgikjkaaPoints
namespace Go.Proofs.Ytpphihjbgikjkaa
open Go Go.RowKit

theorem lexB_step {A B : List Int} {k : Nat} (hA : k < A.length) (hB : k < B.length) : lexB (A.drop k) (B.drop k) = if A.getD k 0 = B.getD k 0 then lexB (A.drop (k + 1)) (B.drop (k + 1)) else decide (A.getD k 0 < B.getD k 0) := by
  rw [List.drop_eq_getElem_cons hA, List.drop_eq_getElem_cons hB, List.getD_eq_getElem?_getD, List.getD_eq_getElem?_getD, List.getElem?_eq_getElem hA, List.getElem?_eq_getElem hB]
  rfl
theorem lexB_end {A B : List Int} (h : A.length = B.length) : lexB (A.drop A.length) (B.drop A.length) = false := by
  rw [List.drop_of_length_le (Nat.le_refl _), List.drop_of_length_le (by omega)]
  rfl

set_option maxRecDepth 100000 in
set_option maxHeartbeats 4000000 in
theorem sbef_any (a b : Nat) (ha : a < 32) (hb : b < 32) (w : World) :
    Calls Try.prog 64 #[.int .i64 (a : Int), .int .i64 (b : Int)] w fun e w' => e = .returned (.bool (bfB a b)) ∧ Below w.heap.size w w' := by
  have HA := Lib.hid fun w => spoints_any (btF a) w
  have HB := Lib.hid fun w => spoints_any (btF b) w
  rw [bt_mask a ha, show asc (btF a) = lsT a from rfl] at HA
  rw [bt_mask b hb, show asc (btF b) = lsT b from rfl] at HB
  have HLA := Lib.hid (lsT_len a)
  have HLB := Lib.hid (lsT_len b)
  unfold bfB
  generalize lsT a = A at *
  generalize lsT b = B at *
  obtain ⟨la, hla⟩ : ∃ la, la = A.length := ⟨_, rfl⟩
  obtain ⟨lb, hlb⟩ : ∃ lb, lb = B.length := ⟨_, rfl⟩
  have HEA := Lib.hid hla
  have HEB := Lib.hid hlb
  rw [← hla, ← hlb]
  have hla5 : la ≤ 5 := by rw [hla]; exact HLA.out
  have hlb5 : lb ≤ 5 := by rw [hlb]; exact HLB.out
  clear hla hlb
  by_cases hll : la = lb
  · subst hll
    rw [if_pos rfl]
    have HR0 : Hid (lexB A B = lexB (A.drop 0) (B.drop 0)) := Lib.hid rfl
    generalize lexB A B = R at *
    go_enter Try.func64, Try.ntmps64
    go_wp2_with fail
    refine (HA.out _).mono ?_
    rintro e w1 ⟨v1, rfl, hown, hb1⟩
    obtain ⟨a1, c1, rfl, hrd⟩ := own_rd hown (by have := HLA.out; omega)
    rw [← HEA.out]
    have HI1 := Lib.hid hrd.inRow
    have HB1 := Lib.hid hb1
    clear hown hrd hb1
    go_wp2_with fail
    refine (HB.out _).mono ?_
    rintro e w2 ⟨v2, rfl, hown, hb2⟩
    obtain ⟨a2, c2, rfl, hrd⟩ := own_rd hown (by have := HLB.out; omega)
    rw [← HEB.out]
    have HI2 := Lib.hid hrd.inRow
    have HI1b := Lib.hid (HI1.out.below hb2)
    have HB2 : Hid (Below w.heap.size w w2) := Lib.hid (HB1.out.trans (hb2.mono HB1.out.size))
    clear hown hrd hb2
    have hne : ((la : Int) != (la : Int)) = false := by simp
    go_wp2_with fail
    go_loopw [7] (fun i wr => ∃ k d : Nat, k ≤ la ∧ i = .int .i64 (k : Int) ∧ R = lexB (A.drop k) (B.drop k) ∧ wr = w2.drewN d) (fun i _ => la - (intOf i).toNat)
    case atStart => exact ⟨0, 0, by omega, rfl, HR0.out, by cases w2; simp [World.drewN]⟩
    case round =>
      obtain ⟨k, d, hk, rfl, hr, hwr⟩ := hrel
      rw [hwr]
      clear hwr hne
      have HRK := Lib.hid hr
      clear hr
      by_cases hka : k < la
      · have hka' : (k : Int) < (la : Int) := by omega
        have hkA : k < A.length := by rw [← HEA.out]; exact hka
        have hkB : k < B.length := by rw [← HEB.out]; exact hka
        obtain ⟨b1, o1, rfl, hl1, hc1⟩ := HI1b.out.resolve_left (fun e => by rw [e] at hkA; simp at hkA)
        obtain ⟨b2, o2, rfl, hl2, hc2⟩ := HI2.out.resolve_left (fun e => by rw [e] at hkB; simp at hkB)
        have e1 := hc1 k hkA
        have e2 := hc2 k hkB
        have HST := Lib.hid (lexB_step hkA hkB)
        clear hc1 hc2 hkA hkB
        generalize A.getD k 0 = X at *
        generalize B.getD k 0 = Y at *
        by_cases hz : X = Y
        · have HST2 : Hid (R = lexB (A.drop (k + 1)) (B.drop (k + 1))) := Lib.hid (by rw [HRK.out, HST.out, if_pos hz])
          subst hz
          have hxx : (X != X) = false := by simp
          clear HST
          go_wp2_with fail
          go_quiet (fail)
          go_wp2_with fail
          go_roundw
          case rel => exact ⟨k + 1, d + nq, by omega, by go_num, HST2.out, by simp⟩
          case measure => simp [intOf]; omega
        · have HST2 : Hid (R = decide (X < Y)) := Lib.hid (by rw [HRK.out, HST.out, if_neg hz])
          have hne : (X != Y) = true := by simpa using hz
          clear hz HST
          go_wp2_with fail
          go_quiet (fail)
          go_wp2_with fail
          go_quiet (fail)
          go_wp2_with fail
          go_ret
          exact ⟨by rw [HST2.out]; rfl, below_drewN (below_drewN (below_drewN HB2.out _) _) _⟩
      · obtain rfl : k = la := by omega
        have hka' : ¬ ((k : Int) < (k : Int)) := by omega
        have HEN : Hid (R = false) := Lib.hid (by
          rw [HRK.out, HEA.out]
          exact lexB_end (by rw [← HEA.out, ← HEB.out]))
        go_wp2_with fail
        go_ret
        exact ⟨by rw [HEN.out]; rfl, below_drewN HB2.out _⟩
  · rw [if_neg hll]
    have hne : ((la : Int) != (lb : Int)) = true := by simp; omega
    have hd : decide ((la : Int) < (lb : Int)) = decide (la < lb) := decide_eq_decide.2 (by omega)
    have HD := Lib.hid hd
    clear hll hd
    go_enter Try.func64, Try.ntmps64
    go_wp2_with fail
    refine (HA.out _).mono ?_
    rintro e w1 ⟨v1, rfl, hown, hb1⟩
    obtain ⟨a1, c1, rfl, hrd⟩ := own_rd hown (by have := HLA.out; omega)
    rw [← HEA.out]
    have HB1 := Lib.hid hb1
    clear hown hrd hb1
    go_wp2_with fail
    refine (HB.out _).mono ?_
    rintro e w2 ⟨v2, rfl, hown, hb2⟩
    obtain ⟨a2, c2, rfl, hrd⟩ := own_rd hown (by have := HLB.out; omega)
    rw [← HEB.out]
    have HB2 : Hid (Below w.heap.size w w2) := Lib.hid (HB1.out.trans (hb2.mono HB1.out.size))
    clear hown hrd hb2
    go_wp2_with fail
    go_ret
    exact ⟨by first | rw [HD.out] | rfl, HB2.out⟩
end Go.Proofs.Ytpphihjbgikjkaa
