/- slices.SortFunc at lists of sets: they lie in order. The contracts of cmp.Compare at int, of slices.Compare at rows of numbers and of the closure of impl.setsInOrder. -/
import Derived.Test.YtpphihjbgikjkaaIvk
import Derived.Test.YtpphihjbgikjkaaIcm
import Derived.Test.YtpphihjbgikjkaaSlyr
import Derived.Test.YtpphihjbgikjkaaTrw
import Derived.Test.YtpphihjbgikjkaaPcl
import Derived.Test.YtpphihjbgikjkaaTurn
namespace Go.Proofs.Ytpphihjbgikjkaa
open Go Go.RowKit

theorem isNaNi_any (a : Int) (w : World) :
    Calls Try.prog 88 #[.int .i64 a] w fun e w' => e = .returned (.bool false) ∧ w' = w := by
  go_enter Try.func88, Try.ntmps88
  go_wp2_with fail
  go_ret
  exact ⟨by simp, rfl⟩

theorem cmpi_any (a b : Int) (w : World) :
    Calls Try.prog 69 #[.int .i64 a, .int .i64 b] w fun e w' => e = .returned (.int .i64 (sg a b)) ∧ w' = w := by
  have h1 := isNaNi_any a w
  have h2 := isNaNi_any b w
  by_cases ha : a < b
  · have e : sg a b = -1 := by unfold sg; rw [if_pos ha]
    rw [e]; clear e
    go_enter Try.func69, Try.ntmps69
    go_wp2_with fail
    go_at_call 88; refine h1.mono ?_; rintro e w' ⟨rfl, rfl⟩
    go_wp2_with fail
    go_at_call 88; refine h2.mono ?_; rintro e w' ⟨rfl, rfl⟩
    go_wp2_with fail
    go_ret
    exact ⟨rfl, rfl⟩
  · by_cases hb : b < a
    · have e : sg a b = 1 := by unfold sg; rw [if_neg ha, if_pos hb]
      rw [e]; clear e
      go_enter Try.func69, Try.ntmps69
      go_wp2_with fail
      go_at_call 88; refine h1.mono ?_; rintro e w' ⟨rfl, rfl⟩
      go_wp2_with fail
      go_at_call 88; refine h2.mono ?_; rintro e w' ⟨rfl, rfl⟩
      go_wp2_with fail
      go_ret
      exact ⟨rfl, rfl⟩
    · have e : sg a b = 0 := by unfold sg; rw [if_neg ha, if_neg hb]
      rw [e]; clear e
      go_enter Try.func69, Try.ntmps69
      go_wp2_with fail
      go_at_call 88; refine h1.mono ?_; rintro e w' ⟨rfl, rfl⟩
      go_wp2_with fail
      go_at_call 88; refine h2.mono ?_; rintro e w' ⟨rfl, rfl⟩
      go_wp2_with fail
      go_ret
      exact ⟨rfl, rfl⟩

/-- Lists compared. -/
def lexC : List Int → List Int → Int
  | [], [] => 0
  | [], _ :: _ => -1
  | _ :: _, [] => 1
  | x :: l, y :: m => if sg x y = 0 then lexC l m else sg x y
/-- Lists compared by their lengths, and then by their numbers. -/
def keyC (A B : List Int) : Int := orV (sg A.length B.length) (lexC A B)
theorem key_ky : ∀ a, a < 32 → ∀ b, b < 32 → decide (keyC (lsT a) (lsT b) < 0) = decide (kyT a < kyT b) := by decide +kernel

theorem lexC_step {A B : List Int} {k : Nat} (hA : k < A.length) (hB : k < B.length) : lexC (A.drop k) (B.drop k) = if sg (A.getD k 0) (B.getD k 0) = 0 then lexC (A.drop (k + 1)) (B.drop (k + 1)) else sg (A.getD k 0) (B.getD k 0) := by
  rw [List.drop_eq_getElem_cons hA, List.drop_eq_getElem_cons hB, List.getD_eq_getElem?_getD, List.getD_eq_getElem?_getD, List.getElem?_eq_getElem hA, List.getElem?_eq_getElem hB]
  rfl
theorem lexC_one {A B : List Int} {k : Nat} (hA : k < A.length) (hB : B.length ≤ k) : lexC (A.drop k) (B.drop k) = 1 := by
  rw [List.drop_eq_getElem_cons hA, List.drop_of_length_le hB]
  rfl
theorem lexC_end {A B : List Int} : lexC (A.drop A.length) (B.drop A.length) = if A.length < B.length then -1 else 0 := by
  rw [List.drop_of_length_le (Nat.le_refl _)]
  by_cases h : A.length < B.length
  · rw [if_pos h, List.drop_eq_getElem_cons h]; rfl
  · rw [if_neg h, List.drop_of_length_le (by omega)]; rfl

set_option maxRecDepth 100000 in
set_option maxHeartbeats 4000000 in
theorem scp_any (A B : List Int) (hA : A.length ≤ 1000) (hB : B.length ≤ 1000) (a1 a2 : Option Addr) (c1 c2 : Nat) (w : World) (h1 : InRow w a1 A) (h2 : InRow w a2 B) :
    Calls Try.prog 70 #[.slice a1 A.length c1, .slice a2 B.length c2] w fun e w' => e = .returned (.int .i64 (lexC A B)) ∧ w' = w := by
  obtain ⟨R, hR⟩ : ∃ R, R = lexC A B := ⟨_, rfl⟩
  have HR : Hid (R = lexC (A.drop 0) (B.drop 0)) := Lib.hid (by rw [hR]; rfl)
  rw [← hR]
  clear hR
  have H1 := Lib.hid h1
  have H2 := Lib.hid h2
  have HC := Lib.hid fun x y w => cmp_any x y w
  clear h1 h2
  obtain ⟨la, hla⟩ : ∃ la, la = A.length := ⟨_, rfl⟩
  obtain ⟨lb, hlb⟩ : ∃ lb, lb = B.length := ⟨_, rfl⟩
  have HLA := Lib.hid hla
  have HLB := Lib.hid hlb
  rw [← hla, ← hlb]
  rw [← hla] at hA
  rw [← hlb] at hB
  clear hla hlb
  go_enter Try.func70, Try.ntmps70
  go_wp2_with fail
  go_loopw [5, 6, 7, 8, 11] (fun _ _ _ _ i wr => ∃ k : Nat, k ≤ la ∧ i = .int .i64 (k : Int) ∧ R = lexC (A.drop k) (B.drop k) ∧ k ≤ lb ∧ wr = w) (fun _ _ _ _ i _ => la - (intOf i).toNat)
  case atStart => exact ⟨0, by omega, rfl, HR.out, by omega, rfl⟩
  case round =>
    obtain ⟨k, hk, rfl, hr, hkb, hwr⟩ := hrel
    subst hwr
    have HRK := Lib.hid hr
    clear hr
    by_cases hka : k < la
    · have hka' : (k : Int) < (la : Int) := by omega
      obtain ⟨b1, o1, rfl, hl1, hc1⟩ := H1.out.resolve_left (fun e => by have := HLA.out; rw [e] at this; simp at this; omega)
      have e1 := hc1 k (by rw [← HLA.out]; exact hka)
      clear hc1
      by_cases hkb2 : k < lb
      · have hkb' : ¬ ((k : Int) ≥ (lb : Int)) := by omega
        have hkb'' : (k : Int) < (lb : Int) := by omega
        obtain ⟨b2, o2, rfl, hl2, hc2⟩ := H2.out.resolve_left (fun e => by have := HLB.out; rw [e] at this; simp at this; omega)
        have e2 := hc2 k (by rw [← HLB.out]; exact hkb2)
        have HST := Lib.hid (lexC_step (A := A) (B := B) (k := k) (by rw [← HLA.out]; exact hka) (by rw [← HLB.out]; exact hkb2))
        clear hc2
        generalize A.getD k 0 = X at *
        generalize B.getD k 0 = Y at *
        by_cases hz : sg X Y = 0
        · have HST2 : Hid (R = lexC (A.drop (k + 1)) (B.drop (k + 1))) := Lib.hid (by rw [HRK.out, HST.out, if_pos hz])
          have HC2 := Lib.hid fun w => HC.out X Y w
          rw [hz] at HC2
          clear hz HST
          go_wp2_with fail
          refine (HC2.out _).mono ?_
          rintro e wr ⟨rfl, rfl⟩
          go_wp2_with fail
          go_roundw
          case rel => exact ⟨k + 1, by omega, by go_num, HST2.out, by omega, by trivial⟩
          case measure => simp [intOf]; omega
        · have HST2 : Hid (R = sg X Y) := Lib.hid (by rw [HRK.out, HST.out, if_neg hz])
          have HC2 := Lib.hid fun w => HC.out X Y w
          have hne : (sg X Y != 0) = true := by simpa using hz
          clear hz HST
          generalize sg X Y = Z at *
          go_wp2_with fail
          refine (HC2.out _).mono ?_
          rintro e wr ⟨rfl, rfl⟩
          go_wp2_with fail
          go_ret
          exact ⟨by rw [HST2.out]; rfl, rfl⟩
      · have hkb' : (k : Int) ≥ (lb : Int) := by omega
        have HON : Hid (R = 1) := Lib.hid (by rw [HRK.out]; exact lexC_one (by rw [← HLA.out]; exact hka) (by rw [← HLB.out]; omega))
        generalize A.getD k 0 = X at *
        go_wp2_with fail
        go_ret
        exact ⟨by rw [HON.out]; rfl, rfl⟩
    · obtain rfl : k = la := by omega
      have hka' : ¬ ((k : Int) < (k : Int)) := by omega
      have HEN : Hid (R = if k < lb then -1 else 0) := Lib.hid (by
        rw [HRK.out, HLA.out, HLB.out]
        exact lexC_end)
      by_cases hlt : k < lb
      · have hlt' : (k : Int) < (lb : Int) := by omega
        have HE2 := HEN.out
        rw [if_pos hlt] at HE2
        have HE2 := Lib.hid HE2
        go_wp2_with fail
        go_ret
        exact ⟨by first | rfl | (rw [HE2.out]; rfl), rfl⟩
      · have hlt' : ¬ ((k : Int) < (lb : Int)) := by omega
        have HE2 := HEN.out
        rw [if_neg hlt] at HE2
        have HE2 := Lib.hid HE2
        go_wp2_with fail
        go_ret
        exact ⟨by first | rfl | (rw [HE2.out]; rfl), rfl⟩

set_option maxRecDepth 100000 in
set_option maxHeartbeats 4000000 in
theorem sio_any (A B : List Int) (hA : A.length ≤ 1000) (hB : B.length ≤ 1000) (a1 a2 : Option Addr) (c1 c2 : Nat) (w : World) (h1 : InRow w a1 A) (h2 : InRow w a2 B) :
    Calls Try.prog 67 #[.slice a1 A.length c1, .slice a2 B.length c2] w fun e w' => e = .returned (.int .i64 (keyC A B)) ∧ ∃ o, w' = w.alloc o := by
  have HC := Lib.hid fun w => cmpi_any (A.length : Int) (B.length : Int) w
  have HS := Lib.hid (scp_any A B hA hB a1 a2 c1 c2 w h1 h2)
  unfold keyC
  generalize lexC A B = X at *
  generalize sg (A.length : Int) (B.length : Int) = Y at *
  have HO := Lib.hid fun (w : World) h0 h1 => or_any Y X w.heap.size (w.alloc (.cells #[.int .i64 Y, .int .i64 X] 3)) h0 h1
  have hov : orV Y X = if Y = 0 then X else Y := rfl
  rw [← hov] at HO
  clear hov
  generalize orV Y X = V at *
  clear h1 h2
  go_enter Try.func67, Try.ntmps67
  go_wp2_with fail
  refine (HC.out _).mono ?_
  rintro e w ⟨rfl, rfl⟩
  go_wp2_with fail
  refine HS.out.mono ?_
  rintro e w ⟨rfl, rfl⟩
  go_wp2_with fail
  refine (HO.out w (Joins.cell_of_block (halloc_at _ _ _ rfl) 0) (Joins.cell_of_block (halloc_at _ _ _ rfl) 1)).mono ?_
  rintro e w7 ⟨rfl, rfl⟩
  go_wp2_with fail
  go_ret
  exact ⟨rfl, _, rfl⟩

end Go.Proofs.Ytpphihjbgikjkaa
