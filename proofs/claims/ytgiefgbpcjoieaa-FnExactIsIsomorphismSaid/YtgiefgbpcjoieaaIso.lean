/- The contracts of IsIsomorphism on both sides. -/
import Derived.Test.YtgiefgbpcjoieaaOrd8
namespace Go.Proofs.Ytgiefgbpcjoieaa
open Go.RowKit

def px (X : List Int) (i : Nat) : Nat := (X.getD i 0).toNat
def isoB (n : Nat) (mu nu : Nat → Nat → Nat) (x : Nat → Nat) : Bool := decide (∀ i, i < n → ∀ k, k < n → x (mu i k) = nu (x i) (x k))
def isoC (A B : List (List Int)) (X : List Int) : Int := if tblB A = true then (if tblB B = true then (if A.length = B.length then (if ordB A.length X = true then 0 else 2) else 2) else 2) else 2
def isoV (A B : List (List Int)) (X : List Int) : Value := .tuple #[.bool (decide (isoC A B X = 0) && isoB A.length (mp A) (mp B) (px X)), .int .i64 (isoC A B X)]
theorem isoV_bad {A B : List (List Int)} {X : List Int} (h : isoC A B X = 2) : isoV A B X = .tuple #[.bool false, .int .i64 2] := by unfold isoV; rw [h]; rfl
theorem isoV_good {A B : List (List Int)} {X : List Int} (h : isoC A B X = 0) : isoV A B X = .tuple #[.bool (isoB A.length (mp A) (mp B) (px X)), .int .i64 0] := by unfold isoV; rw [h]; rfl
theorem isoC_a {A B : List (List Int)} {X : List Int} (h : tblB A = false) : isoC A B X = 2 := by unfold isoC; rw [h]; rfl
theorem isoC_b {A B : List (List Int)} {X : List Int} (h : tblB A = true) (h2 : tblB B = false) : isoC A B X = 2 := by unfold isoC; rw [h, h2]; rfl
theorem isoC_n {A B : List (List Int)} {X : List Int} (h : tblB A = true) (h2 : tblB B = true) (h3 : A.length ≠ B.length) : isoC A B X = 2 := by unfold isoC; rw [if_pos h, if_pos h2, if_neg h3]
theorem isoC_o {A B : List (List Int)} {X : List Int} (h : tblB A = true) (h2 : tblB B = true) (h3 : A.length = B.length) (h4 : ordB A.length X = false) : isoC A B X = 2 := by unfold isoC; rw [if_pos h, if_pos h2, if_pos h3, h4]; rfl
theorem isoC_0 {A B : List (List Int)} {X : List Int} (h : tblB A = true) (h2 : tblB B = true) (h3 : A.length = B.length) (h4 : ordB A.length X = true) : isoC A B X = 0 := by unfold isoC; rw [if_pos h, if_pos h2, if_pos h3, if_pos h4]

theorem isoB_false {n : Nat} {mu nu : Nat → Nat → Nat} {x : Nat → Nat} {i k : Nat} (hi : i < n) (hk : k < n) (h : x (mu i k) ≠ nu (x i) (x k)) : isoB n mu nu x = false := by
  unfold isoB
  rw [decide_eq_false_iff_not]
  exact fun hh => h (hh i hi k hk)

theorem isoB_true {n : Nat} {mu nu : Nat → Nat → Nat} {x : Nat → Nat} (h : ∀ i, i < n → ∀ k, k < n → x (mu i k) = nu (x i) (x k)) : isoB n mu nu x = true := by
  unfold isoB
  rw [decide_eq_true_eq]
  exact h

def isoK (n : Nat) (mu nu : Nat → Nat → Nat) (x : Nat → Nat) (i k : Nat) : Prop := (∀ a, a < i → ∀ b, b < n → x (mu a b) = nu (x a) (x b)) ∧ ∀ b, b < k → x (mu i b) = nu (x i) (x b)
theorem isoK_zero (n : Nat) (mu nu : Nat → Nat → Nat) (x : Nat → Nat) : isoK n mu nu x 0 0 := ⟨fun a h => by omega, fun b h => by omega⟩
theorem isoK_row {n : Nat} {mu nu : Nat → Nat → Nat} {x : Nat → Nat} {i : Nat} (h : isoK n mu nu x i n) : isoK n mu nu x (i + 1) 0 :=
  ⟨fun a ha b hb => by
    by_cases e : a = i
    · subst e; exact h.2 b hb
    · exact h.1 a (by omega) b hb, fun b h => by omega⟩
theorem isoK_one {n : Nat} {mu nu : Nat → Nat → Nat} {x : Nat → Nat} {i k : Nat} (h : isoK n mu nu x i k) (e : x (mu i k) = nu (x i) (x k)) : isoK n mu nu x i (k + 1) :=
  ⟨h.1, fun b hb => by
    by_cases q : b = k
    · subst q; exact e
    · exact h.2 b (by omega)⟩

/-- A list of numbers below n in memory. -/
structure Pxi (w : World) (b off n : Nat) (x : Nat → Nat) : Prop where
  lt : b < w.heap.size
  val : ∀ i, i < n → w.cell? ⟨b, off + i, none⟩ = some (.int .i64 (x i : Nat))
  mlt : ∀ i, i < n → x i < n

theorem Pxi.below {w w' : World} {b off n : Nat} {x : Nat → Nat} (h : Pxi w b off n x) (hb : Below w.heap.size w w') : Pxi w' b off n x :=
  ⟨Nat.lt_of_lt_of_le h.lt hb.size, fun i hi => (hb.cell (p := ⟨b, off + i, none⟩) h.lt).trans (h.val i hi), h.mlt⟩

theorem InRow.pxi {w : World} {a : Option Addr} {X : List Int} {n : Nat} (h : InRow w a X) (hn : 1 ≤ n) (ho : ordB n X = true) : ∃ b off, a = some ⟨b, off, none⟩ ∧ Pxi w b off n (px X) := by
  obtain ⟨hl, hb⟩ := ordB_at ho
  obtain ⟨b, off, ha, hlt, hc⟩ := h.resolve_left (fun e => by rw [e] at hl; simp at hl; omega)
  refine ⟨b, off, ha, hlt, fun i hi => ?_, fun i hi => ?_⟩
  · have := belB_at hb i (by omega)
    rw [hc i (by omega)]
    unfold px
    rw [show ((X.getD i 0).toNat : Int) = X.getD i 0 by omega]
  · have := belB_at hb i (by omega)
    unfold px
    omega

set_option maxRecDepth 100000 in
set_option maxHeartbeats 4000000 in
theorem sIso_any (A : List (List Int)) (hn : A.length ≤ 1048576) (hl : ∀ j, j < A.length → (A.getD j []).length ≤ 1048576) (B : List (List Int)) (hn2 : B.length ≤ 1048576) (hl2 : ∀ j, j < B.length → (B.getD j []).length ≤ 1048576) (X : List Int) (_ : X.length ≤ 1048576) (a1 : Option Addr) (c1 : Nat) (a2 : Option Addr) (c2 : Nat) (a3 : Option Addr) (c3 : Nat) (w : World) (h1 : InRowL w a1 A) (h2 : InRowL w a2 B) (h3 : InRow w a3 X) :
    Calls Try.prog 51 #[.slice a1 A.length c1, .slice a2 B.length c2, .slice a3 X.length c3] w fun e w' => e = .returned (isoV A B X) ∧ Below w.heap.size w w' := by
  have HA := Lib.hid (sis8_any A hn hl a1 c1 w h1)
  have HB := Lib.hid fun wx (hb : Below w.heap.size w wx) => sis8_any B hn2 hl2 a2 c2 wx (h2.below hb)
  cases hA : tblB A
  · have HV := Lib.hid (isoV_bad (isoC_a (B := B) (X := X) hA))
    rw [hA] at HA
    clear hA h1 h2 h3 hl hl2
    go_enter Try.func51, Try.ntmps51
    go_wp2_with fail
    refine HA.out.mono ?_
    rintro e w1 ⟨rfl, hb⟩
    have HB1 := Lib.hid hb
    have hz1 := hb.size
    clear hb
    go_wp2_with fail
    go_ret2
    exact ⟨congrArg Ending.returned HV.out.symm, HB1.out⟩
  cases hB : tblB B
  · have HV := Lib.hid (isoV_bad (isoC_b (X := X) hA hB))
    rw [hA] at HA
    rw [hB] at HB
    clear hA hB h1 h2 h3 hl hl2
    go_enter Try.func51, Try.ntmps51
    go_wp2_with fail
    refine HA.out.mono ?_
    rintro e w1 ⟨rfl, hb⟩
    have HB1 := Lib.hid hb
    have hz1 := hb.size
    clear hb
    go_wp2_with fail
    refine (HB.out _ HB1.out).mono ?_
    rintro e w2 ⟨rfl, hb⟩
    have HB2 := Lib.hid (HB1.out.trans (hb.mono hz1))
    have hz2 := HB2.out.size
    clear hb
    go_wp2_with fail
    go_ret2
    exact ⟨congrArg Ending.returned HV.out.symm, HB2.out⟩
  by_cases hN : A.length = B.length
  rotate_left
  · have HV := Lib.hid (isoV_bad (isoC_n (X := X) hA hB hN))
    have hq : ((A.length : Int) != (B.length : Int)) = true := by simp; omega
    have hq2 : ¬ ((A.length : Int) = (B.length : Int)) := by omega
    rw [hA] at HA
    rw [hB] at HB
    clear hA hB h1 h2 h3 hl hl2 hN
    go_enter Try.func51, Try.ntmps51
    go_wp2_with fail
    refine HA.out.mono ?_
    rintro e w1 ⟨rfl, hb⟩
    have HB1 := Lib.hid hb
    have hz1 := hb.size
    clear hb
    go_wp2_with fail
    refine (HB.out _ HB1.out).mono ?_
    rintro e w2 ⟨rfl, hb⟩
    have HB2 := Lib.hid (HB1.out.trans (hb.mono hz1))
    have hz2 := HB2.out.size
    clear hb
    go_wp2_with fail
    go_ret2
    exact ⟨congrArg Ending.returned HV.out.symm, HB2.out⟩
  have HN := tblB_n hA
  have HO := Lib.hid fun wx (hb : Below w.heap.size w wx) => sord_any A.length HN.1 HN.2 X a3 c3 wx (h3.below hb)
  cases hO : ordB A.length X
  · have HV := Lib.hid (isoV_bad (isoC_o hA hB hN hO))
    rw [hA] at HA
    rw [hB] at HB
    rw [hO] at HO
    rw [← hN] at HB ⊢
    clear hA hB hO h1 h2 h3 hl hl2 hN
    go_enter Try.func51, Try.ntmps51
    go_wp2_with fail
    refine HA.out.mono ?_
    rintro e w1 ⟨rfl, hb⟩
    have HB1 := Lib.hid hb
    have hz1 := hb.size
    clear hb
    go_wp2_with fail
    refine (HB.out _ HB1.out).mono ?_
    rintro e w2 ⟨rfl, hb⟩
    have HB2 := Lib.hid (HB1.out.trans (hb.mono hz1))
    have hz2 := HB2.out.size
    clear hb
    go_wp2_with fail
    refine (HO.out _ HB2.out).mono ?_
    rintro e w3 ⟨rfl, hb⟩
    have HB3 := Lib.hid (HB2.out.trans (hb.mono hz2))
    clear hb
    go_wp2_with fail
    go_ret2
    exact ⟨congrArg Ending.returned HV.out.symm, HB3.out⟩
  have hv := isoV_good (isoC_0 hA hB hN hO)
  have hTA := h1.tbl hA
  have hTB := h2.tbl hB
  obtain ⟨b3, off3, rfl, hP⟩ := h3.pxi HN.1 hO
  have hXl := (ordB_at hO).1
  rw [hA] at HA
  rw [hB] at HB
  rw [hO] at HO
  rw [← hN] at HB hTB ⊢
  rw [hXl] at HO ⊢
  clear hA hB hO h1 h2 h3 hl hl2 hN hn hn2 hXl
  generalize A.length = n at *
  generalize mp A = mu at *
  generalize mp B = nu at *
  generalize px X = x at *
  have HV := Lib.hid hv
  clear hv
  obtain ⟨b1, off1, g1, r1, d1, rfl, hT1⟩ := hTA
  obtain ⟨b2, off2, g2, r2, d2, rfl, hT2⟩ := hTB
  have HT1 := Lib.hid hT1
  have HT2 := Lib.hid hT2
  have HP := Lib.hid hP
  have hn40 := HN.2
  clear hT1 hT2 hP HN
  go_enter Try.func51, Try.ntmps51
  go_wp2_with fail
  refine HA.out.mono ?_
  rintro e w1 ⟨rfl, hb⟩
  have HB1 := Lib.hid hb
  have hz1 := hb.size
  clear hb
  go_wp2_with fail
  refine (HB.out _ HB1.out).mono ?_
  rintro e w2 ⟨rfl, hb⟩
  have HB2 := Lib.hid (HB1.out.trans (hb.mono hz1))
  have hz2 := HB2.out.size
  clear hb
  go_wp2_with fail
  refine (HO.out _ HB2.out).mono ?_
  rintro e w3 ⟨rfl, hb⟩
  have HB3 := Lib.hid (HB2.out.trans (hb.mono hz2))
  clear hb
  go_wp2_with fail
  go_loopw [8, 9] (fun i _ wr => ∃ k : Nat, k ≤ n ∧ i = .int .i64 k ∧ isoK n mu nu x k 0 ∧ Below w.heap.size w wr) (fun i _ _ => n - (intOf i).toNat)
  case atStart => exact ⟨0, by omega, rfl, isoK_zero n mu nu x, HB3.out⟩
  case round =>
    obtain ⟨k, hk, rfl, hok, hb⟩ := hrel
    have HBR := Lib.hid hb
    have HOK := Lib.hid hok
    clear hb hok
    obtain ⟨wo, hwo⟩ : ∃ wo, wo = wr := ⟨_, rfl⟩
    subst hwo
    by_cases hkl : k < n
    · have hkl' : (k : Int) < (n : Int) := by omega
      have e1 := (HT1.out.below HBR.out).row k hkl
      go_wp2_with fail
      go_loopw [9] (fun i wr => ∃ j : Nat, j ≤ n ∧ i = .int .i64 j ∧ isoK n mu nu x k j ∧ Below w.heap.size w wr) (fun i _ => n - (intOf i).toNat)
      case atStart => exact ⟨0, by omega, rfl, HOK.out, HBR.out⟩
      case round =>
        clear e1
        obtain ⟨j, hj, rfl, hok2, hb2⟩ := hrel
        have HB4 := Lib.hid hb2
        have HOK2 := Lib.hid hok2
        clear hb2 hok2
        by_cases hjl : j < n
        · have hjl' : (j : Int) < (n : Int) := by omega
          have hT := HT1.out.below HB4.out
          have hU := HT2.out.below HB4.out
          have hP := HP.out.below HB4.out
          have m1 := hT.mlt k j hkl hjl
          have m2 := hP.mlt k hkl
          have m3 := hP.mlt j hjl
          have e1 := hT.row k hkl
          have e2 := hT.val k j hkl hjl
          have e3 := hP.val _ m1
          have e4 := hP.val k hkl
          have e5 := hP.val j hjl
          have e6 := hU.row _ m2
          have e7 := hU.val _ _ m2 m3
          have HF := Lib.hid fun h => isoB_false (mu := mu) (nu := nu) (x := x) hkl hjl h
          have HONE := Lib.hid fun h => isoK_one HOK2.out h
          clear hT hU hP
          obtain ⟨Z1, hZ1⟩ : ∃ Z1, Z1 = x (mu k j) := ⟨_, rfl⟩
          obtain ⟨Z2, hZ2⟩ : ∃ Z2, Z2 = nu (x k) (x j) := ⟨_, rfl⟩
          rw [← hZ1] at e3 HF HONE
          rw [← hZ2] at e7 HF HONE
          clear hZ1 hZ2
          generalize mu k j = X1 at *
          generalize x k = X2 at *
          generalize x j = X3 at *
          have m1' : (X1 : Int) < (n : Int) := by omega
          have m2' : (X2 : Int) < (n : Int) := by omega
          have m3' : (X3 : Int) < (n : Int) := by omega
          by_cases hz : Z1 = Z2
          · have HNX := Lib.hid (HONE.out hz)
            subst hz
            clear HF HONE
            go_wp2_with fail
            go_quiet (fail)
            go_wp2_with fail
            go_roundw
            case rel => exact ⟨j + 1, by omega, by go_num, HNX.out, below_drewN HB4.out _⟩
            case measure => simp [intOf]; omega
          · have HNX : Hid (isoV A B X = .tuple #[.bool false, .int .i64 0]) := Lib.hid (by rw [HV.out, HF.out hz])
            have hq : ((Z1 : Int) != (Z2 : Int)) = true := by simp; omega
            have hq2 : ¬ ((Z1 : Int) = (Z2 : Int)) := by omega
            clear HF HONE hz
            go_wp2_with fail
            go_quiet (fail)
            go_wp2_with fail
            go_ret2
            exact ⟨congrArg Ending.returned HNX.out.symm, below_drewN HB4.out _⟩
        · obtain rfl : j = n := by omega
          have HNX := Lib.hid (isoK_row HOK2.out)
          go_wp2_with fail
          go_roundw
          case rel => exact ⟨k + 1, by omega, by go_num, HNX.out, HB4.out⟩
          case measure => simp [intOf]; omega
    · obtain rfl : k = n := by omega
      have HNX : Hid (isoV A B X = .tuple #[.bool true, .int .i64 0]) := Lib.hid (by rw [HV.out, isoB_true HOK.out.1])
      go_wp2_with fail
      go_ret2
      exact ⟨congrArg Ending.returned HNX.out.symm, HBR.out⟩

set_option maxRecDepth 100000 in
set_option maxHeartbeats 4000000 in
theorem iIso_any (A : List (List Int)) (hn : A.length ≤ 1048576) (hl : ∀ j, j < A.length → (A.getD j []).length ≤ 1048576) (B : List (List Int)) (hn2 : B.length ≤ 1048576) (hl2 : ∀ j, j < B.length → (B.getD j []).length ≤ 1048576) (X : List Int) (hX : X.length ≤ 1048576) (a1 : Option Addr) (c1 : Nat) (a2 : Option Addr) (c2 : Nat) (a3 : Option Addr) (c3 : Nat) (w : World) (h1 : InRowL w a1 A) (h2 : InRowL w a2 B) (h3 : InRow w a3 X) :
    Calls Try.prog 53 #[.slice a1 A.length c1, .slice a2 B.length c2, .slice a3 X.length c3] w fun e w' => e = .returned (isoV A B X) ∧ Below w.heap.size w w' := by
  have HA := Lib.hid (iis8_any A hn hl a1 c1 w h1)
  have HB := Lib.hid fun wx (hb : Below w.heap.size w wx) => iis8_any B hn2 hl2 a2 c2 wx (h2.below hb)
  cases hA : tblB A
  · have HV := Lib.hid (isoV_bad (isoC_a (B := B) (X := X) hA))
    rw [hA] at HA
    clear hA h1 h2 h3 hl hl2
    go_enter Try.func53, Try.ntmps53
    go_wp2_with fail
    refine HA.out.mono ?_
    rintro e w1 ⟨rfl, hb⟩
    have HB1 := Lib.hid hb
    have hz1 := hb.size
    clear hb
    go_wp2_with fail
    go_ret2
    exact ⟨congrArg Ending.returned HV.out.symm, HB1.out⟩
  cases hB : tblB B
  · have HV := Lib.hid (isoV_bad (isoC_b (X := X) hA hB))
    rw [hA] at HA
    rw [hB] at HB
    clear hA hB h1 h2 h3 hl hl2
    go_enter Try.func53, Try.ntmps53
    go_wp2_with fail
    refine HA.out.mono ?_
    rintro e w1 ⟨rfl, hb⟩
    have HB1 := Lib.hid hb
    have hz1 := hb.size
    clear hb
    go_wp2_with fail
    refine (HB.out _ HB1.out).mono ?_
    rintro e w2 ⟨rfl, hb⟩
    have HB2 := Lib.hid (HB1.out.trans (hb.mono hz1))
    have hz2 := HB2.out.size
    clear hb
    go_wp2_with fail
    go_ret2
    exact ⟨congrArg Ending.returned HV.out.symm, HB2.out⟩
  by_cases hN : A.length = B.length
  rotate_left
  · have HV := Lib.hid (isoV_bad (isoC_n (X := X) hA hB hN))
    have hq : ((A.length : Int) != (B.length : Int)) = true := by simp; omega
    have hq2 : ¬ ((A.length : Int) = (B.length : Int)) := by omega
    rw [hA] at HA
    rw [hB] at HB
    clear hA hB h1 h2 h3 hl hl2 hN
    go_enter Try.func53, Try.ntmps53
    go_wp2_with fail
    refine HA.out.mono ?_
    rintro e w1 ⟨rfl, hb⟩
    have HB1 := Lib.hid hb
    have hz1 := hb.size
    clear hb
    go_wp2_with fail
    refine (HB.out _ HB1.out).mono ?_
    rintro e w2 ⟨rfl, hb⟩
    have HB2 := Lib.hid (HB1.out.trans (hb.mono hz1))
    have hz2 := HB2.out.size
    clear hb
    go_wp2_with fail
    go_ret2
    exact ⟨congrArg Ending.returned HV.out.symm, HB2.out⟩
  have HN := tblB_n hA
  have HO := Lib.hid fun wx (hb : Below w.heap.size w wx) => iord_any A.length HN.1 HN.2 X hX a3 c3 wx (h3.below hb)
  cases hO : ordB A.length X
  · have HV := Lib.hid (isoV_bad (isoC_o hA hB hN hO))
    rw [hA] at HA
    rw [hB] at HB
    rw [hO] at HO
    rw [← hN] at HB ⊢
    clear hA hB hO h1 h2 h3 hl hl2 hN
    go_enter Try.func53, Try.ntmps53
    go_wp2_with fail
    refine HA.out.mono ?_
    rintro e w1 ⟨rfl, hb⟩
    have HB1 := Lib.hid hb
    have hz1 := hb.size
    clear hb
    go_wp2_with fail
    refine (HB.out _ HB1.out).mono ?_
    rintro e w2 ⟨rfl, hb⟩
    have HB2 := Lib.hid (HB1.out.trans (hb.mono hz1))
    have hz2 := HB2.out.size
    clear hb
    go_wp2_with fail
    refine (HO.out _ HB2.out).mono ?_
    rintro e w3 ⟨rfl, hb⟩
    have HB3 := Lib.hid (HB2.out.trans (hb.mono hz2))
    clear hb
    go_wp2_with fail
    go_ret2
    exact ⟨congrArg Ending.returned HV.out.symm, HB3.out⟩
  have hv := isoV_good (isoC_0 hA hB hN hO)
  have hTA := h1.tbl hA
  have hTB := h2.tbl hB
  obtain ⟨b3, off3, rfl, hP⟩ := h3.pxi HN.1 hO
  have hXl := (ordB_at hO).1
  rw [hA] at HA
  rw [hB] at HB
  rw [hO] at HO
  rw [← hN] at HB hTB ⊢
  rw [hXl] at HO ⊢
  clear hA hB hO h1 h2 h3 hl hl2 hN hn hn2 hX hXl
  generalize A.length = n at *
  generalize mp A = mu at *
  generalize mp B = nu at *
  generalize px X = x at *
  have HV := Lib.hid hv
  clear hv
  obtain ⟨b1, off1, g1, r1, d1, rfl, hT1⟩ := hTA
  obtain ⟨b2, off2, g2, r2, d2, rfl, hT2⟩ := hTB
  have HT1 := Lib.hid hT1
  have HT2 := Lib.hid hT2
  have HP := Lib.hid hP
  have hn40 := HN.2
  clear hT1 hT2 hP HN
  go_enter Try.func53, Try.ntmps53
  go_wp2_with fail
  refine HA.out.mono ?_
  rintro e w1 ⟨rfl, hb⟩
  have HB1 := Lib.hid hb
  have hz1 := hb.size
  clear hb
  go_wp2_with fail
  refine (HB.out _ HB1.out).mono ?_
  rintro e w2 ⟨rfl, hb⟩
  have HB2 := Lib.hid (HB1.out.trans (hb.mono hz1))
  have hz2 := HB2.out.size
  clear hb
  go_wp2_with fail
  refine (HO.out _ HB2.out).mono ?_
  rintro e w3 ⟨rfl, hb⟩
  have HB3 := Lib.hid (HB2.out.trans (hb.mono hz2))
  clear hb
  go_wp2_with fail
  go_loopw [8, 9, 10, 11, 36] (fun _ _ _ _ i wr => ∃ k : Nat, k ≤ n ∧ i = .int .i64 k ∧ isoK n mu nu x k 0 ∧ Below w.heap.size w wr) (fun _ _ _ _ i _ => n - (intOf i).toNat)
  case atStart => exact ⟨0, by omega, rfl, isoK_zero n mu nu x, HB3.out⟩
  case round =>
    obtain ⟨k, hk, rfl, hok, hb⟩ := hrel
    have HBR := Lib.hid hb
    have HOK := Lib.hid hok
    clear hb hok
    obtain ⟨wo, hwo⟩ : ∃ wo, wo = wr := ⟨_, rfl⟩
    subst hwo
    by_cases hkl : k < n
    · have hkl' : (k : Int) < (n : Int) := by omega
      have e1 := (HT1.out.below HBR.out).row k hkl
      go_wp2_with fail
      go_loopw [10, 11, 43] (fun _ _ i wr => ∃ j : Nat, j ≤ n ∧ i = .int .i64 j ∧ isoK n mu nu x k j ∧ Below w.heap.size w wr) (fun _ _ i _ => n - (intOf i).toNat)
      case atStart => exact ⟨0, by omega, rfl, HOK.out, HBR.out⟩
      case round =>
        clear e1
        obtain ⟨j, hj, rfl, hok2, hb2⟩ := hrel
        have HB4 := Lib.hid hb2
        have HOK2 := Lib.hid hok2
        clear hb2 hok2
        by_cases hjl : j < n
        · have hjl' : (j : Int) < (n : Int) := by omega
          have hT := HT1.out.below HB4.out
          have hU := HT2.out.below HB4.out
          have hP := HP.out.below HB4.out
          have m1 := hT.mlt k j hkl hjl
          have m2 := hP.mlt k hkl
          have m3 := hP.mlt j hjl
          have e1 := hT.row k hkl
          have e2 := hT.val k j hkl hjl
          have e3 := hP.val _ m1
          have e4 := hP.val k hkl
          have e5 := hP.val j hjl
          have e6 := hU.row _ m2
          have e7 := hU.val _ _ m2 m3
          have HF := Lib.hid fun h => isoB_false (mu := mu) (nu := nu) (x := x) hkl hjl h
          have HONE := Lib.hid fun h => isoK_one HOK2.out h
          clear hT hU hP
          obtain ⟨Z1, hZ1⟩ : ∃ Z1, Z1 = x (mu k j) := ⟨_, rfl⟩
          obtain ⟨Z2, hZ2⟩ : ∃ Z2, Z2 = nu (x k) (x j) := ⟨_, rfl⟩
          rw [← hZ1] at e3 HF HONE
          rw [← hZ2] at e7 HF HONE
          clear hZ1 hZ2
          generalize mu k j = X1 at *
          generalize x k = X2 at *
          generalize x j = X3 at *
          have m1' : (X1 : Int) < (n : Int) := by omega
          have m2' : (X2 : Int) < (n : Int) := by omega
          have m3' : (X3 : Int) < (n : Int) := by omega
          by_cases hz : Z1 = Z2
          · have HNX := Lib.hid (HONE.out hz)
            subst hz
            clear HF HONE
            go_wp2_with fail
            go_quiet (fail)
            go_wp2_with fail
            go_roundw
            case rel => exact ⟨j + 1, by omega, by go_num, HNX.out, below_drewN HB4.out _⟩
            case measure => simp [intOf]; omega
          · have HNX : Hid (isoV A B X = .tuple #[.bool false, .int .i64 0]) := Lib.hid (by rw [HV.out, HF.out hz])
            have hq : ((Z1 : Int) != (Z2 : Int)) = true := by simp; omega
            have hq2 : ¬ ((Z1 : Int) = (Z2 : Int)) := by omega
            clear HF HONE hz
            go_wp2_with fail
            go_quiet (fail)
            go_wp2_with fail
            go_ret2
            exact ⟨congrArg Ending.returned HNX.out.symm, below_drewN HB4.out _⟩
        · obtain rfl : j = n := by omega
          have HNX := Lib.hid (isoK_row HOK2.out)
          go_wp2_with fail
          go_roundw
          case rel => exact ⟨k + 1, by omega, by go_num, HNX.out, HB4.out⟩
          case measure => simp [intOf]; omega
    · obtain rfl : k = n := by omega
      have HNX : Hid (isoV A B X = .tuple #[.bool true, .int .i64 0]) := Lib.hid (by rw [HV.out, isoB_true HOK.out.1])
      go_wp2_with fail
      go_ret2
      exact ⟨congrArg Ending.returned HNX.out.symm, HBR.out⟩

end Go.Proofs.Ytgiefgbpcjoieaa
