/- Identities of tables and monoids: told without Go, and the contracts of spec.l08Identity, spec.l08Monoid, (productTable).identity, isAssociative, isMonoid. -/
import Derived.Test.YtgiefgbpcjoieaaTbl
import Derived.Deep.LoopGhost
namespace Go.Proofs.Ytgiefgbpcjoieaa
open Go.RowKit

/-- Whether e and the first k numbers are as they must be for an identity. -/
def idP (mu : Nat → Nat → Nat) (e k : Nat) : Prop := ∀ a, a < k → mu e a = a ∧ mu a e = a
instance (mu : Nat → Nat → Nat) (e k : Nat) : Decidable (idP mu e k) := by unfold idP; infer_instance
def idF (n : Nat) (mu : Nat → Nat → Nat) : Option Nat := (List.range n).find? fun e => decide (idP mu e n)
def idV (n : Nat) (mu : Nat → Nat → Nat) : Int := match idF n mu with
  | some e => (e : Int)
  | none => -1
def asB (n : Nat) (mu : Nat → Nat → Nat) : Bool := decide (∀ a, a < n → ∀ b, b < n → ∀ c, c < n → mu (mu a b) c = mu a (mu b c))
def monB (n : Nat) (mu : Nat → Nat → Nat) : Bool := (idF n mu).isSome && asB n mu

theorem idF_some {n : Nat} {mu : Nat → Nat → Nat} {e : Nat} (he : e < n) (h : idP mu e n) (hlt : ∀ k, k < e → ¬ idP mu k n) : idF n mu = some e := by
  unfold idF
  rw [List.find?_range_eq_some]
  refine ⟨by simpa using h, by simpa using he, fun j hj => by simpa using hlt j hj⟩

theorem idF_none {n : Nat} {mu : Nat → Nat → Nat} (h : ∀ k, k < n → ¬ idP mu k n) : idF n mu = none := by
  unfold idF
  rw [List.find?_range_eq_none]
  intro i hi
  simpa using h i hi

theorem idV_some {n : Nat} {mu : Nat → Nat → Nat} {e : Nat} (h : idF n mu = some e) : idV n mu = (e : Int) := by unfold idV; rw [h]
theorem idV_none {n : Nat} {mu : Nat → Nat → Nat} (h : idF n mu = none) : idV n mu = -1 := by unfold idV; rw [h]
def idR (n : Nat) (mu : Nat → Nat → Nat) : Value := match idF n mu with
  | some e => .tuple #[.int .i64 (e : Nat), .int .i64 0]
  | none => .tuple #[.int .i64 0, .int .i64 4]
theorem idR_some {n : Nat} {mu : Nat → Nat → Nat} {e : Nat} (h : idF n mu = some e) : idR n mu = .tuple #[.int .i64 (e : Nat), .int .i64 0] := by unfold idR; rw [h]
theorem idR_none {n : Nat} {mu : Nat → Nat → Nat} (h : idF n mu = none) : idR n mu = .tuple #[.int .i64 0, .int .i64 4] := by unfold idR; rw [h]
theorem idF_lt {n : Nat} {mu : Nat → Nat → Nat} {e : Nat} (h : idF n mu = some e) : e < n := by
  unfold idF at h
  have := List.mem_of_find?_eq_some h
  simpa using this

set_option maxRecDepth 100000 in
set_option maxHeartbeats 2000000 in
theorem sid_any (n : Nat) (hn : n ≤ 40) (mu : Nat → Nat → Nat) (a : Option Addr) (c : Nat) (w : World) (h : TbA w a n mu) :
    Calls Try.prog 76 #[.slice a n c] w fun e w' => e = .returned (.int .i64 (idV n mu)) ∧ Below w.heap.size w w' := by
  obtain ⟨b, off, gr, ro, cr, rfl, ht⟩ := h
  have HT := Lib.hid ht
  clear ht
  go_enter Try.func76, Try.ntmps76
  go_wp2_with fail
  go_loopw [3, 4, 5] (fun i _ _ wr => ∃ k : Nat, k ≤ n ∧ i = .int .i64 k ∧ (∀ e, e < k → ¬ idP mu e n) ∧ Below w.heap.size w wr) (fun i _ _ _ => n - (intOf i).toNat)
  case atStart => exact ⟨0, by omega, rfl, fun e he => by omega, Below.refl _ _⟩
  case round =>
    obtain ⟨k, hk, rfl, hok, hb⟩ := hrel
    have HB := Lib.hid hb
    have HOK := Lib.hid hok
    clear hb hok
    obtain ⟨wo, hwo⟩ : ∃ wo, wo = wr := ⟨_, rfl⟩
    subst hwo
    by_cases hkl : k < n
    · have hkl' : (k : Int) < (n : Int) := by omega
      go_wp2_with fail
      go_loopw [4, 5] (fun g q wr => ∃ (gd : Bool) (j : Nat), j ≤ n ∧ g = .bool gd ∧ q = .int .i64 j ∧ (gd = true ↔ idP mu k j) ∧ Below w.heap.size w wr) (fun _ q _ => n - (intOf q).toNat)
      case atStart => exact ⟨true, 0, by omega, rfl, rfl, ⟨fun _ a ha => by omega, fun _ => rfl⟩, HB.out⟩
      case round =>
        obtain ⟨gd, j, hj, rfl, rfl, hg, hb2⟩ := hrel
        have HB2 := Lib.hid hb2
        have HG := Lib.hid hg
        clear hb2 hg
        by_cases hjl : j < n
        · have hjl' : (j : Int) < (n : Int) := by omega
          have hT := HT.out.below HB2.out
          have e1 := hT.row k hkl
          have e2 := hT.row j hjl
          have e3 := hT.val k j hkl hjl
          have e4 := hT.val j k hjl hkl
          clear hT
          have HST : Hid (idP mu k (j + 1) ↔ idP mu k j ∧ mu k j = j ∧ mu j k = j) := Lib.hid ⟨fun h => ⟨fun a ha => h a (by omega), h j (by omega)⟩, fun h a ha => by
            by_cases e : a = j
            · rw [e]; exact h.2
            · exact h.1 a (by omega)⟩
          generalize mu k j = X at *
          generalize mu j k = Y at *
          cases gd
          · have HN : Hid (false = true ↔ idP mu k (j + 1)) := Lib.hid ⟨fun h => Bool.noConfusion h, fun h => HG.out.2 (HST.out.1 h).1⟩
            clear HST
            go_wp2_with fail
            go_roundw
            case rel => exact ⟨false, j + 1, by omega, rfl, by go_num, HN.out, HB2.out⟩
            case measure => simp [intOf]; omega
          · by_cases hx : X = j
            · subst hx
              by_cases hy : Y = X
              · subst hy
                have HN : Hid (true = true ↔ idP mu k (Y + 1)) := Lib.hid ⟨fun _ => HST.out.2 ⟨HG.out.1 rfl, rfl, rfl⟩, fun _ => rfl⟩
                clear HST
                go_wp2_with fail
                go_roundw
                case rel => exact ⟨true, Y + 1, by omega, by simp, by go_num, HN.out, HB2.out⟩
                case measure => simp [intOf]; omega
              · have HN : Hid (false = true ↔ idP mu k (X + 1)) := Lib.hid ⟨fun h => Bool.noConfusion h, fun h => absurd (HST.out.1 h).2.2 hy⟩
                have hq : ((Y : Int) == (X : Int)) = false := by simp; omega
                clear HST hy
                go_wp2_with fail
                go_roundw
                case rel => exact ⟨false, X + 1, by omega, by first | rfl | rw [hq], by go_num, HN.out, HB2.out⟩
                case measure => simp [intOf]; omega
            · have HN : Hid (false = true ↔ idP mu k (j + 1)) := Lib.hid ⟨fun h => Bool.noConfusion h, fun h => absurd (HST.out.1 h).2.1 hx⟩
              have hq : ((X : Int) == (j : Int)) = false := by simp; omega
              clear HST hx
              go_wp2_with fail
              go_roundw
              case rel => exact ⟨false, j + 1, by omega, by first | rfl | rw [hq], by go_num, HN.out, HB2.out⟩
              case measure => simp [intOf]; omega
        · obtain rfl : j = n := by omega
          cases gd
          · have HNO : Hid (∀ e, e < k + 1 → ¬ idP mu e j) := Lib.hid fun e he h => by
              by_cases c : e = k
              · subst c; exact Bool.false_ne_true (HG.out.2 h)
              · exact HOK.out e (by omega) h
            go_wp2_with fail
            go_roundw
            case rel => exact ⟨k + 1, by omega, by go_num, HNO.out, HB2.out⟩
            case measure => simp [intOf]; omega
          · have HV := Lib.hid (idV_some (idF_some hkl (HG.out.1 rfl) HOK.out))
            go_wp2_with fail
            go_ret
            exact ⟨ret_i HV.out.symm, HB2.out⟩
    · obtain rfl : k = n := by omega
      have HV := Lib.hid (idV_none (idF_none HOK.out))
      go_wp2_with fail
      go_ret
      exact ⟨ret_i HV.out.symm, HB.out⟩

set_option maxRecDepth 100000 in
set_option maxHeartbeats 2000000 in
theorem iid_any (n : Nat) (hn : n ≤ 40) (mu : Nat → Nat → Nat) (a : Option Addr) (c : Nat) (w : World) (h : TbA w a n mu) :
    Calls Try.prog 77 #[.slice a n c] w fun e w' => e = .returned (idR n mu) ∧ Below w.heap.size w w' := by
  obtain ⟨b, off, gr, ro, cr, rfl, ht⟩ := h
  have HT := Lib.hid ht
  clear ht
  go_enter Try.func77, Try.ntmps77
  go_wp2_with fail
  go_step3
  go_wp2_with fail
  go_step3
  go_wp2_with fail
  go_loopg [4, 5, 8, 13] n (fun g _ _ i _ wr => ∃ k : Nat, k + g = n ∧ i = .int .i64 k ∧ (∀ e, e < k → ¬ idP mu e n) ∧ Below w.heap.size w wr)
  case atStart => exact ⟨0, by omega, rfl, fun e he => by omega, Below.refl _ _⟩
  case round =>
    obtain ⟨k, hk, rfl, hok, hb⟩ := hrel
    have HB := Lib.hid hb
    have HOK := Lib.hid hok
    clear hb hok
    obtain ⟨wo, hwo⟩ : ∃ wo, wo = wr := ⟨_, rfl⟩
    subst hwo
    by_cases hkl : k < n
    · have hkl' : (k : Int) < (n : Int) := by omega
      go_wp2_with fail
      go_loopg [5, 13] n (fun g _ q wr => ∃ (j : Nat), j + g = n ∧ q = .int .i64 j ∧ idP mu k j ∧ Below w.heap.size w wr)
      case atStart => exact ⟨0, by omega, rfl, fun a ha => by omega, HB.out⟩
      case round =>
        obtain ⟨j, hj, rfl, hg, hb2⟩ := hrel
        have HB2 := Lib.hid hb2
        have HG := Lib.hid hg
        clear hb2 hg
        by_cases hjl : j < n
        · have hjl' : (j : Int) < (n : Int) := by omega
          have hT := HT.out.below HB2.out
          have e1 := hT.row k hkl
          have e2 := hT.row j hjl
          have e3 := hT.val k j hkl hjl
          have e4 := hT.val j k hjl hkl
          clear hT
          have HST : Hid (idP mu k (j + 1) ↔ idP mu k j ∧ mu k j = j ∧ mu j k = j) := Lib.hid ⟨fun h => ⟨fun a ha => h a (by omega), h j (by omega)⟩, fun h a ha => by
            by_cases e : a = j
            · rw [e]; exact h.2
            · exact h.1 a (by omega)⟩
          have HUP : Hid (idP mu k n → idP mu k (j + 1)) := Lib.hid fun h a ha => h a (by omega)
          generalize mu k j = X at *
          generalize mu j k = Y at *
          by_cases hx : X = j
          · subst hx
            by_cases hy : Y = X
            · subst hy
              have HN := Lib.hid (HST.out.2 ⟨HG.out, rfl, rfl⟩)
              clear HST
              go_wp2_with fail
              go_roundg (n - (Y + 1))
              case rel => exact ⟨Y + 1, by omega, by go_num, HN.out, HB2.out⟩
              case measure => omega
            · have HNO : Hid (∀ e, e < k + 1 → ¬ idP mu e n) := Lib.hid fun e he h => by
                by_cases c : e = k
                · subst c; exact hy (HST.out.1 (HUP.out h)).2.2
                · exact HOK.out e (by omega) h
              have hq : ((Y : Int) != (X : Int)) = true := by simp; omega
              have hq2 : ¬ ((Y : Int) = (X : Int)) := by omega
              clear HST hy
              go_wp2_with fail
              go_roundg (n - (k + 1))
              case rel => exact ⟨k + 1, by omega, by go_num, HNO.out, HB2.out⟩
              case measure => omega
          · have HNO : Hid (∀ e, e < k + 1 → ¬ idP mu e n) := Lib.hid fun e he h => by
              by_cases c : e = k
              · subst c; exact hx (HST.out.1 (HUP.out h)).2.1
              · exact HOK.out e (by omega) h
            have hq : ((X : Int) != (j : Int)) = true := by simp; omega
            have hq2 : ¬ ((X : Int) = (j : Int)) := by omega
            clear HST hx
            go_wp2_with fail
            go_roundg (n - (k + 1))
            case rel => exact ⟨k + 1, by omega, by go_num, HNO.out, HB2.out⟩
            case measure => omega
        · obtain rfl : j = n := by omega
          have HV := Lib.hid (idF_some hkl HG.out HOK.out)
          go_wp2_with fail
          (try rw [Exit.noGoto_ret])
          go_ret2
          exact ⟨congrArg Ending.returned (idR_some HV.out).symm, HB2.out⟩
    · obtain rfl : k = n := by omega
      have HV := Lib.hid (idF_none HOK.out)
      go_wp2_with fail
      (try rw [Exit.noGoto_ret])
      go_ret2
      exact ⟨congrArg Ending.returned (idR_none HV.out).symm, HB.out⟩

theorem asB_false {n : Nat} {mu : Nat → Nat → Nat} {a b c : Nat} (ha : a < n) (hb : b < n) (hc : c < n) (h : mu (mu a b) c ≠ mu a (mu b c)) : asB n mu = false := by
  unfold asB
  rw [decide_eq_false_iff_not]
  exact fun hh => h (hh a ha b hb c hc)

theorem asB_true {n : Nat} {mu : Nat → Nat → Nat} (h : ∀ a, a < n → ∀ b, b < n → ∀ c, c < n → mu (mu a b) c = mu a (mu b c)) : asB n mu = true := by
  unfold asB
  rw [decide_eq_true_eq]
  exact h

theorem monB_none {n : Nat} {mu : Nat → Nat → Nat} (h : idF n mu = none) : monB n mu = false := by unfold monB; rw [h]; rfl
theorem monB_some {n : Nat} {mu : Nat → Nat → Nat} {e : Nat} (h : idF n mu = some e) : monB n mu = asB n mu := by unfold monB; rw [h]; simp

/-- How far the triples have been looked at. -/
def asK (n : Nat) (mu : Nat → Nat → Nat) (i j k : Nat) : Prop :=
  (∀ a, a < i → ∀ b, b < n → ∀ c, c < n → mu (mu a b) c = mu a (mu b c)) ∧ (∀ b, b < j → ∀ c, c < n → mu (mu i b) c = mu i (mu b c)) ∧ ∀ c, c < k → mu (mu i j) c = mu i (mu j c)

theorem asK_zero (n : Nat) (mu : Nat → Nat → Nat) : asK n mu 0 0 0 := ⟨fun a h => by omega, fun b h => by omega, fun c h => by omega⟩
theorem asK_row {n : Nat} {mu : Nat → Nat → Nat} {i : Nat} (h : asK n mu i n 0) : asK n mu (i + 1) 0 0 :=
  ⟨fun a ha b hb c hc => by
    by_cases e : a = i
    · subst e; exact h.2.1 b hb c hc
    · exact h.1 a (by omega) b hb c hc, fun b h => by omega, fun c h => by omega⟩
theorem asK_col {n : Nat} {mu : Nat → Nat → Nat} {i j : Nat} (h : asK n mu i j n) : asK n mu i (j + 1) 0 :=
  ⟨h.1, fun b hb c hc => by
    by_cases e : b = j
    · subst e; exact h.2.2 c hc
    · exact h.2.1 b (by omega) c hc, fun c h => by omega⟩
theorem asK_one {n : Nat} {mu : Nat → Nat → Nat} {i j k : Nat} (h : asK n mu i j k) (e : mu (mu i j) k = mu i (mu j k)) : asK n mu i j (k + 1) :=
  ⟨h.1, h.2.1, fun c hc => by
    by_cases q : c = k
    · subst q; exact e
    · exact h.2.2 c (by omega)⟩

set_option maxRecDepth 100000 in
set_option maxHeartbeats 4000000 in
theorem smon_any (n : Nat) (hn : n ≤ 40) (mu : Nat → Nat → Nat) (a : Option Addr) (c : Nat) (w : World) (h : TbA w a n mu) :
    Calls Try.prog 73 #[.slice a n c] w fun e w' => e = .returned (.bool (monB n mu)) ∧ Below w.heap.size w w' := by
  have HID := Lib.hid (sid_any n hn mu a c w h)
  cases hF : idF n mu with
  | none =>
    have HM := Lib.hid (monB_none hF)
    rw [idV_none hF] at HID
    clear hF h
    go_enter Try.func73, Try.ntmps73
    go_wp2_with fail
    refine HID.out.mono ?_
    rintro e w1 ⟨rfl, hb⟩
    have HB := Lib.hid hb
    clear hb
    go_wp2_with fail
    go_ret
    exact ⟨ret_b HM.out.symm, HB.out⟩
  | some e0 =>
    have HM := Lib.hid (monB_some hF)
    rw [idV_some hF] at HID
    have hlt0 : ¬ ((e0 : Int) < 0) := by omega
    obtain ⟨b, off, gr, ro, cr, rfl, ht⟩ := h
    have HT := Lib.hid ht
    clear ht hF
    go_enter Try.func73, Try.ntmps73
    go_wp2_with fail
    refine HID.out.mono ?_
    rintro e w1 ⟨rfl, hb⟩
    have HB1 := Lib.hid hb
    clear hb
    go_wp2_with fail
    go_loopw [3, 4, 5] (fun i _ _ wr => ∃ k : Nat, k ≤ n ∧ i = .int .i64 k ∧ asK n mu k 0 0 ∧ Below w.heap.size w wr) (fun i _ _ _ => n - (intOf i).toNat)
    case atStart => exact ⟨0, by omega, rfl, asK_zero n mu, HB1.out⟩
    case round =>
      obtain ⟨k, hk, rfl, hok, hb⟩ := hrel
      have HB := Lib.hid hb
      have HOK := Lib.hid hok
      clear hb hok
      obtain ⟨wo, hwo⟩ : ∃ wo, wo = wr := ⟨_, rfl⟩
      subst hwo
      by_cases hkl : k < n
      · have hkl' : (k : Int) < (n : Int) := by omega
        go_wp2_with fail
        go_loopw [4, 5] (fun i _ wr => ∃ j : Nat, j ≤ n ∧ i = .int .i64 j ∧ asK n mu k j 0 ∧ Below w.heap.size w wr) (fun i _ _ => n - (intOf i).toNat)
        case atStart => exact ⟨0, by omega, rfl, HOK.out, HB.out⟩
        case round =>
          obtain ⟨j, hj, rfl, hok2, hb2⟩ := hrel
          have HB2 := Lib.hid hb2
          have HOK2 := Lib.hid hok2
          clear hb2 hok2
          obtain ⟨wp, hwp⟩ : ∃ wp, wp = wr := ⟨_, rfl⟩
          subst hwp
          by_cases hjl : j < n
          · have hjl' : (j : Int) < (n : Int) := by omega
            go_wp2_with fail
            go_loopw [5] (fun i wr => ∃ x : Nat, x ≤ n ∧ i = .int .i64 x ∧ asK n mu k j x ∧ Below w.heap.size w wr) (fun i _ => n - (intOf i).toNat)
            case atStart => exact ⟨0, by omega, rfl, HOK2.out, HB2.out⟩
            case round =>
              obtain ⟨x, hx, rfl, hok3, hb3⟩ := hrel
              have HB3 := Lib.hid hb3
              have HOK3 := Lib.hid hok3
              clear hb3 hok3
              by_cases hxl : x < n
              · have hxl' : (x : Int) < (n : Int) := by omega
                have hT := HT.out.below HB3.out
                have m1 := hT.mlt k j hkl hjl
                have m2 := hT.mlt j x hjl hxl
                have e1 := hT.row k hkl
                have e2 := hT.row j hjl
                have e3 := hT.row _ m1
                have e4 := hT.val k j hkl hjl
                have e5 := hT.val j x hjl hxl
                have e6 := hT.val _ x m1 hxl
                have e7 := hT.val k _ hkl m2
                have HAF := Lib.hid fun h => asB_false (mu := mu) hkl hjl hxl h
                have HONE := Lib.hid fun h => asK_one HOK3.out h
                clear hT
                obtain ⟨Z1, hZ1⟩ : ∃ Z1, Z1 = mu (mu k j) x := ⟨_, rfl⟩
                obtain ⟨Z2, hZ2⟩ : ∃ Z2, Z2 = mu k (mu j x) := ⟨_, rfl⟩
                rw [← hZ1] at e6 HAF HONE
                rw [← hZ2] at e7 HAF HONE
                clear hZ1 hZ2
                generalize mu k j = X at *
                generalize mu j x = Y at *
                have m1' : (X : Int) < (n : Int) := by omega
                have m2' : (Y : Int) < (n : Int) := by omega
                by_cases hz : Z1 = Z2
                · have HN := Lib.hid (HONE.out hz)
                  subst hz
                  clear HAF HONE
                  go_wp2_with fail
                  go_quiet (fail)
                  go_wp2_with fail
                  go_roundw
                  case rel => exact ⟨x + 1, by omega, by go_num, HN.out, below_drewN HB3.out _⟩
                  case measure => simp [intOf]; omega
                · have HN := Lib.hid (HAF.out hz)
                  have hq : ((Z1 : Int) != (Z2 : Int)) = true := by simp; omega
                  have hq2 : ¬ ((Z1 : Int) = (Z2 : Int)) := by omega
                  clear HAF HONE hz
                  go_wp2_with fail
                  go_quiet (fail)
                  go_wp2_with fail
                  go_ret
                  exact ⟨ret_b (HM.out.trans HN.out).symm, below_drewN HB3.out _⟩
              · obtain rfl : x = n := by omega
                have HN := Lib.hid (asK_col HOK3.out)
                go_wp2_with fail
                go_roundw
                case rel => exact ⟨j + 1, by omega, by go_num, HN.out, HB3.out⟩
                case measure => simp [intOf]; omega
          · obtain rfl : j = n := by omega
            have HN := Lib.hid (asK_row HOK2.out)
            go_wp2_with fail
            go_roundw
            case rel => exact ⟨k + 1, by omega, by go_num, HN.out, HB2.out⟩
            case measure => simp [intOf]; omega
      · obtain rfl : k = n := by omega
        have HN := Lib.hid (asB_true HOK.out.1)
        go_wp2_with fail
        go_ret
        exact ⟨ret_b (HM.out.trans HN.out).symm, HB.out⟩

set_option maxRecDepth 100000 in
set_option maxHeartbeats 4000000 in
theorem ias_any (n : Nat) (hn : n ≤ 40) (mu : Nat → Nat → Nat) (a : Option Addr) (c : Nat) (w : World) (h : TbA w a n mu) :
    Calls Try.prog 106 #[.slice a n c] w fun e w' => e = .returned (.bool (asB n mu)) ∧ Below w.heap.size w w' := by
  obtain ⟨b, off, gr, ro, cr, rfl, ht⟩ := h
  have HT := Lib.hid ht
  clear ht
  go_enter Try.func106, Try.ntmps106
  go_wp2_with fail
  go_loopw [3, 4, 5, 6, 7, 10] (fun _ _ _ _ _ i wr => ∃ k : Nat, k ≤ n ∧ i = .int .i64 k ∧ asK n mu k 0 0 ∧ Below w.heap.size w wr) (fun _ _ _ _ _ i _ => n - (intOf i).toNat)
  case atStart => exact ⟨0, by omega, rfl, asK_zero n mu, Below.refl _ _⟩
  case round =>
    obtain ⟨k, hk, rfl, hok, hb⟩ := hrel
    have HB := Lib.hid hb
    have HOK := Lib.hid hok
    clear hb hok
    obtain ⟨wo, hwo⟩ : ∃ wo, wo = wr := ⟨_, rfl⟩
    subst hwo
    by_cases hkl : k < n
    · have hkl' : (k : Int) < (n : Int) := by omega
      have e1 := (HT.out.below HB.out).row k hkl
      go_wp2_with fail
      go_loopw [4, 5, 6, 7, 18] (fun _ _ _ _ i wr => ∃ j : Nat, j ≤ n ∧ i = .int .i64 j ∧ asK n mu k j 0 ∧ Below w.heap.size w wr) (fun _ _ _ _ i _ => n - (intOf i).toNat)
      case atStart => exact ⟨0, by omega, rfl, HOK.out, HB.out⟩
      case round =>
        clear e1
        obtain ⟨j, hj, rfl, hok2, hb2⟩ := hrel
        have HB2 := Lib.hid hb2
        have HOK2 := Lib.hid hok2
        clear hb2 hok2
        obtain ⟨wp, hwp⟩ : ∃ wp, wp = wr := ⟨_, rfl⟩
        subst hwp
        by_cases hjl : j < n
        · have hjl' : (j : Int) < (n : Int) := by omega
          have e2 := (HT.out.below HB2.out).row j hjl
          have e4 := (HT.out.below HB2.out).val k j hkl hjl
          go_wp2_with fail
          go_loopw [6, 7, 28] (fun _ _ i wr => ∃ x : Nat, x ≤ n ∧ i = .int .i64 x ∧ asK n mu k j x ∧ Below w.heap.size w wr) (fun _ _ i _ => n - (intOf i).toNat)
          case atStart => exact ⟨0, by omega, rfl, HOK2.out, HB2.out⟩
          case round =>
            clear e2 e4
            obtain ⟨x, hx, rfl, hok3, hb3⟩ := hrel
            have HB3 := Lib.hid hb3
            have HOK3 := Lib.hid hok3
            clear hb3 hok3
            by_cases hxl : x < n
            · have hxl' : (x : Int) < (n : Int) := by omega
              have hT := HT.out.below HB3.out
              have m1 := hT.mlt k j hkl hjl
              have m2 := hT.mlt j x hjl hxl
              have e1 := hT.row k hkl
              have e2 := hT.row j hjl
              have e3 := hT.row _ m1
              have e5 := hT.val j x hjl hxl
              have e6 := hT.val _ x m1 hxl
              have e7 := hT.val k _ hkl m2
              have HAF := Lib.hid fun h => asB_false (mu := mu) hkl hjl hxl h
              have HONE := Lib.hid fun h => asK_one HOK3.out h
              clear hT
              obtain ⟨Z1, hZ1⟩ : ∃ Z1, Z1 = mu (mu k j) x := ⟨_, rfl⟩
              obtain ⟨Z2, hZ2⟩ : ∃ Z2, Z2 = mu k (mu j x) := ⟨_, rfl⟩
              rw [← hZ1] at e6 HAF HONE
              rw [← hZ2] at e7 HAF HONE
              clear hZ1 hZ2
              generalize mu k j = X at *
              generalize mu j x = Y at *
              have m1' : (X : Int) < (n : Int) := by omega
              have m2' : (Y : Int) < (n : Int) := by omega
              by_cases hz : Z1 = Z2
              · have HN := Lib.hid (HONE.out hz)
                subst hz
                clear HAF HONE
                go_wp2_with fail
                go_quiet (fail)
                go_wp2_with fail
                go_roundw
                case rel => exact ⟨x + 1, by omega, by go_num, HN.out, below_drewN HB3.out _⟩
                case measure => simp [intOf]; omega
              · have HN := Lib.hid (HAF.out hz)
                have hq : ((Z1 : Int) != (Z2 : Int)) = true := by simp; omega
                have hq2 : ¬ ((Z1 : Int) = (Z2 : Int)) := by omega
                clear HAF HONE hz
                go_wp2_with fail
                go_quiet (fail)
                go_wp2_with fail
                go_ret
                exact ⟨ret_b HN.out.symm, below_drewN HB3.out _⟩
            · obtain rfl : x = n := by omega
              have HN := Lib.hid (asK_col HOK3.out)
              go_wp2_with fail
              go_roundw
              case rel => exact ⟨j + 1, by omega, by go_num, HN.out, HB3.out⟩
              case measure => simp [intOf]; omega
        · obtain rfl : j = n := by omega
          have HN := Lib.hid (asK_row HOK2.out)
          go_wp2_with fail
          go_roundw
          case rel => exact ⟨k + 1, by omega, by go_num, HN.out, HB2.out⟩
          case measure => simp [intOf]; omega
    · obtain rfl : k = n := by omega
      have HN := Lib.hid (asB_true HOK.out.1)
      go_wp2_with fail
      go_ret
      exact ⟨ret_b HN.out.symm, HB.out⟩

set_option maxRecDepth 100000 in
set_option maxHeartbeats 4000000 in
theorem imon_any (n : Nat) (hn : n ≤ 40) (mu : Nat → Nat → Nat) (a : Option Addr) (c : Nat) (w : World) (h : TbA w a n mu) :
    Calls Try.prog 75 #[.slice a n c] w fun e w' => e = .returned (.bool (monB n mu)) ∧ Below w.heap.size w w' := by
  have HID := Lib.hid (iid_any n hn mu a c w h)
  cases hF : idF n mu with
  | none =>
    have HM := Lib.hid (monB_none hF)
    rw [idR_none hF] at HID
    clear hF h
    go_enter Try.func75, Try.ntmps75
    go_wp2_with fail
    refine HID.out.mono ?_
    rintro e w1 ⟨rfl, hb⟩
    have HB := Lib.hid hb
    clear hb
    go_wp2_with fail
    go_ret
    exact ⟨ret_b HM.out.symm, HB.out⟩
  | some e0 =>
    have HM := Lib.hid (monB_some hF)
    rw [idR_some hF] at HID
    have HA := Lib.hid fun wx (hb : Below w.heap.size w wx) => ias_any n hn mu a c wx (h.below hb)
    clear hF h
    go_enter Try.func75, Try.ntmps75
    go_wp2_with fail
    refine HID.out.mono ?_
    rintro e w1 ⟨rfl, hb⟩
    have HB1 := Lib.hid hb
    have hsz := hb.size
    clear hb
    go_wp2_with fail
    refine (HA.out _ HB1.out).mono ?_
    rintro e w2 ⟨rfl, hb⟩
    have HB2 := Lib.hid hb
    clear hb
    go_wp2_with fail
    go_ret
    exact ⟨ret_b HM.out.symm, HB1.out.trans (HB2.out.mono hsz)⟩

end Go.Proofs.Ytgiefgbpcjoieaa
