/- Whether numbers are classes, on both sides: the contracts of spec.l06Is, spec.l06Equal, slices.Equal and impl.areNumberedByFirst. Lists of rows that came in, and of arrays of classes; the contracts of spec.l06Classes and impl.classesFor. The contracts of IsRightCongruence and IsCongruence, on both sides. The contracts of impl.congruencesFor and spec.l06Both: the table, where the classes given are congruences. -/
import Derived.Test.YtoagpklippdlmaaPin
import Derived.Test.YtoagpklippdlmaaNbf
import Derived.Test.YtoagpklippdlmaaTab
import Derived.Test.YtoagpklippdlmaaClsd
import Derived.Test.YtoagpklippdlmaaMby
namespace Go.Proofs.Ytoagpklippdlmaa
open Go Go.RowKit

theorem eq_lists {L M : List Int} (hl : L.length = M.length) : L.length = M.length ∧ ((∀ j, j < L.length → L.getD j 0 = M.getD j 0) → L = M) := by
  refine ⟨hl, fun h => List.ext_getElem hl fun i h1 h2 => ?_⟩
  have := h i h1
  rw [List.getD_eq_getElem?_getD, List.getD_eq_getElem?_getD, List.getElem?_eq_getElem h1, List.getElem?_eq_getElem h2] at this
  exact this

/-- Whether two lists are the same. -/
def eqLB (L M : List Int) : Bool := decide (L = M)

theorem eqLB_iff {L M : List Int} : eqLB L M = true ↔ L = M := by unfold eqLB; rw [decide_eq_true_iff]

theorem eqLB_no {L M : List Int} (h : L ≠ M) : eqLB L M = false := by unfold eqLB; rw [decide_eq_false_iff_not]; exact h

/-- Whether numbers are classes of m elements. -/
def clsB (L : List Int) (m : Nat) : Bool := decide (L.length = m) && eqLB (kerK (tL L) m) L

theorem clsB_iff {L : List Int} {m : Nat} : clsB L m = true ↔ Cls L m := by unfold clsB Cls; rw [Bool.and_eq_true, decide_eq_true_iff, eqLB_iff]

theorem clsB_len (L : List Int) : clsB L L.length = eqLB (kerK (tL L) L.length) L := by unfold clsB; rw [decide_eq_true rfl, Bool.true_and]

theorem cls_of {L : List Int} {m : Nat} (hl : L.length = m) (h : ∀ i, i < m → tL L i = kvK (tL L) i) : Cls L m := by
  refine ⟨hl, (eq_lists (by rw [kerK_len, hl])).2 fun j hj => ?_⟩
  rw [kerK_len] at hj
  rw [kerK_getD _ _ _ hj, ← h j hj]
  rfl

theorem kv_le (t : Nat → Int) (k : Nat) : kvK t k ≤ rkK t k := by
  have h := (fst1_at t k).2.1
  have := rkK_mono t (fst1 t k) k h
  unfold kvK
  omega

theorem kv_lt (t : Nat → Int) {j k : Nat} (h : j < k) : kvK t j < rkK t k := by
  obtain ⟨h1, h2, _⟩ := fst1_at t j
  have := rkK_lt t (fst1 t j) k (by omega) (fst1_eq h1)
  unfold kvK
  omega

theorem rk_hit (t : Nat → Int) : ∀ k x, x < rkK t k → ∃ f, f < k ∧ fst1 t f = f ∧ rkK t f = x
  | 0, x, h => by simp [rkK] at h
  | k + 1, x, h => by
    rw [rkK_succ] at h
    by_cases c : fst1 t k = k
    · rw [if_pos c] at h
      rcases Nat.lt_succ_iff_lt_or_eq.1 h with h | h
      · obtain ⟨f, h1, h2, h3⟩ := rk_hit t k x h
        exact ⟨f, by omega, h2, h3⟩
      · exact ⟨k, by omega, c, h.symm⟩
    · rw [if_neg c] at h
      obtain ⟨f, h1, h2, h3⟩ := rk_hit t k x h
      exact ⟨f, by omega, h2, h3⟩

/-- The next number is as told if it is one of those before, or the next one. -/
theorem next_ok (t : Nat → Int) (k : Nat) (hb : ∀ j, j < k → t j = kvK t j) (h0 : 0 ≤ t k) (h1 : t k ≤ rkK t k) : t k = kvK t k := by
  by_cases h : t k = rkK t k
  · have hf : fst1 t k = k := by
      obtain ⟨a1, a2, a3⟩ := fst1_at t k
      by_cases c : fst1 t k = k
      · exact c
      · have hj : fst1 t k < k := by omega
        have := kv_lt t hj
        rw [← hb _ hj, a1] at this
        omega
    rw [h, kvK_first hf]
  · obtain ⟨x, hx⟩ := Int.eq_ofNat_of_zero_le h0
    obtain ⟨f, h2, h3, h4⟩ := rk_hit t k x (by omega)
    have e : t f = t k := by rw [hb f h2, kvK_first h3, h4, hx]
    rw [← kvK_same e, kvK_first h3, h4, hx]

theorem next_new (t : Nat → Int) (k : Nat) (h : t k = kvK t k) : (t k = rkK t k ↔ fst1 t k = k) := by rw [h]; exact kvK_new t k

set_option maxRecDepth 100000 in
set_option maxHeartbeats 1000000 in
theorem seq_any (L M : List Int) (hl : L.length = M.length) (hn : L.length ≤ 1000) (a1 a2 : Option Addr) (c1 c2 : Nat) (w : World) (h1 : InRow w a1 L) (h2 : InRow w a2 M) :
    Calls Try.prog 54 #[.slice a1 L.length c1, .slice a2 M.length c2] w fun e w' => e = .returned (.bool (eqLB L M)) ∧ Below w.heap.size w w' := by
  have H1 := Lib.hid h1
  have H2 := Lib.hid h2
  have HE := Lib.hid (eq_lists hl)
  rw [← hl]
  generalize hn0 : L.length = n at *
  clear h1 h2 hl
  obtain ⟨B, hB⟩ : ∃ B, B = eqLB L M := ⟨_, rfl⟩
  have HB := Lib.hid hB
  rw [← hB]
  clear hB
  go_enter Try.func54, Try.ntmps54
  go_wp2_with fail
  go_loopw [5] (fun i wr => ∃ k m : Nat, k ≤ n ∧ i = .int .i64 k ∧ wr = w.drewN m ∧ ∀ j, j < k → L.getD j 0 = M.getD j 0) (fun i _ => n - (intOf i).toNat)
  case atStart => exact ⟨0, 0, by omega, rfl, rfl, fun j hj => by omega⟩
  case round =>
    obtain ⟨k, m, hk, rfl, rfl, hal⟩ := hrel
    have HAL := Lib.hid hal
    clear hal
    by_cases hkl : k < n
    · have hkl' : (k : Int) < (n : Int) := by omega
      obtain ⟨b1, o1, rfl, hb1, hc1⟩ := H1.out.resolve_left (fun e => by rw [e] at hn0; simp at hn0; omega)
      obtain ⟨b2, o2, rfl, hb2, hc2⟩ := H2.out.resolve_left (fun e => by have h3 := HE.out.1; rw [e] at h3; simp at h3; omega)
      have e1 := hc1 k (by omega)
      have e2 := hc2 k (by rw [← HE.out.1]; omega)
      by_cases he : L.getD k 0 = M.getD k 0
      · have hq : (L.getD k 0 != M.getD k 0) = false := by simpa using he
        have HEK := Lib.hid he
        clear hc1 hc2 he
        generalize hX : L.getD k 0 = X at *
        generalize hY : M.getD k 0 = Y at *
        have HX := Lib.hid hX
        have HY := Lib.hid hY
        clear hX hY
        go_wp2_with fail
        go_quiet (fail)
        go_wp2_with fail
        go_roundw
        case rel => exact ⟨k + 1, m + nq, by omega, by go_num, by simp, fun j hj => by
          rcases Nat.lt_succ_iff_lt_or_eq.1 hj with h | h
          · exact HAL.out j h
          · subst h; rw [HX.out, HY.out]; exact HEK.out⟩
        case measure => simp [intOf]; omega
      · have hq : (L.getD k 0 != M.getD k 0) = true := by simpa using he
        have HF : Hid (B = false) := Lib.hid (by
          rw [HB.out]
          exact eqLB_no fun e => he (by rw [e]))
        clear hc1 hc2 he
        generalize L.getD k 0 = X at *
        generalize M.getD k 0 = Y at *
        go_wp2_with fail
        go_quiet (fail)
        go_wp2_with fail
        go_ret
        exact ⟨by rw [HF.out]; rfl, below_drewN (below_drewN (Below.refl _ _) _) _⟩
    · have HT : Hid (B = true) := Lib.hid (by
        rw [HB.out, eqLB_iff]
        exact HE.out.2 fun j hj => HAL.out j (by omega))
      go_wp2_with fail
      go_ret
      exact ⟨by rw [HT.out]; rfl, below_drewN (Below.refl _ _) _⟩

set_option maxRecDepth 100000 in
set_option maxHeartbeats 1000000 in
theorem sleq_any (L M : List Int) (hl : L.length = M.length) (hn : L.length ≤ 1000) (a1 a2 : Option Addr) (c1 c2 : Nat) (w : World) (h1 : InRow w a1 L) (h2 : InRow w a2 M) :
    Calls Try.prog 107 #[.slice a1 L.length c1, .slice a2 M.length c2] w fun e w' => e = .returned (.bool (eqLB L M)) ∧ Below w.heap.size w w' := by
  have H1 := Lib.hid h1
  have H2 := Lib.hid h2
  have HE := Lib.hid (eq_lists hl)
  rw [← hl]
  generalize hn0 : L.length = n at *
  clear h1 h2 hl
  obtain ⟨B, hB⟩ : ∃ B, B = eqLB L M := ⟨_, rfl⟩
  have HB := Lib.hid hB
  rw [← hB]
  clear hB
  go_enter Try.func107, Try.ntmps107
  go_wp2_with fail
  go_loopw [5, 13] (fun _ i wr => ∃ k m : Nat, k ≤ n ∧ i = .int .i64 k ∧ wr = w.drewN m ∧ ∀ j, j < k → L.getD j 0 = M.getD j 0) (fun _ i _ => n - (intOf i).toNat)
  case atStart => exact ⟨0, 0, by omega, rfl, rfl, fun j hj => by omega⟩
  case round =>
    obtain ⟨k, m, hk, rfl, rfl, hal⟩ := hrel
    have HAL := Lib.hid hal
    clear hal
    by_cases hkl : k < n
    · have hkl' : (k : Int) < (n : Int) := by omega
      obtain ⟨b1, o1, rfl, hb1, hc1⟩ := H1.out.resolve_left (fun e => by rw [e] at hn0; simp at hn0; omega)
      obtain ⟨b2, o2, rfl, hb2, hc2⟩ := H2.out.resolve_left (fun e => by have h3 := HE.out.1; rw [e] at h3; simp at h3; omega)
      have e1 := hc1 k (by omega)
      have e2 := hc2 k (by rw [← HE.out.1]; omega)
      by_cases he : L.getD k 0 = M.getD k 0
      · have hq : (L.getD k 0 != M.getD k 0) = false := by simpa using he
        have HEK := Lib.hid he
        clear hc1 hc2 he
        generalize hX : L.getD k 0 = X at *
        generalize hY : M.getD k 0 = Y at *
        have HX := Lib.hid hX
        have HY := Lib.hid hY
        clear hX hY
        go_wp2_with fail
        go_quiet (fail)
        go_wp2_with fail
        go_roundw
        case rel => exact ⟨k + 1, m + nq, by omega, by go_num, by simp, fun j hj => by
          rcases Nat.lt_succ_iff_lt_or_eq.1 hj with h | h
          · exact HAL.out j h
          · subst h; rw [HX.out, HY.out]; exact HEK.out⟩
        case measure => simp [intOf]; omega
      · have hq : (L.getD k 0 != M.getD k 0) = true := by simpa using he
        have HF : Hid (B = false) := Lib.hid (by
          rw [HB.out]
          exact eqLB_no fun e => he (by rw [e]))
        clear hc1 hc2 he
        generalize L.getD k 0 = X at *
        generalize M.getD k 0 = Y at *
        go_wp2_with fail
        go_quiet (fail)
        go_wp2_with fail
        go_ret
        exact ⟨by rw [HF.out]; rfl, below_drewN (below_drewN (Below.refl _ _) _) _⟩
    · have HT : Hid (B = true) := Lib.hid (by
        rw [HB.out, eqLB_iff]
        exact HE.out.2 fun j hj => HAL.out j (by omega))
      go_wp2_with fail
      go_ret
      exact ⟨by rw [HT.out]; rfl, below_drewN (Below.refl _ _) _⟩

set_option maxRecDepth 100000 in
set_option maxHeartbeats 1000000 in
theorem anf_any (L : List Int) (hn : L.length ≤ 1000) (hwf : ∀ x ∈ L, (Lit.int .i64 x).wf = true) (a : Option Addr) (c : Nat) (w : World) (h : InRow w a L) :
    Calls Try.prog 91 #[.slice a L.length c] w fun e w' => e = .returned (.bool (clsB L L.length)) ∧ Below w.heap.size w w' := by
  have HN := Lib.hid (nbf_any L hn hwf a c w h)
  have hkl := kerK_len (tL L) L.length
  have hB := clsB_len L
  have hE := fun a1 a2 c1 c2 w h1 h2 => sleq_any (kerK (tL L) L.length) L hkl (by omega) a1 a2 c1 c2 w h1 h2
  rw [hkl] at hE
  have HE := Lib.hid hE
  clear hE
  have HR := Lib.hid h
  rw [hB]
  obtain ⟨B, hB2⟩ : ∃ B, B = eqLB (kerK (tL L) L.length) L := ⟨_, rfl⟩
  rw [← hB2] at HE ⊢
  clear h hB hB2
  obtain ⟨n, hn2⟩ : ∃ n, n = L.length := ⟨_, rfl⟩
  generalize kerK (tL L) L.length = R at *
  rw [← hn2] at hkl HE hn HN ⊢
  clear hn2
  go_enter Try.func91, Try.ntmps91
  go_wp2_with fail
  refine HN.out.mono ?_
  rintro e w1 ⟨v, rfl, hown, hb⟩
  obtain ⟨a1, c1, rfl, hrd⟩ := own_rd hown (by omega)
  have HB := Lib.hid hb
  have HRD := Lib.hid hrd.inRow
  rw [hkl]
  clear hkl
  have hs1 := hb.size
  clear hown hrd hb
  go_wp2_with fail
  refine (HE.out _ _ _ _ _ HRD.out (HR.out.below HB.out)).mono ?_
  rintro e w2 ⟨rfl, hb2⟩
  have HB2 := Lib.hid hb2
  clear hb2
  go_wp2_with fail
  go_ret
  exact ⟨rfl, HB.out.trans (HB2.out.mono hs1)⟩

set_option maxRecDepth 100000 in
set_option maxHeartbeats 1000000 in
theorem sis6_any (L : List Int) (hn : L.length ≤ 1048576) (m : Nat) (hm : m ≤ 1000) (a : Option Addr) (c : Nat) (w : World) (h : InRow w a L) :
    Calls Try.prog 88 #[.slice a L.length c, .int .i64 (m : Int)] w fun e w' => e = .returned (.bool (clsB L m)) ∧ Below w.heap.size w w' := by
  have HR := Lib.hid h
  clear h
  by_cases hl : L.length = m
  · subst hl
    obtain ⟨m, hm2⟩ : ∃ m, m = L.length := ⟨_, rfl⟩
    have HL := Lib.hid hm2
    rw [← hm2] at hm hn ⊢
    clear hm2
    have hq : ((m : Int) != (m : Int)) = false := by simp
    obtain ⟨B, hB⟩ : ∃ B, B = clsB L m := ⟨_, rfl⟩
    have HB := Lib.hid hB
    rw [← hB]
    clear hB
    go_enter Try.func88, Try.ntmps88
    go_wp2_with fail
    go_loopw [5, 6] (fun nx i wr => ∃ k : Nat, k ≤ m ∧ i = .int .i64 k ∧ nx = .int .i64 (rkK (tL L) k) ∧ wr = w ∧ ∀ j, j < k → tL L j = kvK (tL L) j) (fun _ i _ => m - (intOf i).toNat)
    case atStart => exact ⟨0, by omega, rfl, rfl, rfl, fun j hj => by omega⟩
    case round =>
      obtain ⟨k, hk, rfl, rfl, rfl, hal⟩ := hrel
      have HAL := Lib.hid hal
      clear hal
      by_cases hkm : k < m
      · have hkm' : (k : Int) < (m : Int) := by omega
        obtain ⟨b, off, rfl, hlt, hin⟩ := HR.out.resolve_left (fun e => by have h3 := HL.out; rw [e] at h3; simp at h3; omega)
        have e1 := hin k (by rw [← HL.out]; exact hkm)
        rw [show L.getD k 0 = tL L k from rfl] at e1
        have hrk := rkK_le (tL L) k
        have HNO := Lib.hid fun h0 h1 => next_ok (tL L) k HAL.out h0 h1
        have HNN := Lib.hid (next_new (tL L) k)
        have HRS := Lib.hid (rkK_succ (tL L) k)
        have HKL := Lib.hid (kv_le (tL L) k)
        have HKB := Lib.hid (kvK_bd (tL L) k)
        clear hin
        cases hi : inB (tL L k) 0 (rkK (tL L) k)
        · have HF : Hid (B = false) := Lib.hid (by
            rw [HB.out, Bool.eq_false_iff]
            intro hc
            have hv := (clsB_iff.1 hc).val hkm
            rw [Bool.eq_false_iff] at hi
            refine hi (inB_true.2 ?_)
            rw [hv]
            exact ⟨HKB.out.1, HKL.out⟩)
          generalize tL L k = X at *
          generalize rkK (tL L) k = RK at *
          go_wp2_with (go_at_call 102; refine (in_any _ _ _ _).mono ?_; rintro e w ⟨rfl, rfl⟩)
          go_ret
          exact ⟨by rw [HF.out]; rfl, Below.refl _ _⟩
        · have hi2 := inB_true.1 hi
          have hv := HNO.out hi2.1 hi2.2
          have HV : Hid (∀ j, j < k + 1 → tL L j = kvK (tL L) j) := Lib.hid fun j hj => by
            rcases Nat.lt_succ_iff_lt_or_eq.1 hj with h | h
            · exact HAL.out j h
            · subst h; exact hv
          have hnn := HNN.out hv
          by_cases hf : fst1 (tL L) k = k
          · have hq2 : (tL L k == (rkK (tL L) k : Int)) = true := by simpa using hnn.2 hf
            have hRS := HRS.out
            rw [if_pos hf] at hRS
            have HRS2 := Lib.hid hRS
            clear hRS hf hnn hv hi2 HRS HNN HNO HKL HKB
            generalize tL L k = X at *
            generalize hRK : rkK (tL L) k = RK at *
            clear hRK
            go_wp2_with (go_at_call 102; refine (in_any _ _ _ _).mono ?_; rintro e w ⟨rfl, rfl⟩)
            go_roundw
            case rel => exact ⟨k + 1, by omega, by go_num, (by first | (rw [HRS2.out]; done) | (rw [HRS2.out]; go_num)), trivial, HV.out⟩
            case measure => simp [intOf]; omega
          · have hq2 : (tL L k == (rkK (tL L) k : Int)) = false := by
              rw [beq_eq_false_iff_ne]; exact fun e => hf (hnn.1 e)
            have hRS := HRS.out
            rw [if_neg hf] at hRS
            have HRS2 := Lib.hid hRS
            clear hRS hf hnn hv hi2 HRS HNN HNO HKL HKB
            generalize tL L k = X at *
            generalize hRK : rkK (tL L) k = RK at *
            clear hRK
            go_wp2_with (go_at_call 102; refine (in_any _ _ _ _).mono ?_; rintro e w ⟨rfl, rfl⟩)
            go_roundw
            case rel => exact ⟨k + 1, by omega, by go_num, by rw [HRS2.out], trivial, HV.out⟩
            case measure => simp [intOf]; omega
      · have HT : Hid (B = true) := Lib.hid (by
          rw [HB.out]
          exact clsB_iff.2 (cls_of HL.out.symm fun i hi => HAL.out i (by omega)))
        go_wp2_with fail
        go_ret
        exact ⟨by rw [HT.out]; rfl, Below.refl _ _⟩
  · have hq : ((L.length : Int) != (m : Int)) = true := by simp; omega
    have HF : Hid (clsB L m = false) := Lib.hid (by
      rw [Bool.eq_false_iff]
      intro hc
      exact hl (clsB_iff.1 hc).1)
    rw [HF.out]
    go_enter Try.func88, Try.ntmps88
    go_wp2_with fail
    go_ret
    exact ⟨rfl, Below.refl _ _⟩

end Go.Proofs.Ytoagpklippdlmaa

namespace Go.Proofs.Ytoagpklippdlmaa
open Go Go.RowKit

/-- Rows that came in. -/
def InRows (w : World) (a : Option Addr) (LL : List (List Int)) : Prop :=
  LL = [] ∨ ∃ b, a = some ⟨b, 0, none⟩ ∧ b < w.heap.size ∧ ∀ j, j < LL.length → ∃ aj cj, w.cell? ⟨b, j, none⟩ = some (.slice aj (LL.getD j []).length cj) ∧ InRow w aj (LL.getD j [])

theorem InRows.below {w w' : World} {a : Option Addr} {LL : List (List Int)} (h : InRows w a LL) (hb : Below w.heap.size w w') : InRows w' a LL := by
  rcases h with h0 | ⟨b, ha, hlt, hc⟩
  · exact Or.inl h0
  · refine Or.inr ⟨b, ha, Nat.lt_of_lt_of_le hlt hb.size, fun j hj => ?_⟩
    obtain ⟨aj, cj, h1, h2⟩ := hc j hj
    exact ⟨aj, cj, (hb.cell (p := ⟨b, j, none⟩) hlt).trans h1, h2.below hb⟩

/-- Arrays of classes that came in. -/
def InRowA (w : World) (a : Option Addr) (LL : List (List Int)) : Prop :=
  LL = [] ∨ ∃ b, a = some ⟨b, 0, none⟩ ∧ b < w.heap.size ∧ ∀ j, j < LL.length → w.rangeAt b (j * 30) (acl (LL.getD j []))

theorem rangeAt_below {w w' : World} {b o : Nat} {cs : List Value} (h : w.rangeAt b o cs) (hlt : b < w.heap.size) (hb : Below w.heap.size w w') : w'.rangeAt b o cs := fun j v hv => (hb.cell (p := ⟨b, o + j, none⟩) hlt).trans (h j v hv)

theorem InRowA.below {w w' : World} {a : Option Addr} {LL : List (List Int)} (h : InRowA w a LL) (hb : Below w.heap.size w w') : InRowA w' a LL := by
  rcases h with h0 | ⟨b, ha, hlt, hc⟩
  · exact Or.inl h0
  · exact Or.inr ⟨b, ha, Nat.lt_of_lt_of_le hlt hb.size, fun j hj => rangeAt_below (hc j hj) hlt hb⟩

def acls (LL : List (List Int)) : List Value := LL.flatMap acl

theorem acls_app (A B : List (List Int)) : acls (A ++ B) = acls A ++ acls B := by unfold acls; rw [List.flatMap_append]

theorem acls_len : ∀ LL : List (List Int), (∀ X ∈ LL, X.length ≤ 30) → (acls LL).length = LL.length * 30
  | [], _ => rfl
  | X :: LL, h => by
    unfold acls
    rw [List.flatMap_cons, List.length_append, show (List.flatMap acl LL).length = (acls LL).length from rfl, acls_len LL fun Y hY => h Y (List.mem_cons_of_mem _ hY), acl_len (h X List.mem_cons_self), List.length_cons]
    omega

theorem acls_at : ∀ (LL : List (List Int)) (_ : ∀ X ∈ LL, X.length ≤ 30) (j i : Nat), j < LL.length → i < 30 → (acls LL)[j * 30 + i]? = (acl (LL.getD j []))[i]?
  | [], _, j, i, h, _ => by simp at h
  | X :: LL, hX, 0, i, _, hi => by
    unfold acls
    rw [List.flatMap_cons, Nat.zero_mul, Nat.zero_add, List.getElem?_append_left (by rw [acl_len (hX X List.mem_cons_self)]; exact hi)]
    rfl
  | X :: LL, hX, j + 1, i, h, hi => by
    have ih := acls_at LL (fun Y hY => hX Y (List.mem_cons_of_mem _ hY)) j i (by simpa using h) hi
    unfold acls at *
    rw [List.flatMap_cons, List.getElem?_append_right (by rw [acl_len (hX X List.mem_cons_self)]; omega), acl_len (hX X List.mem_cons_self), show (j + 1) * 30 + i - 30 = j * 30 + i by omega, ih]
    rfl

/-- A list of arrays of classes of the call's own. -/
def OwnA (w : World) (B : Nat) (v : Value) (LL : List (List Int)) : Prop := w.ownsRow B 64 30 v LL.length (acls LL)

theorem ownA_in {w : World} {B : Nat} {v : Value} {LL : List (List Int)} (hX : ∀ X ∈ LL, X.length ≤ 30) (h : OwnA w B v LL) : ∃ a cap, v = .slice a LL.length cap ∧ InRowA w a LL := by
  rcases h.2 with ⟨h1, h0⟩ | ⟨g, cap, cur, h1, hB, hg, hn, hcap, hsz, htk⟩
  · exact ⟨none, 0, by rw [h1, h0], Or.inl (List.length_eq_zero_iff.1 h0)⟩
  · refine ⟨_, cap, h1, Or.inr ⟨g, rfl, (Array.getElem?_eq_some_iff.1 hg).1, fun j hj i v hv => ?_⟩⟩
    have hlen : (LL.getD j []).length ≤ 30 := by
      rw [List.getD_eq_getElem?_getD, List.getElem?_eq_getElem hj]
      exact hX _ (List.getElem_mem hj)
    have hi : i < 30 := by
      have := (List.getElem?_eq_some_iff.1 hv).1
      rw [acl_len hlen] at this
      exact this
    have e : cur[j * 30 + i]? = (acls LL)[j * 30 + i]? := by
      rw [← htk, List.getElem?_take, if_pos (by omega), Array.getElem?_toList]
    rw [Joins.cell_of_block hg, e, acls_at LL hX j i hj hi, hv]

theorem info_arr : (Try.prog.info? 64).map (fun i => (i.zero, i.size, i.bytes)) = some (some (.agg (acl []).toArray), 30, 240) := by kernel_rfl

theorem acls_one (LL : List (List Int)) : ∀ u ∈ acls LL, u.oneCell' = true := fun u hu => by
  unfold acls at hu
  obtain ⟨X, _, h⟩ := List.mem_flatMap.1 hu
  unfold acl at h
  obtain ⟨x, _, rfl⟩ := List.mem_map.1 h
  rfl

/-- Cells laid one after another into an array. -/
theorem fold_zip (i : Nat) : ∀ (cs : List Value) (k : Nat) (Z : Array Value), k + cs.length ≤ Z.size → ((cs.zipIdx k).foldl (fun a x => a.setIfInBounds x.snd x.fst) Z)[i]? = if k ≤ i ∧ i < k + cs.length then cs[i - k]? else Z[i]?
  | [], k, Z, _ => by
    rw [if_neg (by simp)]
    rfl
  | x :: cs, k, Z, h => by
    rw [List.length_cons] at h
    rw [List.zipIdx_cons, List.foldl_cons, fold_zip i cs (k + 1) _ (by simp; omega), List.length_cons]
    by_cases h1 : i = k
    · subst h1
      rw [if_neg (by omega), if_pos (by omega), Array.getElem?_setIfInBounds, if_pos rfl, if_pos (by omega), Nat.sub_self]
      rfl
    · by_cases h2 : k + 1 ≤ i ∧ i < k + 1 + cs.length
      · rw [if_pos h2, if_pos (by omega), show i - k = (i - (k + 1)) + 1 by omega]
        rfl
      · rw [if_neg h2, if_neg (by omega), Array.getElem?_setIfInBounds, if_neg (by omega)]

/-- append of an array onto a list of arrays of the call's own. -/
theorem wpList_appA {ops : Array Oper} {rest : List Oper} {o : Oper} {ac : Act} {Q : Exit → Act → World → Prop} {w : World} (hgd : o.guard = none) (s x : Operand)
    (ho : o.op = .call { callee := .builtin .append, args := #[s, x], argTypes := #[69, 69] })
    (base : Nat) (v : Value) (LL : List (List Int)) (hs : ac.eval s = v) (hown : OwnA w base v LL) (b c : Nat) (X : List Int) (hX : X.length ≤ 30) (hx : ac.eval x = .slice (some ⟨b, 0, none⟩) 1 c) (hb : ∀ i, i < 30 → w.cell? ⟨b, i, none⟩ = (acl X)[i]?)
    (hlen : LL.length ≤ 1000) (hbase : base ≤ w.heap.size)
    (h : ∀ v' w', OwnA w' base v' (LL ++ [X]) → w.grownBy w' v.ownBlock → wpList Try.prog ops Q rest (ac.put o.dst v') w') : wpList Try.prog ops Q (o :: rest) ac w := by
  obtain ⟨i0, hi, hz0, hz1, hz2⟩ := info_parts info_arr
  have e1 : acls [X] = acl X := by unfold acls; simp
  refine wpList_append_own_at w hgd s x _ ho base 64 i0 _ 30 240 Try.underlying69 hi hz0 hz1 hz2 (by simp [Value.cells, acl_len (L := []) (by simp)]) (by decide) v LL.length (acls LL) hs hown ⟨b, 0, none⟩ 1 c (acls [X]) hx (by rw [e1, acl_len hX]) (fun j u hj => ?_) (acls_one _) (by unfold maxLen; omega) (by omega) hbase ?_
  · rw [e1] at hj
    have hjl := (List.getElem?_eq_some_iff.1 hj).1
    rw [acl_len hX] at hjl
    have hadd : (⟨b, 0, none⟩ : Addr).add j = ⟨b, j, none⟩ := by cases j <;> simp [Addr.add]
    rw [hadd, hb j hjl, hj]
  · intro v' w' h1 h2 _ _
    refine h v' w' ?_ h2
    unfold OwnA
    rw [acls_app, List.length_append]
    exact h1

/-- The code of a list with classes. -/
noncomputable def clC (L : List MapN) (LL : List (List Int)) : Int := if tC 30 L = 0 then (if LL.all (fun X => clsB X (elsK L).length) = true then 0 else 2) else tC 30 L

theorem clC_bad {L : List MapN} {LL : List (List Int)} (h : tC 30 L ≠ 0) : clC L LL = tC 30 L := by unfold clC; rw [if_neg h]
theorem clC_0 {L : List MapN} {LL : List (List Int)} (h : tC 30 L = 0) (h2 : ∀ j, j < LL.length → clsB (LL.getD j []) (elsK L).length = true) : clC L LL = 0 := by
  unfold clC
  rw [if_pos h, if_pos]
  rw [List.all_eq_true]
  intro X hX
  obtain ⟨j, hj, rfl⟩ := List.getElem_of_mem hX
  have := h2 j hj
  rw [List.getD_eq_getElem?_getD, List.getElem?_eq_getElem hj] at this
  exact this
theorem clC_2 {L : List MapN} {LL : List (List Int)} (h : tC 30 L = 0) (j : Nat) (hj : j < LL.length) (h2 : clsB (LL.getD j []) (elsK L).length = false) : clC L LL = 2 := by
  unfold clC
  rw [if_pos h, if_neg]
  rw [List.all_eq_true]
  intro hc
  have := hc _ (List.getElem_mem hj)
  rw [List.getD_eq_getElem?_getD, List.getElem?_eq_getElem hj] at h2
  rw [show clsB LL[j] (elsK L).length = false from h2] at this
  cases this

/-- What is left of a list with classes, on the side of spec. -/
def RetCl (L : List MapN) (LL : List (List Int)) (w : World) (e : Ending) (w' : World) : Prop :=
  Below w.heap.size w w' ∧ ((clC L LL ≠ 0 ∧ e = .returned (.tuple #[.slice none 0 0, .int .i64 (clC L LL)])) ∨
    (clC L LL = 0 ∧ Mon (fst0 L) (elsK L) ∧ (elsK L).length ≤ 30 ∧ (∀ j, j < LL.length → Cls (LL.getD j []) (elsK L).length) ∧ ∃ a cap, e = .returned (.tuple #[.slice a (elsK L).length cap, .int .i64 0]) ∧ Tb w' w'.heap.size a (elsK L).length (muK (fst0 L) (elsK L))))

/-- The same, on the side of impl, with the arrays. -/
def RetClI (L : List MapN) (LL : List (List Int)) (w : World) (e : Ending) (w' : World) : Prop :=
  Below w.heap.size w w' ∧ ((clC L LL ≠ 0 ∧ e = .returned (.tuple #[.slice none 0 0, .slice none 0 0, .int .i64 (clC L LL)])) ∨
    (clC L LL = 0 ∧ Mon (fst0 L) (elsK L) ∧ (elsK L).length ≤ 30 ∧ (∀ j, j < LL.length → Cls (LL.getD j []) (elsK L).length) ∧ ∃ a cap a2 c2, e = .returned (.tuple #[.slice a (elsK L).length cap, .slice a2 LL.length c2, .int .i64 0]) ∧ Tb w' w'.heap.size a (elsK L).length (muK (fst0 L) (elsK L)) ∧ InRowA w' a2 LL))

set_option maxRecDepth 100000 in
set_option maxHeartbeats 2000000 in
theorem scl_any (a : Option Addr) (c : Nat) (L : List MapN) (hl : L.length ≤ 1048576) (LL : List (List Int)) (hLn : LL.length ≤ 1000) (hLL : ∀ j, j < LL.length → (LL.getD j []).length ≤ 1048576) (ag : Option Addr) (cg : Nat) (w : World) (hr : InRowM w a L) (hg : InRows w ag LL) :
    Calls Try.prog 53 #[.slice a L.length c, .slice ag LL.length cg] w (RetCl L LL w) := by
  have HG := Lib.hid (sgvn_any 30 (by omega) a c L hl w hr)
  have HRS := Lib.hid hg
  have HLL := Lib.hid hLL
  clear hr hg hLL
  go_enter Try.func53, Try.ntmps53
  go_wp2_with fail
  refine HG.out.mono ?_
  rintro e w1 ⟨hb, ⟨hc, rfl⟩ | ⟨hc, hmon, hle, a1, c1, rfl, htb⟩⟩
  · have HB := Lib.hid hb
    have HE := Lib.hid (clC_bad (LL := LL) hc)
    have hne : (tC 30 L != 0) = true := by simpa using hc
    have HC := Lib.hid hc
    clear hb hc
    generalize tC 30 L = C at *
    go_wp2_with fail
    go_ret2
    exact ⟨HB.out, Or.inl ⟨by rw [HE.out]; exact HC.out, by rw [HE.out]; rfl⟩⟩
  · have HB := Lib.hid hb
    have HC := Lib.hid hc
    have HMO := Lib.hid hmon
    have HTB := Lib.hid htb
    have HRW := Lib.hid (HRS.out.below hb)
    have HQ := Lib.hid fun j hj h2 => clC_2 (LL := LL) hc j hj h2
    have HQ0 := Lib.hid fun h2 => clC_0 (LL := LL) hc h2
    have hs1 := hb.size
    clear hb hc hmon htb
    obtain ⟨m, hm⟩ : ∃ m, m = (elsK L).length := ⟨_, rfl⟩
    have HM := Lib.hid hm
    rw [← hm] at hle HQ HQ0 HTB ⊢
    clear hm
    go_wp2_with fail
    go_loopw [8] (fun i wr => ∃ k : Nat, k ≤ LL.length ∧ i = .int .i64 k ∧ Below w1.heap.size w1 wr ∧ ∀ j, j < k → clsB (LL.getD j []) m = true) (fun i _ => LL.length - (intOf i).toNat)
    case atStart => exact ⟨0, by omega, rfl, Below.refl _ _, fun j hj => by omega⟩
    case round =>
      obtain ⟨k, hk, rfl, hb, hal⟩ := hrel
      have HBR := Lib.hid hb
      have HAL := Lib.hid hal
      have hsr := hb.size
      by_cases hkl : k < LL.length
      · have hkl' : (k : Int) < (LL.length : Int) := by omega
        obtain ⟨b, rfl, hbl, hcs⟩ := (HRW.out.below hb).resolve_left (fun e => by rw [e] at hkl; simp at hkl)
        obtain ⟨aj, cj, e1, hrow⟩ := hcs k hkl
        have hx := HLL.out k hkl
        have HIS := Lib.hid (sis6_any (LL.getD k []) hx m (by omega) aj cj wr hrow)
        have HQK := Lib.hid fun h2 => HQ.out k hkl h2
        have HALS : Hid (clsB (LL.getD k []) m = true → ∀ j, j < k + 1 → clsB (LL.getD j []) m = true) := Lib.hid fun h j hj => by
          rcases Nat.lt_succ_iff_lt_or_eq.1 hj with h2 | h2
          · exact HAL.out j h2
          · subst h2; exact h
        clear hb hal hcs hrow
        generalize hX : LL.getD k [] = X at *
        clear hX
        go_wp2_with fail
        refine HIS.out.mono ?_
        rintro e w2 ⟨rfl, hb2⟩
        have HB2 : Hid (Below w1.heap.size w1 w2) := Lib.hid (HBR.out.trans (hb2.mono hsr))
        clear hb2 e1
        cases hv : clsB X m
        · have HE2 := Lib.hid (HQK.out hv)
          clear hv
          go_wp2_with fail
          go_ret2
          exact ⟨HB.out.trans (HB2.out.mono hs1), Or.inl ⟨by rw [HE2.out]; decide, by rw [HE2.out]; rfl⟩⟩
        · have HV := Lib.hid (HALS.out hv)
          clear hv
          go_wp2_with fail
          go_roundw
          case rel => exact ⟨k + 1, by omega, by go_num, HB2.out, HV.out⟩
          case measure => simp [intOf]; omega
      · obtain rfl : k = LL.length := by omega
        have HE0 := Lib.hid (HQ0.out HAL.out)
        clear hb hal
        go_wp2_with fail
        go_ret2
        refine ⟨HB.out.trans (HBR.out.mono hs1), Or.inr ⟨HE0.out, HMO.out, by rw [← HM.out]; exact hle, fun j hj => by rw [← HM.out]; exact clsB_iff.1 (HAL.out j hj), a1, c1, by rw [← HM.out]; rfl, ?_⟩⟩
        rw [← HM.out]
        exact (HTB.out.below HBR.out).up hsr (Nat.le_refl _)

set_option maxRecDepth 100000 in
set_option maxHeartbeats 4000000 in
theorem icl_any (a : Option Addr) (c : Nat) (hc0 : a = none → c = 0) (L : List MapN) (hl : L.length ≤ 1048576) (LL : List (List Int)) (hLn : LL.length ≤ 1000) (hLw : ∀ j, j < LL.length → ∀ x ∈ LL.getD j [], (Lit.int .i64 x).wf = true) (ag : Option Addr) (cg : Nat) (w : World) (hr : InRowM w a L) (hg : InRows w ag LL) :
    Calls Try.prog 56 #[.slice a L.length c, .slice ag LL.length cg] w (RetClI L LL w) := by
  have HG := Lib.hid (ita_any 30 (by omega) a c hc0 L hl w hr)
  have HRS := Lib.hid hg
  have HLW := Lib.hid hLw
  clear hr hg hLw hc0
  go_enter Try.func56, Try.ntmps56
  go_wp2_with fail
  refine HG.out.mono ?_
  rintro e w1 ⟨hb, ⟨hc, rfl⟩ | ⟨hc, hmon, hle, a1, c1, rfl, htb⟩⟩
  · have HB := Lib.hid hb
    have HE := Lib.hid (clC_bad (LL := LL) hc)
    have hne : (tC 30 L != 0) = true := by simpa using hc
    have HC := Lib.hid hc
    clear hb hc
    generalize tC 30 L = C at *
    go_wp2_with fail
    go_ret3
    exact ⟨HB.out, Or.inl ⟨by rw [HE.out]; exact HC.out, by rw [HE.out]; rfl⟩⟩
  · have HB := Lib.hid hb
    have HC := Lib.hid hc
    have HMO := Lib.hid hmon
    have HTB := Lib.hid htb
    have HRW := Lib.hid (HRS.out.below hb)
    have HQ := Lib.hid fun j hj h2 => clC_2 (LL := LL) hc j hj h2
    have HQ0 := Lib.hid fun h2 => clC_0 (LL := LL) hc h2
    have hs1 := hb.size
    clear hb hc hmon htb
    obtain ⟨m, hm⟩ : ∃ m, m = (elsK L).length := ⟨_, rfl⟩
    have HM := Lib.hid hm
    rw [← hm] at hle HQ HQ0 HTB ⊢
    clear hm
    go_wp2_with fail
    go_loopw [9, 11, 22] (fun v _ i wr => ∃ k : Nat, k ≤ LL.length ∧ i = .int .i64 k ∧ OwnA wr w1.heap.size v (LL.take k) ∧ Below w1.heap.size w1 wr ∧ ∀ j, j < k → clsB (LL.getD j []) m = true) (fun _ _ i _ => LL.length - (intOf i).toNat)
    case atStart => exact ⟨0, by omega, rfl, World.ownsRow_nil _ _ _ _, Below.refl _ _, fun j hj => by omega⟩
    case round =>
      obtain ⟨k, hk, rfl, hown, hb, hal⟩ := hrel
      have HOW := Lib.hid hown
      have HBR := Lib.hid hb
      have HAL := Lib.hid hal
      have hsr := hb.size
      by_cases hkl : k < LL.length
      · have hkl' : (k : Int) < (LL.length : Int) := by omega
        obtain ⟨b, rfl, hbl, hcs⟩ := (HRW.out.below hb).resolve_left (fun e => by rw [e] at hkl; simp at hkl)
        obtain ⟨aj, cj, e1, hrow⟩ := hcs k hkl
        have HXW := Lib.hid (HLW.out k hkl)
        have HQK := Lib.hid fun h2 => HQ.out k hkl h2
        have HALS : Hid (clsB (LL.getD k []) m = true → ∀ j, j < k + 1 → clsB (LL.getD j []) m = true) := Lib.hid fun h j hj => by
          rcases Nat.lt_succ_iff_lt_or_eq.1 hj with h2 | h2
          · exact HAL.out j h2
          · subst h2; exact h
        have HTK : Hid (LL.take (k + 1) = LL.take k ++ [LL.getD k []]) := Lib.hid (by
          rw [List.take_add_one, List.getElem?_eq_getElem hkl, List.getD_eq_getElem?_getD, List.getElem?_eq_getElem hkl]; rfl)
        have htl : (LL.take k).length = k := by rw [List.length_take]; omega
        have HROW := Lib.hid hrow
        clear hb hal hcs hrow hown
        generalize LL.getD k [] = X at *
        by_cases hlen : X.length = m
        · have hAN := fun w h => anf_any X (by omega) HXW.out aj cj w h
          have hAR := fun w h => arrC_any X (by omega) aj cj w h
          rw [hlen] at hAN hAR e1
          have HAN := Lib.hid hAN
          have HAR := Lib.hid hAR
          have HX30 : Hid (X.length ≤ 30) := Lib.hid (by omega)
          clear hAN hAR hlen
          have hq : ((m : Int) != (m : Int)) = false := by simp
          go_wp2_with fail
          refine (HAN.out _ HROW.out).mono ?_
          rintro e w2 ⟨rfl, hb2⟩
          have HB2 : Hid (Below w1.heap.size w1 w2) := Lib.hid (HBR.out.trans (hb2.mono hsr))
          have HO2 : Hid (OwnA w2 w1.heap.size u9 (LL.take k)) := Lib.hid (HOW.out.kept (row := none) ⟨hb2.os, hb2.tape, hb2.output, hb2.size, fun j hj _ => hb2.block j hj⟩ (by cases hv : u9.ownBlock <;> simp))
          have HR2 := Lib.hid (HROW.out.below hb2)
          have hs2 := HB2.out.size
          clear hb2 e1
          cases hv : clsB X m
          · have HE2 := Lib.hid (HQK.out hv)
            clear hv
            go_wp2_with fail
            go_ret3
            exact ⟨HB.out.trans (HB2.out.mono hs1), Or.inl ⟨by rw [HE2.out]; decide, by rw [HE2.out]; rfl⟩⟩
          · have HV := Lib.hid (HALS.out hv)
            clear hv
            go_wp2_with fail
            refine (HAR.out _ HR2.out).mono ?_
            rintro e w3 ⟨rfl, hb3⟩
            have HB3 : Hid (Below w1.heap.size w1 w3) := Lib.hid (HB2.out.trans (hb3.mono hs2))
            have HO3 : Hid (OwnA w3 w1.heap.size u9 (LL.take k)) := Lib.hid (HO2.out.kept (row := none) ⟨hb3.os, hb3.tape, hb3.output, hb3.size, fun j hj _ => hb3.block j hj⟩ (by cases hv : u9.ownBlock <;> simp))
            have hs3 := HB3.out.size
            have HCE : Hid (ac X = (acl X).toArray) := Lib.hid rfl
            rw [HCE.out]
            clear hb3
            have hal30 := acl_len HX30.out
            go_wp2_with (at_builtin; refine wpList_appA rfl _ _ rfl w1.heap.size _ (LL.take k) rfl (show OwnA _ _ _ _ from (HO3.out : w3.ownsRow _ _ _ _ _ _).alloc _) w3.heap.size 1 X HX30.out rfl ?hb (by omega) (by simp; omega) ?_)
            case hb =>
              intro i hi
              rw [World.cell?_alloc_new, fold_zip i (acl X) 0 _ (by simp [hal30]), if_pos (by omega), Nat.sub_zero]
            intro v' w4 hown4 hg4
            have HO4 : Hid (OwnA w4 w1.heap.size v' (LL.take (k + 1))) := Lib.hid (by rw [HTK.out]; exact hown4)
            have HB4 : Hid (Below w1.heap.size w1 w4) := Lib.hid ((HB3.out.alloc hs3 _).grown hg4 (by simp; omega) (fun r e => (HO3.out.lt r e).1))
            clear hown4 hg4
            go_wp2_with fail
            go_roundw
            case rel => exact ⟨k + 1, by omega, by go_num, HO4.out, HB4.out, HV.out⟩
            case measure => simp [intOf]; omega
        · have hq : ((X.length : Int) != (m : Int)) = true := by simp; omega
          have HE2 : Hid (clC L LL = 2) := Lib.hid (HQK.out (by
            rw [Bool.eq_false_iff]; intro h; exact hlen (clsB_iff.1 h).1))
          clear hlen
          go_wp2_with fail
          go_ret3
          exact ⟨HB.out.trans (HBR.out.mono hs1), Or.inl ⟨by rw [HE2.out]; decide, by rw [HE2.out]; rfl⟩⟩
      · obtain rfl : k = LL.length := by omega
        have HE0 := Lib.hid (HQ0.out HAL.out)
        have hcl : ∀ j, j < LL.length → Cls (LL.getD j []) m := fun j hj => clsB_iff.1 (HAL.out j hj)
        have hT := HOW.out
        rw [List.take_length] at hT
        obtain ⟨a2, c2, rfl, hin⟩ := ownA_in (fun X hX => by
          obtain ⟨j, hj, rfl⟩ := List.getElem_of_mem hX
          have := (hcl j hj).1
          rw [List.getD_eq_getElem?_getD, List.getElem?_eq_getElem hj] at this
          simp only [Option.getD_some] at this
          omega) hT
        have HIN := Lib.hid hin
        have HCL := Lib.hid hcl
        clear hb hal hown hin hT hcl
        go_wp2_with fail
        go_ret3
        refine ⟨HB.out.trans (HBR.out.mono hs1), Or.inr ⟨HE0.out, HMO.out, by rw [← HM.out]; exact hle, fun j hj => by rw [← HM.out]; exact HCL.out j hj, a1, c1, a2, c2, by rw [← HM.out]; rfl, ?_, HIN.out⟩⟩
        rw [← HM.out]
        exact (HTB.out.below HBR.out).up hsr (Nat.le_refl _)

end Go.Proofs.Ytoagpklippdlmaa

namespace Go.Proofs.Ytoagpklippdlmaa
open Go Go.RowKit

/-- Whether classes are a (right) congruence; false with an error. -/
noncomputable def icB (s : Bool) (L : List MapN) (X : List Int) : Bool := if clC L [X] = 0 then cngB (elsK L).length (muK (fst0 L) (elsK L)) s X else false

theorem icB_0 {s : Bool} {L : List MapN} {X : List Int} (h : clC L [X] = 0) : icB s L X = cngB (elsK L).length (muK (fst0 L) (elsK L)) s X := by unfold icB; rw [if_pos h]
theorem icB_no {s : Bool} {L : List MapN} {X : List Int} (h : clC L [X] ≠ 0) : icB s L X = false := by unfold icB; rw [if_neg h]

/-- One row laid into a new block. -/
theorem rows_one {w : World} {a : Option Addr} {X : List Int} {c : Nat} (h : InRow w a X) : InRows (w.alloc (.cells #[.slice a X.length c] 26)) (some ⟨w.heap.size, 0, none⟩) [X] :=
  Or.inr ⟨w.heap.size, rfl, by simp, fun j hj => by
    have : j = 0 := by simpa using hj
    subst this
    exact ⟨a, c, Joins.cell_of_block (halloc_at w _ _ rfl) 0, h.below ((Below.refl _ _).alloc (Nat.le_refl _) _)⟩⟩

theorem one_j {X : List Int} {Q : List Int → Prop} (h : Q X) : ∀ j, j < [X].length → Q ([X].getD j []) := fun j hj => by
  have : j = 0 := by simpa using hj
  subst this
  exact h

set_option maxRecDepth 100000 in
set_option maxHeartbeats 2000000 in
theorem sisr_any (L : List MapN) (hl : L.length ≤ 1048576) (X : List Int) (hx : X.length ≤ 1048576) (_ : ∀ x ∈ X, (Lit.int .i64 x).wf = true) (a : Option Addr) (c : Nat) (_ : a = none → c = 0) (ax : Option Addr) (cx : Nat) (w : World) (hr : InRowM w a L) (hrx : InRow w ax X) :
    Calls Try.prog 28 #[.slice a L.length c, .slice ax X.length cx] w fun e w' => e = .returned (.tuple #[.bool (icB false L X), .int .i64 (clC L [X])]) ∧ Below w.heap.size w w' := by
  have hba : Below w.heap.size w (w.alloc (.cells #[.slice ax X.length cx] 26)) := (Below.refl _ _).alloc (Nat.le_refl _) _
  have HS := Lib.hid (scl_any a c L hl [X] (by simp) (one_j (Q := fun Y => Y.length ≤ 1048576) hx) (some ⟨w.heap.size, 0, none⟩) 1 _ (hr.below hba) (rows_one (c := cx) hrx))
  have HR := Lib.hid (hrx.below hba)
  have HBA := Lib.hid hba
  clear hr hrx hba
  go_enter Try.func28, Try.ntmps28
  go_wp2_with fail
  refine HS.out.mono ?_
  rintro e w1 ⟨hb, ⟨hc, rfl⟩ | ⟨hc, hmon, hle, hcl, a1, c1, rfl, htb⟩⟩
  · have HB := Lib.hid (HBA.out.trans (hb.mono (by simp)))
    have HE := Lib.hid (icB_no (s := false) hc)
    have hne : (clC L [X] != 0) = true := by simpa using hc
    clear hb hc
    generalize hCE : clC L [X] = C at *
    have HCE := Lib.hid hCE
    clear hCE
    go_wp2_with fail
    go_ret2
    exact ⟨by rw [HE.out, HCE.out]; rfl, HB.out⟩
  · have hlen := (hcl 0 (by simp)).1
    rw [show [X].getD 0 [] = X from rfl] at hlen
    have HB := Lib.hid (HBA.out.trans (hb.mono (by simp)))
    have HX1 := Lib.hid (HR.out.below hb)
    have HE : Hid (icB false L X = eqLB (kerG (elsK L).length (muK (fst0 L) (elsK L)) false (fun i j => tL X i = tL X j)) X) := Lib.hid ((icB_0 hc).trans rfl)
    have HC0 := Lib.hid hc
    have HCL := Lib.hid fun aT cT a c K w ht hr => clsd_any (elsK L).length (by omega) (mon_pos hmon) (muK (fst0 L) (elsK L)) (fun i j hi hj => muK_lt hmon i j hi hj) false X hlen aT a cT c K w ht hr
    have hkl := kerG_len (elsK L).length (muK (fst0 L) (elsK L)) false (fun i j => tL X i = tL X j)
    have HEQ := Lib.hid fun a1 a2 c1 c2 w h1 h2 => seq_any (kerG (elsK L).length (muK (fst0 L) (elsK L)) false (fun i j => tL X i = tL X j)) X (by omega) (by omega) a1 a2 c1 c2 w h1 h2
    have HTB := Lib.hid htb
    clear hb hc hcl hmon htb HS
    generalize kerG (elsK L).length (muK (fst0 L) (elsK L)) false (fun i j => tL X i = tL X j) = G at *
    generalize hmu : muK (fst0 L) (elsK L) = mu at *
    generalize hm : (elsK L).length = m at *
    have HCL2 := HCL.out
    have HEQ2 := HEQ.out
    rw [hkl, hlen] at HEQ2
    rw [hlen]
    have HEQ := Lib.hid HEQ2
    have HCL := Lib.hid HCL2
    clear HCL2 HEQ2
    generalize eqLB G X = B at *
    go_wp2_with fail
    refine (HCL.out _ _ _ _ _ _ HTB.out HX1.out).mono ?_
    rintro e w2 ⟨v, rfl, hown, hb2⟩
    obtain ⟨a2, c2, rfl, hrd⟩ := own_rd hown (by omega)
    have HB2 := Lib.hid (HB.out.trans (hb2.mono HB.out.size))
    have HRD := Lib.hid hrd.inRow
    have HX2 := Lib.hid (HX1.out.below hb2)
    clear hown hrd hb2
    rw [hkl]
    clear hkl
    go_wp2_with fail
    refine (HEQ.out _ _ _ _ _ HRD.out HX2.out).mono ?_
    rintro e w3 ⟨rfl, hb3⟩
    have HB3 := Lib.hid (HB2.out.trans (hb3.mono HB2.out.size))
    clear hb3
    go_wp2_with fail
    go_ret2
    exact ⟨by rw [HE.out, HC0.out]; rfl, HB3.out⟩

set_option maxRecDepth 100000 in
set_option maxHeartbeats 2000000 in
theorem sisc_any (L : List MapN) (hl : L.length ≤ 1048576) (X : List Int) (hx : X.length ≤ 1048576) (_ : ∀ x ∈ X, (Lit.int .i64 x).wf = true) (a : Option Addr) (c : Nat) (_ : a = none → c = 0) (ax : Option Addr) (cx : Nat) (w : World) (hr : InRowM w a L) (hrx : InRow w ax X) :
    Calls Try.prog 31 #[.slice a L.length c, .slice ax X.length cx] w fun e w' => e = .returned (.tuple #[.bool (icB true L X), .int .i64 (clC L [X])]) ∧ Below w.heap.size w w' := by
  have hba : Below w.heap.size w (w.alloc (.cells #[.slice ax X.length cx] 26)) := (Below.refl _ _).alloc (Nat.le_refl _) _
  have HS := Lib.hid (scl_any a c L hl [X] (by simp) (one_j (Q := fun Y => Y.length ≤ 1048576) hx) (some ⟨w.heap.size, 0, none⟩) 1 _ (hr.below hba) (rows_one (c := cx) hrx))
  have HR := Lib.hid (hrx.below hba)
  have HBA := Lib.hid hba
  clear hr hrx hba
  go_enter Try.func31, Try.ntmps31
  go_wp2_with fail
  refine HS.out.mono ?_
  rintro e w1 ⟨hb, ⟨hc, rfl⟩ | ⟨hc, hmon, hle, hcl, a1, c1, rfl, htb⟩⟩
  · have HB := Lib.hid (HBA.out.trans (hb.mono (by simp)))
    have HE := Lib.hid (icB_no (s := true) hc)
    have hne : (clC L [X] != 0) = true := by simpa using hc
    clear hb hc
    generalize hCE : clC L [X] = C at *
    have HCE := Lib.hid hCE
    clear hCE
    go_wp2_with fail
    go_ret2
    exact ⟨by rw [HE.out, HCE.out]; rfl, HB.out⟩
  · have hlen := (hcl 0 (by simp)).1
    rw [show [X].getD 0 [] = X from rfl] at hlen
    have HB := Lib.hid (HBA.out.trans (hb.mono (by simp)))
    have HX1 := Lib.hid (HR.out.below hb)
    have HE : Hid (icB true L X = eqLB (kerG (elsK L).length (muK (fst0 L) (elsK L)) true (fun i j => tL X i = tL X j)) X) := Lib.hid ((icB_0 hc).trans rfl)
    have HC0 := Lib.hid hc
    have HCL := Lib.hid fun aT cT a c K w ht hr => clsd_any (elsK L).length (by omega) (mon_pos hmon) (muK (fst0 L) (elsK L)) (fun i j hi hj => muK_lt hmon i j hi hj) true X hlen aT a cT c K w ht hr
    have hkl := kerG_len (elsK L).length (muK (fst0 L) (elsK L)) true (fun i j => tL X i = tL X j)
    have HEQ := Lib.hid fun a1 a2 c1 c2 w h1 h2 => seq_any (kerG (elsK L).length (muK (fst0 L) (elsK L)) true (fun i j => tL X i = tL X j)) X (by omega) (by omega) a1 a2 c1 c2 w h1 h2
    have HTB := Lib.hid htb
    clear hb hc hcl hmon htb HS
    generalize kerG (elsK L).length (muK (fst0 L) (elsK L)) true (fun i j => tL X i = tL X j) = G at *
    generalize hmu : muK (fst0 L) (elsK L) = mu at *
    generalize hm : (elsK L).length = m at *
    have HCL2 := HCL.out
    have HEQ2 := HEQ.out
    rw [hkl, hlen] at HEQ2
    rw [hlen]
    have HEQ := Lib.hid HEQ2
    have HCL := Lib.hid HCL2
    clear HCL2 HEQ2
    generalize eqLB G X = B at *
    go_wp2_with fail
    refine (HCL.out _ _ _ _ _ _ HTB.out HX1.out).mono ?_
    rintro e w2 ⟨v, rfl, hown, hb2⟩
    obtain ⟨a2, c2, rfl, hrd⟩ := own_rd hown (by omega)
    have HB2 := Lib.hid (HB.out.trans (hb2.mono HB.out.size))
    have HRD := Lib.hid hrd.inRow
    have HX2 := Lib.hid (HX1.out.below hb2)
    clear hown hrd hb2
    rw [hkl]
    clear hkl
    go_wp2_with fail
    refine (HEQ.out _ _ _ _ _ HRD.out HX2.out).mono ?_
    rintro e w3 ⟨rfl, hb3⟩
    have HB3 := Lib.hid (HB2.out.trans (hb3.mono HB2.out.size))
    clear hb3
    go_wp2_with fail
    go_ret2
    exact ⟨by rw [HE.out, HC0.out]; rfl, HB3.out⟩

set_option maxRecDepth 100000 in
set_option maxHeartbeats 4000000 in
theorem iisr_any (L : List MapN) (hl : L.length ≤ 1048576) (X : List Int) (_ : X.length ≤ 1048576) (hw : ∀ x ∈ X, (Lit.int .i64 x).wf = true) (a : Option Addr) (c : Nat) (hc0 : a = none → c = 0) (ax : Option Addr) (cx : Nat) (w : World) (hr : InRowM w a L) (hrx : InRow w ax X) :
    Calls Try.prog 30 #[.slice a L.length c, .slice ax X.length cx] w fun e w' => e = .returned (.tuple #[.bool (icB false L X), .int .i64 (clC L [X])]) ∧ Below w.heap.size w w' := by
  have hba : Below w.heap.size w (w.alloc (.cells #[.slice ax X.length cx] 26)) := (Below.refl _ _).alloc (Nat.le_refl _) _
  have HS := Lib.hid (icl_any a c hc0 L hl [X] (by simp) (one_j (Q := fun Y => ∀ x ∈ Y, (Lit.int .i64 x).wf = true) hw) (some ⟨w.heap.size, 0, none⟩) 1 _ (hr.below hba) (rows_one (c := cx) hrx))
  have HBA := Lib.hid hba
  clear hr hrx hba hc0
  go_enter Try.func30, Try.ntmps30
  go_wp2_with fail
  refine HS.out.mono ?_
  rintro e w1 ⟨hb, ⟨hc, rfl⟩ | ⟨hc, hmon, hle, hcl, a1, c1, a2, c2, rfl, htb, hia⟩⟩
  · have HB := Lib.hid (HBA.out.trans (hb.mono (by simp)))
    have HE := Lib.hid (icB_no (s := false) hc)
    have hne : (clC L [X] != 0) = true := by simpa using hc
    clear hb hc
    generalize hCE : clC L [X] = C at *
    have HCE := Lib.hid hCE
    clear hCE
    go_wp2_with fail
    go_ret2
    exact ⟨by rw [HE.out, HCE.out]; rfl, HB.out⟩
  · have hcls := hcl 0 (by simp)
    rw [show [X].getD 0 [] = X from rfl] at hcls
    have HB := Lib.hid (HBA.out.trans (hb.mono (by simp)))
    have HE := Lib.hid (icB_0 (s := false) hc)
    have HC0 := Lib.hid hc
    have hm1 := mon_pos hmon
    have hmu2 := fun i j hi hj => muK_lt hmon i j hi hj
    obtain ⟨b2, rfl, hb2, hrg⟩ := hia.resolve_left (by simp)
    have hrg0 := hrg 0 (by simp)
    rw [show [X].getD 0 [] = X from rfl, Nat.zero_mul] at hrg0
    have hcl30 : (acl X).length = 30 := acl_len (by rw [hcls.1]; exact hle)
    have hi30 : (Try.prog.info? 64).map (·.size) = some (acl X).length := by rw [hcl30]; exact size_arr
    have hu := Try.underlying64
    have HTB := Lib.hid htb
    clear hb hc hcl htb HS hrg hia
    have HPI := Lib.hid fun w => pairsIn2_any (elsK L).length hle hm1 X hcls a1 c1 w
    have HMB := Lib.hid fun a c w hT hP => pinmade_any (elsK L).length hle hm1 (muK (fst0 L) (elsK L)) hmu2 false X a1 a c1 c w1.heap.size w hT hP
    have hkl := kerG_len (elsK L).length (muK (fst0 L) (elsK L)) false (fun i j => tL X i = tL X j)
    have HEQ := fun w => eq30 (kerG (elsK L).length (muK (fst0 L) (elsK L)) false (fun i j => tL X i = tL X j)) X (by omega) (by rw [hkl, hcls.1]) (ker_wf _ _ (by omega)) (hcls.wf (by omega)) w
    have HCC : Hid (ac X = (acl X).toArray) := Lib.hid rfl
    have HCB : Hid (cngB (elsK L).length (muK (fst0 L) (elsK L)) false X = decide (kerG (elsK L).length (muK (fst0 L) (elsK L)) false (fun i j => tL X i = tL X j) = X)) := Lib.hid rfl
    rw [← HCB.out] at HEQ
    rw [HCC.out] at HPI HEQ
    clear hcls hmu2 hm1 hmon HCC HCB hkl
    generalize cngB (elsK L).length (muK (fst0 L) (elsK L)) false X = B at *
    generalize kerG (elsK L).length (muK (fst0 L) (elsK L)) false (fun i j => tL X i = tL X j) = G at *
    generalize muK (fst0 L) (elsK L) = mu at *
    generalize (elsK L).length = m at *
    generalize acl X = cs at *
    generalize ac G = CG at *
    generalize hIP : pin X m = PI at *
    clear hIP
    have HK : Hid (∀ z, Below w1.heap.size w1 z → z.rangeAt b2 0 cs ∧ Below w1.heap.size w1 z) := Lib.hid fun z hz => ⟨rangeAt_below hrg0 hb2 hz, hz⟩
    clear hrg0
    have hz01 : (0 : Int) < 1 := by decide
    go_wp2_with fail
    refine wp_region_held_drew (S := fun w' => w'.rangeAt b2 0 cs ∧ Below w1.heap.size w1 w') (by kernel_rfl) (HK.out _ (Below.refl _ _).drew) (fun hHeld => ?_)
    refine wpAnyH_take (i := 0) (v := .slice a1 m c1) rfl (by kernel_rfl) (by kernel_rfl) (by kernel_rfl) (fun _ _ _ h => h) (Or.inl ⟨by rfl, fun w hSw => by rfl⟩) hHeld ?_
    simp only [Act.put, List.setIfInBounds_toArray, List.set_cons_zero, List.set_cons_succ, List.getElem_cons_zero, List.getElem_toArray]
    refine wpAnyH_take (i := 1) (v := .slice a1 m c1) rfl (by kernel_rfl) (by kernel_rfl) (by kernel_rfl) (fun _ _ _ h => h) (Or.inl ⟨by rfl, fun w hSw => by rfl⟩) hHeld ?_
    simp only [Act.put, List.setIfInBounds_toArray, List.set_cons_zero, List.set_cons_succ, List.getElem_cons_zero, List.getElem_cons_succ, List.getElem_toArray]
    refine wpAnyH_take (i := 2) (v := .slice (some ⟨b2, 0, none⟩) 1 c2) rfl (by kernel_rfl) (by kernel_rfl) (by kernel_rfl) (fun _ _ _ h => h) (Or.inl ⟨by rfl, fun w hSw => by rfl⟩) hHeld ?_
    simp only [Act.put, List.setIfInBounds_toArray, List.set_cons_zero, List.set_cons_succ, List.getElem_cons_zero, List.getElem_cons_succ, List.getElem_toArray]
    refine wpAnyH_take (i := 3) (v := .pointer (some ⟨b2, 0, none⟩)) rfl (by kernel_rfl) (by kernel_rfl) (by kernel_rfl) (fun _ _ _ h => h) (Or.inl ⟨by rfl, fun w hSw => by go_simp⟩) hHeld ?_
    simp only [Act.put, List.setIfInBounds_toArray, List.set_cons_zero, List.set_cons_succ, List.getElem_cons_zero, List.getElem_cons_succ, List.getElem_toArray]
    refine wpAnyH_take (i := 4) (v := .agg cs.toArray) rfl (by kernel_rfl) (by kernel_rfl) (by kernel_rfl) (fun _ _ _ h => h) (yieldsIf_load_mid (by rfl) _ _ rfl _ _ rfl cs _ (fun w hSw => hSw.1) hu rfl hi30) hHeld ?_
    simp only [Act.put, List.setIfInBounds_toArray, List.set_cons_zero, List.set_cons_succ, List.getElem_cons_zero, List.getElem_cons_succ, List.getElem_toArray]
    refine wpAnyH_take (i := 7) (v := .slice (some ⟨b2, 0, none⟩) 1 c2) rfl (by kernel_rfl) (by kernel_rfl) (by kernel_rfl) (fun _ _ _ h => h) (Or.inl ⟨by rfl, fun w hSw => by rfl⟩) hHeld ?_
    simp only [Act.put, List.setIfInBounds_toArray, List.set_cons_zero, List.set_cons_succ, List.getElem_cons_zero, List.getElem_cons_succ, List.getElem_toArray]
    refine wpAnyH_take (i := 8) (v := .pointer (some ⟨b2, 0, none⟩)) rfl (by kernel_rfl) (by kernel_rfl) (by kernel_rfl) (fun _ _ _ h => h) (Or.inl ⟨by rfl, fun w hSw => by go_simp⟩) hHeld ?_
    simp only [Act.put, List.setIfInBounds_toArray, List.set_cons_zero, List.set_cons_succ, List.getElem_cons_zero, List.getElem_cons_succ, List.getElem_toArray]
    refine wpAnyH_take (i := 9) (v := .agg cs.toArray) rfl (by kernel_rfl) (by kernel_rfl) (by kernel_rfl) (fun _ _ _ h => h) (yieldsIf_load_mid (by rfl) _ _ rfl _ _ rfl cs _ (fun w hSw => hSw.1) hu rfl hi30) hHeld ?_
    simp only [Act.put, List.setIfInBounds_toArray, List.set_cons_zero, List.set_cons_succ, List.getElem_cons_zero, List.getElem_cons_succ, List.getElem_toArray]
    refine wpAnyH_ready (rs := [5]) (by kernel_rfl) (by simp) ?_
    refine AllReadyH.cons rfl (fun K hK => ?_) AllReadyH.nil
    go_simp
    refine (HPI.out _).mono ?_
    rintro e w2 ⟨a3, c3, rfl, hin1, hb3⟩
    have HI1 := Lib.hid hin1
    have HB2 : Hid (Below w1.heap.size w1 w2) := Lib.hid ((Below.refl w1.heap.size w1).drew.trans hb3)
    clear hin1 hb3
    refine hK.out _ _ (HK.out _ HB2.out) (fun hHeld => ?_)
    clear hK K
    (try simp only [Act.put, List.setIfInBounds_toArray, List.set_cons_zero, List.set_cons_succ, List.getElem_cons_zero, List.getElem_cons_succ, List.getElem_toArray])
    refine wpAnyH_ready (rs := [6]) (by kernel_rfl) (by simp) ?_
    refine AllReadyH.cons rfl (fun K hK => ?_) AllReadyH.nil
    go_simp
    refine (HMB.out _ _ _ (HTB.out.below HB2.out) HI1.out).mono ?_
    rintro e w3 ⟨rfl, hb3⟩
    have HB3 : Hid (Below w1.heap.size w1 w3) := Lib.hid (HB2.out.trans (hb3.mono HB2.out.size))
    clear hb3
    refine hK.out _ _ (HK.out _ HB3.out) (fun hHeld => ?_)
    clear hK K
    (try simp only [Act.put, List.setIfInBounds_toArray, List.set_cons_zero, List.set_cons_succ, List.getElem_cons_zero, List.getElem_cons_succ, List.getElem_toArray])
    refine wpAnyH_take (i := 10) (v := .bool B) rfl (by kernel_rfl) (by kernel_rfl) (by kernel_rfl) (fun _ _ _ h => h) (Or.inl ⟨by rfl, fun w hSw => by go_simp⟩) hHeld ?_
    simp only [Act.put, List.setIfInBounds_toArray, List.set_cons_zero, List.set_cons_succ, List.getElem_cons_zero, List.getElem_cons_succ, List.getElem_toArray]
    refine wpAnyH_take (i := 11) (v := .bool B) rfl (by kernel_rfl) (by kernel_rfl) (by kernel_rfl) (fun _ _ _ h => h) (Or.inl ⟨by rfl, fun w hSw => by rfl⟩) hHeld ?_
    simp only [Act.put, List.setIfInBounds_toArray, List.set_cons_zero, List.set_cons_succ, List.getElem_cons_zero, List.getElem_cons_succ, List.getElem_toArray]
    refine wpAnyH_take (i := 12) (v := .int .i64 0) rfl (by kernel_rfl) (by kernel_rfl) (by kernel_rfl) (fun _ _ _ h => h) (Or.inl ⟨by rfl, fun w hSw => by rfl⟩) hHeld ?_
    simp only [Act.put, List.setIfInBounds_toArray, List.set_cons_zero, List.set_cons_succ, List.getElem_cons_zero, List.getElem_cons_succ, List.getElem_toArray]
    refine wpAnyH_done (by kernel_rfl) ?_ _
    go_wp2_with fail
    go_ret2
    exact ⟨by rw [HE.out, HC0.out]; rfl, HB.out.trans (HB3.out.mono HB.out.size)⟩

set_option maxRecDepth 100000 in
set_option maxHeartbeats 4000000 in
theorem iisc_any (L : List MapN) (hl : L.length ≤ 1048576) (X : List Int) (_ : X.length ≤ 1048576) (hw : ∀ x ∈ X, (Lit.int .i64 x).wf = true) (a : Option Addr) (c : Nat) (hc0 : a = none → c = 0) (ax : Option Addr) (cx : Nat) (w : World) (hr : InRowM w a L) (hrx : InRow w ax X) :
    Calls Try.prog 32 #[.slice a L.length c, .slice ax X.length cx] w fun e w' => e = .returned (.tuple #[.bool (icB true L X), .int .i64 (clC L [X])]) ∧ Below w.heap.size w w' := by
  have hba : Below w.heap.size w (w.alloc (.cells #[.slice ax X.length cx] 26)) := (Below.refl _ _).alloc (Nat.le_refl _) _
  have HS := Lib.hid (icl_any a c hc0 L hl [X] (by simp) (one_j (Q := fun Y => ∀ x ∈ Y, (Lit.int .i64 x).wf = true) hw) (some ⟨w.heap.size, 0, none⟩) 1 _ (hr.below hba) (rows_one (c := cx) hrx))
  have HBA := Lib.hid hba
  clear hr hrx hba hc0
  go_enter Try.func32, Try.ntmps32
  go_wp2_with fail
  refine HS.out.mono ?_
  rintro e w1 ⟨hb, ⟨hc, rfl⟩ | ⟨hc, hmon, hle, hcl, a1, c1, a2, c2, rfl, htb, hia⟩⟩
  · have HB := Lib.hid (HBA.out.trans (hb.mono (by simp)))
    have HE := Lib.hid (icB_no (s := true) hc)
    have hne : (clC L [X] != 0) = true := by simpa using hc
    clear hb hc
    generalize hCE : clC L [X] = C at *
    have HCE := Lib.hid hCE
    clear hCE
    go_wp2_with fail
    go_ret2
    exact ⟨by rw [HE.out, HCE.out]; rfl, HB.out⟩
  · have hcls := hcl 0 (by simp)
    rw [show [X].getD 0 [] = X from rfl] at hcls
    have HB := Lib.hid (HBA.out.trans (hb.mono (by simp)))
    have HE := Lib.hid (icB_0 (s := true) hc)
    have HC0 := Lib.hid hc
    have hm1 := mon_pos hmon
    have hmu2 := fun i j hi hj => muK_lt hmon i j hi hj
    obtain ⟨b2, rfl, hb2, hrg⟩ := hia.resolve_left (by simp)
    have hrg0 := hrg 0 (by simp)
    rw [show [X].getD 0 [] = X from rfl, Nat.zero_mul] at hrg0
    have hcl30 : (acl X).length = 30 := acl_len (by rw [hcls.1]; exact hle)
    have hi30 : (Try.prog.info? 64).map (·.size) = some (acl X).length := by rw [hcl30]; exact size_arr
    have hu := Try.underlying64
    have HTB := Lib.hid htb
    clear hb hc hcl htb HS hrg hia
    have HIC := Lib.hid fun aT cT K w ht => isc_any (elsK L).length hle hm1 (muK (fst0 L) (elsK L)) hmu2 X hcls aT cT K w ht
    have HCC : Hid (ac X = (acl X).toArray) := Lib.hid rfl
    rw [HCC.out] at HIC
    clear hcls hmu2 hm1 hmon HCC
    generalize cngB (elsK L).length (muK (fst0 L) (elsK L)) true X = B at *
    generalize muK (fst0 L) (elsK L) = mu at *
    generalize (elsK L).length = m at *
    generalize acl X = cs at *
    have HRG := Lib.hid hrg0
    clear hrg0
    go_wp2_with (with_reducible refine wpList_load_mid rfl 64 (.tmp 22) rfl b2 0 rfl cs _ HRG.out hu rfl hi30 ?_)
    refine (HIC.out _ _ _ _ HTB.out).mono ?_
    rintro e w2 ⟨rfl, hb3⟩
    have HB2 := Lib.hid (HB.out.trans (hb3.mono HB.out.size))
    clear hb3
    go_wp2_with fail
    go_ret2
    exact ⟨by rw [HE.out, HC0.out]; rfl, HB2.out⟩

/-- The truth and the code. -/
noncomputable def icV (s : Bool) (L : List MapN) (X : List Int) : Value := .tuple #[.bool (icB s L X), .int .i64 (clC L [X])]

theorem sisr_v (L : List MapN) (hl : L.length ≤ 1048576) (X : List Int) (hx : X.length ≤ 1048576) (hw : ∀ x ∈ X, (Lit.int .i64 x).wf = true) (a : Option Addr) (c : Nat) (hc : a = none → c = 0) (ax : Option Addr) (cx : Nat) (w : World) (hr : InRowM w a L) (hrx : InRow w ax X) :
    Calls Try.prog 28 #[.slice a L.length c, .slice ax X.length cx] w fun e w' => e = .returned (icV false L X) ∧ Below w.heap.size w w' := sisr_any L hl X hx hw a c hc ax cx w hr hrx

theorem sisc_v (L : List MapN) (hl : L.length ≤ 1048576) (X : List Int) (hx : X.length ≤ 1048576) (hw : ∀ x ∈ X, (Lit.int .i64 x).wf = true) (a : Option Addr) (c : Nat) (hc : a = none → c = 0) (ax : Option Addr) (cx : Nat) (w : World) (hr : InRowM w a L) (hrx : InRow w ax X) :
    Calls Try.prog 31 #[.slice a L.length c, .slice ax X.length cx] w fun e w' => e = .returned (icV true L X) ∧ Below w.heap.size w w' := sisc_any L hl X hx hw a c hc ax cx w hr hrx

theorem iisr_v (L : List MapN) (hl : L.length ≤ 1048576) (X : List Int) (hx : X.length ≤ 1048576) (hw : ∀ x ∈ X, (Lit.int .i64 x).wf = true) (a : Option Addr) (c : Nat) (hc : a = none → c = 0) (ax : Option Addr) (cx : Nat) (w : World) (hr : InRowM w a L) (hrx : InRow w ax X) :
    Calls Try.prog 30 #[.slice a L.length c, .slice ax X.length cx] w fun e w' => e = .returned (icV false L X) ∧ Below w.heap.size w w' := iisr_any L hl X hx hw a c hc ax cx w hr hrx

theorem iisc_v (L : List MapN) (hl : L.length ≤ 1048576) (X : List Int) (hx : X.length ≤ 1048576) (hw : ∀ x ∈ X, (Lit.int .i64 x).wf = true) (a : Option Addr) (c : Nat) (hc : a = none → c = 0) (ax : Option Addr) (cx : Nat) (w : World) (hr : InRowM w a L) (hrx : InRow w ax X) :
    Calls Try.prog 32 #[.slice a L.length c, .slice ax X.length cx] w fun e w' => e = .returned (icV true L X) ∧ Below w.heap.size w w' := iisc_any L hl X hx hw a c hc ax cx w hr hrx

end Go.Proofs.Ytoagpklippdlmaa

namespace Go.Proofs.Ytoagpklippdlmaa
open Go Go.RowKit

/-- The code of a list with congruences. -/
noncomputable def cgC (L : List MapN) (LL : List (List Int)) : Int := if clC L LL = 0 then (if LL.all (fun X => cngB (elsK L).length (muK (fst0 L) (elsK L)) true X) = true then 0 else 5) else clC L LL

theorem cgC_bad {L : List MapN} {LL : List (List Int)} (h : clC L LL ≠ 0) : cgC L LL = clC L LL := by unfold cgC; rw [if_neg h]
theorem cgC_0 {L : List MapN} {LL : List (List Int)} (h : clC L LL = 0) (h2 : ∀ j, j < LL.length → cngB (elsK L).length (muK (fst0 L) (elsK L)) true (LL.getD j []) = true) : cgC L LL = 0 := by
  unfold cgC
  rw [if_pos h, if_pos]
  rw [List.all_eq_true]
  intro X hX
  obtain ⟨j, hj, rfl⟩ := List.getElem_of_mem hX
  have := h2 j hj
  rw [List.getD_eq_getElem?_getD, List.getElem?_eq_getElem hj] at this
  exact this
theorem cgC_5 {L : List MapN} {LL : List (List Int)} (h : clC L LL = 0) (j : Nat) (hj : j < LL.length) (h2 : cngB (elsK L).length (muK (fst0 L) (elsK L)) true (LL.getD j []) = false) : cgC L LL = 5 := by
  unfold cgC
  rw [if_pos h, if_neg]
  rw [List.all_eq_true]
  intro hc
  have := hc _ (List.getElem_mem hj)
  rw [List.getD_eq_getElem?_getD, List.getElem?_eq_getElem hj] at h2
  rw [show cngB (elsK L).length (muK (fst0 L) (elsK L)) true LL[j] = false from h2] at this
  cases this

/-- What is left of a list with congruences, on the side of impl. -/
def RetCgI (L : List MapN) (LL : List (List Int)) (w : World) (e : Ending) (w' : World) : Prop :=
  Below w.heap.size w w' ∧ ((cgC L LL ≠ 0 ∧ e = .returned (.tuple #[.slice none 0 0, .slice none 0 0, .int .i64 (cgC L LL)])) ∨
    (cgC L LL = 0 ∧ Mon (fst0 L) (elsK L) ∧ (elsK L).length ≤ 30 ∧ (∀ j, j < LL.length → Cls (LL.getD j []) (elsK L).length ∧ cngB (elsK L).length (muK (fst0 L) (elsK L)) true (LL.getD j []) = true) ∧ ∃ a cap a2 c2, e = .returned (.tuple #[.slice a (elsK L).length cap, .slice a2 LL.length c2, .int .i64 0]) ∧ Tb w' w'.heap.size a (elsK L).length (muK (fst0 L) (elsK L)) ∧ InRowA w' a2 LL))

set_option maxRecDepth 100000 in
set_option maxHeartbeats 4000000 in
theorem icgf_any (a : Option Addr) (c : Nat) (hc0 : a = none → c = 0) (L : List MapN) (hl : L.length ≤ 1048576) (LL : List (List Int)) (hLn : LL.length ≤ 1000) (hLw : ∀ j, j < LL.length → ∀ x ∈ LL.getD j [], (Lit.int .i64 x).wf = true) (ag : Option Addr) (cg : Nat) (w : World) (hr : InRowM w a L) (hg : InRows w ag LL) :
    Calls Try.prog 61 #[.slice a L.length c, .slice ag LL.length cg] w (RetCgI L LL w) := by
  have hz : ∀ w : World, (zeroValue 64).run Try.prog w = .ok (.agg (acl []).toArray) w := fun _ => by kernel_rfl
  have h0 := acl_len (L := []) (by simp)
  obtain ⟨Z, hZ⟩ : ∃ Z, Z = (acl []).toArray := ⟨_, rfl⟩
  have HZS : Hid (Z.size = 30) := Lib.hid (by rw [hZ]; simp [h0])
  rw [← hZ] at hz
  clear h0 hZ
  have HG := Lib.hid (icl_any a c hc0 L hl LL hLn hLw ag cg w hr hg)
  clear hr hg hLw hc0
  go_enter Try.func61, Try.ntmps61
  go_wp2_with fail
  refine HG.out.mono ?_
  rintro e w1 ⟨hb, ⟨hc, rfl⟩ | ⟨hc, hmon, hle, hcl, a1, c1, a2, c2, rfl, htb, hia⟩⟩
  · have HB := Lib.hid hb
    have HE := Lib.hid (cgC_bad (LL := LL) hc)
    have HC := Lib.hid hc
    clear hb hc hz
    generalize clC L LL = C at *
    go_wp2_with fail
    refine wp_loop_rounds 1 ?_
    rw [rounds_succ]
    go_wp2_with fail
    go_ret3
    exact ⟨HB.out, Or.inl ⟨by rw [HE.out]; exact HC.out, by rw [HE.out]; rfl⟩⟩
  · have HB := Lib.hid hb
    have HC := Lib.hid hc
    have HMO := Lib.hid hmon
    have HTB := Lib.hid htb
    have HIA := Lib.hid hia
    have HCL := Lib.hid hcl
    have HQ := Lib.hid fun j hj h2 => cgC_5 (LL := LL) hc j hj h2
    have HQ0 := Lib.hid fun h2 => cgC_0 (LL := LL) hc h2
    have HIC := Lib.hid fun X hX aT cT K w ht => isc_any (elsK L).length hle (mon_pos hmon) (muK (fst0 L) (elsK L)) (fun i j hi hj => muK_lt hmon i j hi hj) X hX aT cT K w ht
    have hs1 := hb.size
    clear hb hc hmon htb hia hcl
    obtain ⟨m, hm⟩ : ∃ m, m = (elsK L).length := ⟨_, rfl⟩
    have HM := Lib.hid hm
    rw [← hm] at hle HQ HQ0 HTB HCL HIC ⊢
    clear hm
    obtain ⟨mu, hmu⟩ : ∃ mu, mu = muK (fst0 L) (elsK L) := ⟨_, rfl⟩
    have HMU := Lib.hid hmu
    rw [← hmu] at HQ HQ0 HTB HIC
    clear hmu
    have hu := Try.underlying64
    go_wp2_with fail
    go_loopw [11, 21] (fun _ i wr => ∃ k : Nat, k ≤ LL.length ∧ i = .int .i64 k ∧ Below w1.heap.size w1 wr ∧ ∀ j, j < k → cngB m mu true (LL.getD j []) = true) (fun _ i _ => LL.length - (intOf i).toNat)
    case atStart => exact ⟨0, by omega, rfl, Below.refl _ _, fun j hj => by omega⟩
    case round =>
      obtain ⟨k, hk, rfl, hb, hal⟩ := hrel
      have HBR := Lib.hid hb
      have HAL := Lib.hid hal
      have hsr := hb.size
      by_cases hkl : k < LL.length
      · have hkl' : (k : Int) < (LL.length : Int) := by omega
        obtain ⟨b, rfl, hbl, hcs⟩ := HIA.out.resolve_left (fun e => by rw [e] at hkl; simp at hkl)
        have hrg := rangeAt_below (hcs k hkl) hbl hb
        have hcl := HCL.out k hkl
        have HQK := Lib.hid fun h2 => HQ.out k hkl h2
        have HALS : Hid (cngB m mu true (LL.getD k []) = true → ∀ j, j < k + 1 → cngB m mu true (LL.getD j []) = true) := Lib.hid fun h j hj => by
          rcases Nat.lt_succ_iff_lt_or_eq.1 hj with h2 | h2
          · exact HAL.out j h2
          · subst h2; exact h
        have HIK := Lib.hid fun aT cT K w ht => HIC.out _ hcl aT cT K w ht
        have hcl30 : (acl (LL.getD k [])).length = 30 := acl_len (by rw [hcl.1]; exact hle)
        have hi30 : (Try.prog.info? 64).map (·.size) = some (acl (LL.getD k [])).length := by rw [hcl30]; exact size_arr
        have HON := Lib.hid (ac_one (LL.getD k []))
        have HCC : Hid (ac (LL.getD k []) = (acl (LL.getD k [])).toArray) := Lib.hid rfl
        rw [HCC.out] at HIK HON
        clear hb hal hcs hcl HCC
        have HB0 : Hid (∃ B, B = cngB m mu true (LL.getD k [])) := Lib.hid ⟨_, rfl⟩
        obtain ⟨B, hB⟩ := HB0.out
        have HBE := Lib.hid hB
        rw [← hB] at HIK
        clear hB HB0
        generalize acl (LL.getD k []) = cs at *
        have HRG := Lib.hid hrg
        have HSA : Hid ((Try.prog.info? 64).map (·.size) = some cs.toArray.size) := Lib.hid (by rw [List.size_toArray]; exact hi30)
        have HSB : Hid (Z.size = cs.toArray.size) := Lib.hid (by rw [HZS.out, List.size_toArray, hcl30])
        clear hrg
        go_wp2_with (first
          | (with_reducible refine wpList_load_mid rfl 64 (.tmp 23) rfl b (k * 30) rfl cs _ HRG.out hu rfl hi30 ?_)
          | (with_reducible refine wpList_store_row rfl 64 (.tmp 11) (.tmp 24) rfl wr.heap.size cs.toArray rfl rfl 64 Z (halloc_at _ _ _ rfl) HSA.out HSB.out HON.out ?_)
          | (with_reducible refine wpList_load_row rfl 64 (.tmp 11) rfl wr.heap.size rfl 64 cs.toArray (0, 0) _ (setRow_heap _ _ Z _ _ _ (halloc_at _ _ _ rfl)) hu rfl HSA.out ?_))
        have HBX : Hid (Below w1.heap.size w1 ((wr.alloc (.cells Z 64)).setRow wr.heap.size cs.toArray)) := Lib.hid (below_setRow (HBR.out.alloc hsr _) hsr _)
        refine (HIK.out _ _ _ _ (HTB.out.below HBX.out)).mono ?_
        rintro e w2 ⟨rfl, hb2⟩
        have HB2 : Hid (Below w1.heap.size w1 w2) := Lib.hid (HBX.out.trans (hb2.mono HBX.out.size))
        clear hb2 HBX
        cases B
        · have HE2 := Lib.hid (HQK.out HBE.out.symm)
          go_wp2_with fail
          go_ret3
          exact ⟨HB.out.trans (HB2.out.mono hs1), Or.inl ⟨by rw [HE2.out]; decide, by rw [HE2.out]; rfl⟩⟩
        · have HV := Lib.hid (HALS.out HBE.out.symm)
          go_wp2_with fail
          go_roundw
          case rel => exact ⟨k + 1, by omega, by go_num, HB2.out, HV.out⟩
          case measure => simp [intOf]; omega
      · obtain rfl : k = LL.length := by omega
        have HE0 := Lib.hid (HQ0.out HAL.out)
        clear hb hal
        go_wp2_with fail
        go_ret3
        refine ⟨HB.out.trans (HBR.out.mono hs1), Or.inr ⟨HE0.out, HMO.out, by rw [← HM.out]; exact hle, fun j hj => by rw [← HM.out, ← HMU.out]; exact ⟨HCL.out j hj, HAL.out j hj⟩, a1, c1, a2, c2, by rw [← HM.out]; rfl, ?_, ?_⟩⟩
        · rw [← HM.out, ← HMU.out]
          exact (HTB.out.below HBR.out).up hsr (Nat.le_refl _)
        · rcases HIA.out with h0 | ⟨b, ha, hlt, hcs⟩
          · exact Or.inl h0
          · exact Or.inr ⟨b, ha, Nat.lt_of_lt_of_le hlt hsr, fun j hj => rangeAt_below (hcs j hj) hlt HBR.out⟩

/-- Two rows laid into a new block. -/
theorem rows_two {w : World} {a1 a2 : Option Addr} {X Y : List Int} {c1 c2 : Nat} (h1 : InRow w a1 X) (h2 : InRow w a2 Y) : InRows (w.alloc (.cells #[.slice a1 X.length c1, .slice a2 Y.length c2] 26)) (some ⟨w.heap.size, 0, none⟩) [X, Y] :=
  Or.inr ⟨w.heap.size, rfl, by simp, fun j hj => by
    have : j = 0 ∨ j = 1 := by simp at hj; omega
    rcases this with rfl | rfl
    · exact ⟨a1, c1, Joins.cell_of_block (halloc_at w _ _ rfl) 0, h1.below ((Below.refl _ _).alloc (Nat.le_refl _) _)⟩
    · exact ⟨a2, c2, Joins.cell_of_block (halloc_at w _ _ rfl) 1, h2.below ((Below.refl _ _).alloc (Nat.le_refl _) _)⟩⟩

theorem two_j {X Y : List Int} {Q : List Int → Prop} (h1 : Q X) (h2 : Q Y) : ∀ j, j < [X, Y].length → Q ([X, Y].getD j []) := fun j hj => by
  have : j = 0 ∨ j = 1 := by simp at hj; omega
  rcases this with rfl | rfl
  · exact h1
  · exact h2

/-- What spec.l06Both leaves. -/
def RetBo (L : List MapN) (X Y : List Int) (w : World) (e : Ending) (w' : World) : Prop :=
  Below w.heap.size w w' ∧ ((cgC L [X, Y] ≠ 0 ∧ e = .returned (.tuple #[.slice none 0 0, .int .i64 (cgC L [X, Y])])) ∨
    (cgC L [X, Y] = 0 ∧ Mon (fst0 L) (elsK L) ∧ (elsK L).length ≤ 30 ∧ (∀ j, j < [X, Y].length → Cls ([X, Y].getD j []) (elsK L).length ∧ cngB (elsK L).length (muK (fst0 L) (elsK L)) true ([X, Y].getD j []) = true) ∧ ∃ a cap, e = .returned (.tuple #[.slice a (elsK L).length cap, .int .i64 0]) ∧ Tb w' w'.heap.size a (elsK L).length (muK (fst0 L) (elsK L))))

set_option maxRecDepth 100000 in
set_option maxHeartbeats 4000000 in
theorem sbo_any (L : List MapN) (hl : L.length ≤ 1048576) (X : List Int) (hx : X.length ≤ 1048576) (Y : List Int) (hy : Y.length ≤ 1048576) (a : Option Addr) (c : Nat) (ax : Option Addr) (cx : Nat) (ay : Option Addr) (cy : Nat) (w : World) (hr : InRowM w a L) (hrx : InRow w ax X) (hry : InRow w ay Y) :
    Calls Try.prog 59 #[.slice a L.length c, .slice ax X.length cx, .slice ay Y.length cy] w (RetBo L X Y w) := by
  have hba : Below w.heap.size w (w.alloc (.cells #[.slice ax X.length cx, .slice ay Y.length cy] 26)) := (Below.refl _ _).alloc (Nat.le_refl _) _
  have HS := Lib.hid (scl_any a c L hl [X, Y] (by simp) (two_j (Q := fun Z => Z.length ≤ 1048576) hx hy) (some ⟨w.heap.size, 0, none⟩) 2 _ (hr.below hba) (rows_two (c1 := cx) (c2 := cy) hrx hry))
  have HRX := Lib.hid (hrx.below hba)
  have HRY := Lib.hid (hry.below hba)
  have HBA := Lib.hid hba
  clear hr hrx hry hba
  go_enter Try.func59, Try.ntmps59
  go_wp2_with fail
  refine HS.out.mono ?_
  rintro e w1 ⟨hb, ⟨hc, rfl⟩ | ⟨hc, hmon, hle, hcl, a1, c1, rfl, htb⟩⟩
  · have HB := Lib.hid (HBA.out.trans (hb.mono (by simp)))
    have HE := Lib.hid (cgC_bad (LL := [X, Y]) hc)
    have hne : (clC L [X, Y] != 0) = true := by simpa using hc
    have HC := Lib.hid hc
    clear hb hc
    generalize clC L [X, Y] = C at *
    go_wp2_with fail
    go_ret2
    exact ⟨HB.out, Or.inl ⟨by rw [HE.out]; exact HC.out, by rw [HE.out]; rfl⟩⟩
  · have hlx : X.length = (elsK L).length := (hcl 0 (by simp)).1
    have hly : Y.length = (elsK L).length := (hcl 1 (by simp)).1
    have HB := Lib.hid (HBA.out.trans (hb.mono (by simp)))
    have HX1 := Lib.hid (HRX.out.below hb)
    have HY1 := Lib.hid (HRY.out.below hb)
    have HCL := Lib.hid hcl
    have HMO := Lib.hid hmon
    have HLE := Lib.hid hle
    have H50 : Hid (eqLB (kerG (elsK L).length (muK (fst0 L) (elsK L)) true (fun i j => tL X i = tL X j)) X = false → cgC L [X, Y] = 5) := Lib.hid fun h => cgC_5 hc 0 (by simp) h
    have H51 : Hid (eqLB (kerG (elsK L).length (muK (fst0 L) (elsK L)) true (fun i j => tL Y i = tL Y j)) Y = false → cgC L [X, Y] = 5) := Lib.hid fun h => cgC_5 hc 1 (by simp) h
    have H0 : Hid (eqLB (kerG (elsK L).length (muK (fst0 L) (elsK L)) true (fun i j => tL X i = tL X j)) X = true → eqLB (kerG (elsK L).length (muK (fst0 L) (elsK L)) true (fun i j => tL Y i = tL Y j)) Y = true → cgC L [X, Y] = 0 ∧ ∀ j, j < [X, Y].length → cngB (elsK L).length (muK (fst0 L) (elsK L)) true ([X, Y].getD j []) = true) := Lib.hid fun h1 h2 =>
      have h := two_j (Q := fun Z => cngB (elsK L).length (muK (fst0 L) (elsK L)) true Z = true) h1 h2
      ⟨cgC_0 hc h, h⟩
    have hCX := fun aT cT a c K w ht hr => clsd_any (elsK L).length (by omega) (mon_pos hmon) (muK (fst0 L) (elsK L)) (fun i j hi hj => muK_lt hmon i j hi hj) true X hlx aT a cT c K w ht hr
    have hCY := fun aT cT a c K w ht hr => clsd_any (elsK L).length (by omega) (mon_pos hmon) (muK (fst0 L) (elsK L)) (fun i j hi hj => muK_lt hmon i j hi hj) true Y hly aT a cT c K w ht hr
    have hkx := kerG_len (elsK L).length (muK (fst0 L) (elsK L)) true (fun i j => tL X i = tL X j)
    have hky := kerG_len (elsK L).length (muK (fst0 L) (elsK L)) true (fun i j => tL Y i = tL Y j)
    have hEX := fun a1 a2 c1 c2 w h1 h2 => seq_any (kerG (elsK L).length (muK (fst0 L) (elsK L)) true (fun i j => tL X i = tL X j)) X (by omega) (by omega) a1 a2 c1 c2 w h1 h2
    have hEY := fun a1 a2 c1 c2 w h1 h2 => seq_any (kerG (elsK L).length (muK (fst0 L) (elsK L)) true (fun i j => tL Y i = tL Y j)) Y (by omega) (by omega) a1 a2 c1 c2 w h1 h2
    have HTB := Lib.hid htb
    rw [hkx, hlx] at hEX
    rw [hky, hly] at hEY
    have HCX := Lib.hid hCX
    have HCY := Lib.hid hCY
    have HEX := Lib.hid hEX
    have HEY := Lib.hid hEY
    clear hb hc hcl hmon htb HS hCX hCY hEX hEY
    generalize eqLB (kerG (elsK L).length (muK (fst0 L) (elsK L)) true (fun i j => tL X i = tL X j)) X = BX at *
    generalize eqLB (kerG (elsK L).length (muK (fst0 L) (elsK L)) true (fun i j => tL Y i = tL Y j)) Y = BY at *
    generalize kerG (elsK L).length (muK (fst0 L) (elsK L)) true (fun i j => tL X i = tL X j) = GX at *
    generalize kerG (elsK L).length (muK (fst0 L) (elsK L)) true (fun i j => tL Y i = tL Y j) = GY at *
    obtain ⟨m, hm⟩ : ∃ m, m = (elsK L).length := ⟨_, rfl⟩
    have HM := Lib.hid hm
    rw [← hm] at hlx hly hkx hky hle HCX HCY HEX HEY HTB ⊢
    clear hm
    rw [hlx, hly]
    clear hlx hly
    go_wp2_with fail
    refine (HCX.out _ _ _ _ _ _ HTB.out HX1.out).mono ?_
    rintro e w2 ⟨v, rfl, hown, hb2⟩
    obtain ⟨a2, c2, rfl, hrd⟩ := own_rd hown (by omega)
    have HB2 : Hid (Below w1.heap.size w1 w2) := Lib.hid hb2
    have HRD := Lib.hid hrd.inRow
    rw [hkx]
    clear hown hrd hb2
    go_wp2_with fail
    refine (HEX.out _ _ _ _ _ HRD.out (HX1.out.below HB2.out)).mono ?_
    rintro e w3 ⟨rfl, hb3⟩
    have HB3 : Hid (Below w1.heap.size w1 w3) := Lib.hid (HB2.out.trans (hb3.mono HB2.out.size))
    clear hb3
    cases BX
    · have HE5 := Lib.hid (H50.out rfl)
      go_wp2_with fail
      go_ret2
      exact ⟨HB.out.trans (HB3.out.mono HB.out.size), Or.inl ⟨by rw [HE5.out]; decide, by rw [HE5.out]; rfl⟩⟩
    · go_wp2_with fail
      refine (HCY.out _ _ _ _ _ _ (HTB.out.below HB3.out) (HY1.out.below HB3.out)).mono ?_
      rintro e w4 ⟨v, rfl, hown, hb4⟩
      obtain ⟨a4, c4, rfl, hrd⟩ := own_rd hown (by omega)
      have HB4 : Hid (Below w1.heap.size w1 w4) := Lib.hid (HB3.out.trans (hb4.mono HB3.out.size))
      have HRD := Lib.hid hrd.inRow
      rw [hky]
      clear hown hrd hb4
      go_wp2_with fail
      refine (HEY.out _ _ _ _ _ HRD.out (HY1.out.below HB4.out)).mono ?_
      rintro e w5 ⟨rfl, hb5⟩
      have HB5 : Hid (Below w1.heap.size w1 w5) := Lib.hid (HB4.out.trans (hb5.mono HB4.out.size))
      clear hb5
      cases BY
      · have HE5 := Lib.hid (H51.out rfl)
        go_wp2_with fail
        go_ret2
        exact ⟨HB.out.trans (HB5.out.mono HB.out.size), Or.inl ⟨by rw [HE5.out]; decide, by rw [HE5.out]; rfl⟩⟩
      · have HE0 := Lib.hid (H0.out (by simp) (by simp))
        go_wp2_with fail
        go_ret2
        refine ⟨HB.out.trans (HB5.out.mono HB.out.size), Or.inr ⟨HE0.out.1, HMO.out, HLE.out, fun j hj => ⟨HCL.out j hj, HE0.out.2 j hj⟩, a1, c1, by rw [← HM.out]; rfl, ?_⟩⟩
        rw [← HM.out]
        exact (HTB.out.below HB5.out).up HB5.out.size (Nat.le_refl _)

end Go.Proofs.Ytoagpklippdlmaa
