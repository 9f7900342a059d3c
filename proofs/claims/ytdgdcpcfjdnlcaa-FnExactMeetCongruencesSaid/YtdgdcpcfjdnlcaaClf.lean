/- Whether numbers are classes, on both sides: the contracts of spec.l06Is, spec.l06Equal, slices.Equal and impl.areNumberedByFirst. Lists of rows that came in, and of arrays of classes; the contracts of spec.l06Classes and impl.classesFor. -/
import Derived.Test.YtdgdcpcfjdnlcaaPin
import Derived.Test.YtdgdcpcfjdnlcaaNbf
import Derived.Test.YtdgdcpcfjdnlcaaTab
namespace Go.Proofs.Ytdgdcpcfjdnlcaa
open Go Go.RowKit

theorem eq_lists {L M : List Int} (hl : L.length = M.length) : L.length = M.length ∧ ((∀ j, j < L.length → L.getD j 0 = M.getD j 0) → L = M) := by
  refine ⟨hl, fun h => List.ext_getElem hl fun i h1 h2 => ?_⟩
  have := h i h1
  rw [List.getD_eq_getElem?_getD, List.getD_eq_getElem?_getD, List.getElem?_eq_getElem h1, List.getElem?_eq_getElem h2] at this
  exact this

/-- Whether two lists are the same. -/
def eqLB (L M : List Int) : Bool := decide (L = M)

theorem eqLB_iff {L M : List Int} : eqLB L M = true ↔ L = M := by unfold eqLB; rw [decide_eq_true_iff]

theorem eqLB_no {L M : List Int} (h : L ≠ M) : eqLB L M = false := by unfold eqLB; rw [decide_eq_false_iff_not]; exact h

/-- Whether numbers are classes of m elements. -/
def clsB (L : List Int) (m : Nat) : Bool := decide (L.length = m) && eqLB (kerK (tL L) m) L

theorem clsB_iff {L : List Int} {m : Nat} : clsB L m = true ↔ Cls L m := by unfold clsB Cls; rw [Bool.and_eq_true, decide_eq_true_iff, eqLB_iff]

theorem clsB_len (L : List Int) : clsB L L.length = eqLB (kerK (tL L) L.length) L := by unfold clsB; rw [decide_eq_true rfl, Bool.true_and]

theorem cls_of {L : List Int} {m : Nat} (hl : L.length = m) (h : ∀ i, i < m → tL L i = kvK (tL L) i) : Cls L m := by
  refine ⟨hl, (eq_lists (by rw [kerK_len, hl])).2 fun j hj => ?_⟩
  rw [kerK_len] at hj
  rw [kerK_getD _ _ _ hj, ← h j hj]
  rfl

theorem kv_le (t : Nat → Int) (k : Nat) : kvK t k ≤ rkK t k := by
  have h := (fst1_at t k).2.1
  have := rkK_mono t (fst1 t k) k h
  unfold kvK
  omega

theorem kv_lt (t : Nat → Int) {j k : Nat} (h : j < k) : kvK t j < rkK t k := by
  obtain ⟨h1, h2, _⟩ := fst1_at t j
  have := rkK_lt t (fst1 t j) k (by omega) (fst1_eq h1)
  unfold kvK
  omega

theorem rk_hit (t : Nat → Int) : ∀ k x, x < rkK t k → ∃ f, f < k ∧ fst1 t f = f ∧ rkK t f = x
  | 0, x, h => by simp [rkK] at h
  | k + 1, x, h => by
    rw [rkK_succ] at h
    by_cases c : fst1 t k = k
    · rw [if_pos c] at h
      rcases Nat.lt_succ_iff_lt_or_eq.1 h with h | h
      · obtain ⟨f, h1, h2, h3⟩ := rk_hit t k x h
        exact ⟨f, by omega, h2, h3⟩
      · exact ⟨k, by omega, c, h.symm⟩
    · rw [if_neg c] at h
      obtain ⟨f, h1, h2, h3⟩ := rk_hit t k x h
      exact ⟨f, by omega, h2, h3⟩

/-- The next number is as told if it is one of those before, or the next one. -/
theorem next_ok (t : Nat → Int) (k : Nat) (hb : ∀ j, j < k → t j = kvK t j) (h0 : 0 ≤ t k) (h1 : t k ≤ rkK t k) : t k = kvK t k := by
  by_cases h : t k = rkK t k
  · have hf : fst1 t k = k := by
      obtain ⟨a1, a2, a3⟩ := fst1_at t k
      by_cases c : fst1 t k = k
      · exact c
      · have hj : fst1 t k < k := by omega
        have := kv_lt t hj
        rw [← hb _ hj, a1] at this
        omega
    rw [h, kvK_first hf]
  · obtain ⟨x, hx⟩ := Int.eq_ofNat_of_zero_le h0
    obtain ⟨f, h2, h3, h4⟩ := rk_hit t k x (by omega)
    have e : t f = t k := by rw [hb f h2, kvK_first h3, h4, hx]
    rw [← kvK_same e, kvK_first h3, h4, hx]

theorem next_new (t : Nat → Int) (k : Nat) (h : t k = kvK t k) : (t k = rkK t k ↔ fst1 t k = k) := by rw [h]; exact kvK_new t k

set_option maxRecDepth 100000 in
set_option maxHeartbeats 1000000 in
theorem seq_any (L M : List Int) (hl : L.length = M.length) (hn : L.length ≤ 1000) (a1 a2 : Option Addr) (c1 c2 : Nat) (w : World) (h1 : InRow w a1 L) (h2 : InRow w a2 M) :
    Calls Try.prog 53 #[.slice a1 L.length c1, .slice a2 M.length c2] w fun e w' => e = .returned (.bool (eqLB L M)) ∧ Below w.heap.size w w' := by
  have H1 := Lib.hid h1
  have H2 := Lib.hid h2
  have HE := Lib.hid (eq_lists hl)
  rw [← hl]
  generalize hn0 : L.length = n at *
  clear h1 h2 hl
  obtain ⟨B, hB⟩ : ∃ B, B = eqLB L M := ⟨_, rfl⟩
  have HB := Lib.hid hB
  rw [← hB]
  clear hB
  go_enter Try.func53, Try.ntmps53
  go_wp2_with fail
  go_loopw [5] (fun i wr => ∃ k m : Nat, k ≤ n ∧ i = .int .i64 k ∧ wr = w.drewN m ∧ ∀ j, j < k → L.getD j 0 = M.getD j 0) (fun i _ => n - (intOf i).toNat)
  case atStart => exact ⟨0, 0, by omega, rfl, rfl, fun j hj => by omega⟩
  case round =>
    obtain ⟨k, m, hk, rfl, rfl, hal⟩ := hrel
    have HAL := Lib.hid hal
    clear hal
    by_cases hkl : k < n
    · have hkl' : (k : Int) < (n : Int) := by omega
      obtain ⟨b1, o1, rfl, hb1, hc1⟩ := H1.out.resolve_left (fun e => by rw [e] at hn0; simp at hn0; omega)
      obtain ⟨b2, o2, rfl, hb2, hc2⟩ := H2.out.resolve_left (fun e => by have h3 := HE.out.1; rw [e] at h3; simp at h3; omega)
      have e1 := hc1 k (by omega)
      have e2 := hc2 k (by rw [← HE.out.1]; omega)
      by_cases he : L.getD k 0 = M.getD k 0
      · have hq : (L.getD k 0 != M.getD k 0) = false := by simpa using he
        have HEK := Lib.hid he
        clear hc1 hc2 he
        generalize hX : L.getD k 0 = X at *
        generalize hY : M.getD k 0 = Y at *
        have HX := Lib.hid hX
        have HY := Lib.hid hY
        clear hX hY
        go_wp2_with fail
        go_quiet (fail)
        go_wp2_with fail
        go_roundw
        case rel => exact ⟨k + 1, m + nq, by omega, by go_num, by simp, fun j hj => by
          rcases Nat.lt_succ_iff_lt_or_eq.1 hj with h | h
          · exact HAL.out j h
          · subst h; rw [HX.out, HY.out]; exact HEK.out⟩
        case measure => simp [intOf]; omega
      · have hq : (L.getD k 0 != M.getD k 0) = true := by simpa using he
        have HF : Hid (B = false) := Lib.hid (by
          rw [HB.out]
          exact eqLB_no fun e => he (by rw [e]))
        clear hc1 hc2 he
        generalize L.getD k 0 = X at *
        generalize M.getD k 0 = Y at *
        go_wp2_with fail
        go_quiet (fail)
        go_wp2_with fail
        go_ret
        exact ⟨by rw [HF.out]; rfl, below_drewN (below_drewN (Below.refl _ _) _) _⟩
    · have HT : Hid (B = true) := Lib.hid (by
        rw [HB.out, eqLB_iff]
        exact HE.out.2 fun j hj => HAL.out j (by omega))
      go_wp2_with fail
      go_ret
      exact ⟨by rw [HT.out]; rfl, below_drewN (Below.refl _ _) _⟩

set_option maxRecDepth 100000 in
set_option maxHeartbeats 1000000 in
theorem sleq_any (L M : List Int) (hl : L.length = M.length) (hn : L.length ≤ 1000) (a1 a2 : Option Addr) (c1 c2 : Nat) (w : World) (h1 : InRow w a1 L) (h2 : InRow w a2 M) :
    Calls Try.prog 85 #[.slice a1 L.length c1, .slice a2 M.length c2] w fun e w' => e = .returned (.bool (eqLB L M)) ∧ Below w.heap.size w w' := by
  have H1 := Lib.hid h1
  have H2 := Lib.hid h2
  have HE := Lib.hid (eq_lists hl)
  rw [← hl]
  generalize hn0 : L.length = n at *
  clear h1 h2 hl
  obtain ⟨B, hB⟩ : ∃ B, B = eqLB L M := ⟨_, rfl⟩
  have HB := Lib.hid hB
  rw [← hB]
  clear hB
  go_enter Try.func85, Try.ntmps85
  go_wp2_with fail
  go_loopw [5, 13] (fun _ i wr => ∃ k m : Nat, k ≤ n ∧ i = .int .i64 k ∧ wr = w.drewN m ∧ ∀ j, j < k → L.getD j 0 = M.getD j 0) (fun _ i _ => n - (intOf i).toNat)
  case atStart => exact ⟨0, 0, by omega, rfl, rfl, fun j hj => by omega⟩
  case round =>
    obtain ⟨k, m, hk, rfl, rfl, hal⟩ := hrel
    have HAL := Lib.hid hal
    clear hal
    by_cases hkl : k < n
    · have hkl' : (k : Int) < (n : Int) := by omega
      obtain ⟨b1, o1, rfl, hb1, hc1⟩ := H1.out.resolve_left (fun e => by rw [e] at hn0; simp at hn0; omega)
      obtain ⟨b2, o2, rfl, hb2, hc2⟩ := H2.out.resolve_left (fun e => by have h3 := HE.out.1; rw [e] at h3; simp at h3; omega)
      have e1 := hc1 k (by omega)
      have e2 := hc2 k (by rw [← HE.out.1]; omega)
      by_cases he : L.getD k 0 = M.getD k 0
      · have hq : (L.getD k 0 != M.getD k 0) = false := by simpa using he
        have HEK := Lib.hid he
        clear hc1 hc2 he
        generalize hX : L.getD k 0 = X at *
        generalize hY : M.getD k 0 = Y at *
        have HX := Lib.hid hX
        have HY := Lib.hid hY
        clear hX hY
        go_wp2_with fail
        go_quiet (fail)
        go_wp2_with fail
        go_roundw
        case rel => exact ⟨k + 1, m + nq, by omega, by go_num, by simp, fun j hj => by
          rcases Nat.lt_succ_iff_lt_or_eq.1 hj with h | h
          · exact HAL.out j h
          · subst h; rw [HX.out, HY.out]; exact HEK.out⟩
        case measure => simp [intOf]; omega
      · have hq : (L.getD k 0 != M.getD k 0) = true := by simpa using he
        have HF : Hid (B = false) := Lib.hid (by
          rw [HB.out]
          exact eqLB_no fun e => he (by rw [e]))
        clear hc1 hc2 he
        generalize L.getD k 0 = X at *
        generalize M.getD k 0 = Y at *
        go_wp2_with fail
        go_quiet (fail)
        go_wp2_with fail
        go_ret
        exact ⟨by rw [HF.out]; rfl, below_drewN (below_drewN (Below.refl _ _) _) _⟩
    · have HT : Hid (B = true) := Lib.hid (by
        rw [HB.out, eqLB_iff]
        exact HE.out.2 fun j hj => HAL.out j (by omega))
      go_wp2_with fail
      go_ret
      exact ⟨by rw [HT.out]; rfl, below_drewN (Below.refl _ _) _⟩

set_option maxRecDepth 100000 in
set_option maxHeartbeats 1000000 in
theorem anf_any (L : List Int) (hn : L.length ≤ 1000) (hwf : ∀ x ∈ L, (Lit.int .i64 x).wf = true) (a : Option Addr) (c : Nat) (w : World) (h : InRow w a L) :
    Calls Try.prog 77 #[.slice a L.length c] w fun e w' => e = .returned (.bool (clsB L L.length)) ∧ Below w.heap.size w w' := by
  have HN := Lib.hid (nbf_any L hn hwf a c w h)
  have hkl := kerK_len (tL L) L.length
  have hB := clsB_len L
  have hE := fun a1 a2 c1 c2 w h1 h2 => sleq_any (kerK (tL L) L.length) L hkl (by omega) a1 a2 c1 c2 w h1 h2
  rw [hkl] at hE
  have HE := Lib.hid hE
  clear hE
  have HR := Lib.hid h
  rw [hB]
  obtain ⟨B, hB2⟩ : ∃ B, B = eqLB (kerK (tL L) L.length) L := ⟨_, rfl⟩
  rw [← hB2] at HE ⊢
  clear h hB hB2
  obtain ⟨n, hn2⟩ : ∃ n, n = L.length := ⟨_, rfl⟩
  generalize kerK (tL L) L.length = R at *
  rw [← hn2] at hkl HE hn HN ⊢
  clear hn2
  go_enter Try.func77, Try.ntmps77
  go_wp2_with fail
  refine HN.out.mono ?_
  rintro e w1 ⟨v, rfl, hown, hb⟩
  obtain ⟨a1, c1, rfl, hrd⟩ := own_rd hown (by omega)
  have HB := Lib.hid hb
  have HRD := Lib.hid hrd.inRow
  rw [hkl]
  clear hkl
  have hs1 := hb.size
  clear hown hrd hb
  go_wp2_with fail
  refine (HE.out _ _ _ _ _ HRD.out (HR.out.below HB.out)).mono ?_
  rintro e w2 ⟨rfl, hb2⟩
  have HB2 := Lib.hid hb2
  clear hb2
  go_wp2_with fail
  go_ret
  exact ⟨rfl, HB.out.trans (HB2.out.mono hs1)⟩

set_option maxRecDepth 100000 in
set_option maxHeartbeats 1000000 in
theorem sis6_any (L : List Int) (hn : L.length ≤ 1048576) (m : Nat) (hm : m ≤ 1000) (a : Option Addr) (c : Nat) (w : World) (h : InRow w a L) :
    Calls Try.prog 74 #[.slice a L.length c, .int .i64 (m : Int)] w fun e w' => e = .returned (.bool (clsB L m)) ∧ Below w.heap.size w w' := by
  have HR := Lib.hid h
  clear h
  by_cases hl : L.length = m
  · subst hl
    obtain ⟨m, hm2⟩ : ∃ m, m = L.length := ⟨_, rfl⟩
    have HL := Lib.hid hm2
    rw [← hm2] at hm hn ⊢
    clear hm2
    have hq : ((m : Int) != (m : Int)) = false := by simp
    obtain ⟨B, hB⟩ : ∃ B, B = clsB L m := ⟨_, rfl⟩
    have HB := Lib.hid hB
    rw [← hB]
    clear hB
    go_enter Try.func74, Try.ntmps74
    go_wp2_with fail
    go_loopw [5, 6] (fun nx i wr => ∃ k : Nat, k ≤ m ∧ i = .int .i64 k ∧ nx = .int .i64 (rkK (tL L) k) ∧ wr = w ∧ ∀ j, j < k → tL L j = kvK (tL L) j) (fun _ i _ => m - (intOf i).toNat)
    case atStart => exact ⟨0, by omega, rfl, rfl, rfl, fun j hj => by omega⟩
    case round =>
      obtain ⟨k, hk, rfl, rfl, rfl, hal⟩ := hrel
      have HAL := Lib.hid hal
      clear hal
      by_cases hkm : k < m
      · have hkm' : (k : Int) < (m : Int) := by omega
        obtain ⟨b, off, rfl, hlt, hin⟩ := HR.out.resolve_left (fun e => by have h3 := HL.out; rw [e] at h3; simp at h3; omega)
        have e1 := hin k (by rw [← HL.out]; exact hkm)
        rw [show L.getD k 0 = tL L k from rfl] at e1
        have hrk := rkK_le (tL L) k
        have HNO := Lib.hid fun h0 h1 => next_ok (tL L) k HAL.out h0 h1
        have HNN := Lib.hid (next_new (tL L) k)
        have HRS := Lib.hid (rkK_succ (tL L) k)
        have HKL := Lib.hid (kv_le (tL L) k)
        have HKB := Lib.hid (kvK_bd (tL L) k)
        clear hin
        cases hi : inB (tL L k) 0 (rkK (tL L) k)
        · have HF : Hid (B = false) := Lib.hid (by
            rw [HB.out, Bool.eq_false_iff]
            intro hc
            have hv := (clsB_iff.1 hc).val hkm
            rw [Bool.eq_false_iff] at hi
            refine hi (inB_true.2 ?_)
            rw [hv]
            exact ⟨HKB.out.1, HKL.out⟩)
          generalize tL L k = X at *
          generalize rkK (tL L) k = RK at *
          go_wp2_with (go_at_call 66; refine (in_any _ _ _ _).mono ?_; rintro e w ⟨rfl, rfl⟩)
          go_ret
          exact ⟨by rw [HF.out]; rfl, Below.refl _ _⟩
        · have hi2 := inB_true.1 hi
          have hv := HNO.out hi2.1 hi2.2
          have HV : Hid (∀ j, j < k + 1 → tL L j = kvK (tL L) j) := Lib.hid fun j hj => by
            rcases Nat.lt_succ_iff_lt_or_eq.1 hj with h | h
            · exact HAL.out j h
            · subst h; exact hv
          have hnn := HNN.out hv
          by_cases hf : fst1 (tL L) k = k
          · have hq2 : (tL L k == (rkK (tL L) k : Int)) = true := by simpa using hnn.2 hf
            have hRS := HRS.out
            rw [if_pos hf] at hRS
            have HRS2 := Lib.hid hRS
            clear hRS hf hnn hv hi2 HRS HNN HNO HKL HKB
            generalize tL L k = X at *
            generalize hRK : rkK (tL L) k = RK at *
            clear hRK
            go_wp2_with (go_at_call 66; refine (in_any _ _ _ _).mono ?_; rintro e w ⟨rfl, rfl⟩)
            go_roundw
            case rel => exact ⟨k + 1, by omega, by go_num, (by first | (rw [HRS2.out]; done) | (rw [HRS2.out]; go_num)), trivial, HV.out⟩
            case measure => simp [intOf]; omega
          · have hq2 : (tL L k == (rkK (tL L) k : Int)) = false := by
              rw [beq_eq_false_iff_ne]; exact fun e => hf (hnn.1 e)
            have hRS := HRS.out
            rw [if_neg hf] at hRS
            have HRS2 := Lib.hid hRS
            clear hRS hf hnn hv hi2 HRS HNN HNO HKL HKB
            generalize tL L k = X at *
            generalize hRK : rkK (tL L) k = RK at *
            clear hRK
            go_wp2_with (go_at_call 66; refine (in_any _ _ _ _).mono ?_; rintro e w ⟨rfl, rfl⟩)
            go_roundw
            case rel => exact ⟨k + 1, by omega, by go_num, by rw [HRS2.out], trivial, HV.out⟩
            case measure => simp [intOf]; omega
      · have HT : Hid (B = true) := Lib.hid (by
          rw [HB.out]
          exact clsB_iff.2 (cls_of HL.out.symm fun i hi => HAL.out i (by omega)))
        go_wp2_with fail
        go_ret
        exact ⟨by rw [HT.out]; rfl, Below.refl _ _⟩
  · have hq : ((L.length : Int) != (m : Int)) = true := by simp; omega
    have HF : Hid (clsB L m = false) := Lib.hid (by
      rw [Bool.eq_false_iff]
      intro hc
      exact hl (clsB_iff.1 hc).1)
    rw [HF.out]
    go_enter Try.func74, Try.ntmps74
    go_wp2_with fail
    go_ret
    exact ⟨rfl, Below.refl _ _⟩

end Go.Proofs.Ytdgdcpcfjdnlcaa

namespace Go.Proofs.Ytdgdcpcfjdnlcaa
open Go Go.RowKit

/-- Rows that came in. -/
def InRows (w : World) (a : Option Addr) (LL : List (List Int)) : Prop :=
  LL = [] ∨ ∃ b, a = some ⟨b, 0, none⟩ ∧ b < w.heap.size ∧ ∀ j, j < LL.length → ∃ aj cj, w.cell? ⟨b, j, none⟩ = some (.slice aj (LL.getD j []).length cj) ∧ InRow w aj (LL.getD j [])

theorem InRows.below {w w' : World} {a : Option Addr} {LL : List (List Int)} (h : InRows w a LL) (hb : Below w.heap.size w w') : InRows w' a LL := by
  rcases h with h0 | ⟨b, ha, hlt, hc⟩
  · exact Or.inl h0
  · refine Or.inr ⟨b, ha, Nat.lt_of_lt_of_le hlt hb.size, fun j hj => ?_⟩
    obtain ⟨aj, cj, h1, h2⟩ := hc j hj
    exact ⟨aj, cj, (hb.cell (p := ⟨b, j, none⟩) hlt).trans h1, h2.below hb⟩

/-- Arrays of classes that came in. -/
def InRowA (w : World) (a : Option Addr) (LL : List (List Int)) : Prop :=
  LL = [] ∨ ∃ b, a = some ⟨b, 0, none⟩ ∧ b < w.heap.size ∧ ∀ j, j < LL.length → w.rangeAt b (j * 30) (acl (LL.getD j []))

theorem rangeAt_below {w w' : World} {b o : Nat} {cs : List Value} (h : w.rangeAt b o cs) (hlt : b < w.heap.size) (hb : Below w.heap.size w w') : w'.rangeAt b o cs := fun j v hv => (hb.cell (p := ⟨b, o + j, none⟩) hlt).trans (h j v hv)

theorem InRowA.below {w w' : World} {a : Option Addr} {LL : List (List Int)} (h : InRowA w a LL) (hb : Below w.heap.size w w') : InRowA w' a LL := by
  rcases h with h0 | ⟨b, ha, hlt, hc⟩
  · exact Or.inl h0
  · exact Or.inr ⟨b, ha, Nat.lt_of_lt_of_le hlt hb.size, fun j hj => rangeAt_below (hc j hj) hlt hb⟩

def acls (LL : List (List Int)) : List Value := LL.flatMap acl

theorem acls_app (A B : List (List Int)) : acls (A ++ B) = acls A ++ acls B := by unfold acls; rw [List.flatMap_append]

theorem acls_len : ∀ LL : List (List Int), (∀ X ∈ LL, X.length ≤ 30) → (acls LL).length = LL.length * 30
  | [], _ => rfl
  | X :: LL, h => by
    unfold acls
    rw [List.flatMap_cons, List.length_append, show (List.flatMap acl LL).length = (acls LL).length from rfl, acls_len LL fun Y hY => h Y (List.mem_cons_of_mem _ hY), acl_len (h X List.mem_cons_self), List.length_cons]
    omega

theorem acls_at : ∀ (LL : List (List Int)) (_ : ∀ X ∈ LL, X.length ≤ 30) (j i : Nat), j < LL.length → i < 30 → (acls LL)[j * 30 + i]? = (acl (LL.getD j []))[i]?
  | [], _, j, i, h, _ => by simp at h
  | X :: LL, hX, 0, i, _, hi => by
    unfold acls
    rw [List.flatMap_cons, Nat.zero_mul, Nat.zero_add, List.getElem?_append_left (by rw [acl_len (hX X List.mem_cons_self)]; exact hi)]
    rfl
  | X :: LL, hX, j + 1, i, h, hi => by
    have ih := acls_at LL (fun Y hY => hX Y (List.mem_cons_of_mem _ hY)) j i (by simpa using h) hi
    unfold acls at *
    rw [List.flatMap_cons, List.getElem?_append_right (by rw [acl_len (hX X List.mem_cons_self)]; omega), acl_len (hX X List.mem_cons_self), show (j + 1) * 30 + i - 30 = j * 30 + i by omega, ih]
    rfl

/-- A list of arrays of classes of the call's own. -/
def OwnA (w : World) (B : Nat) (v : Value) (LL : List (List Int)) : Prop := w.ownsRow B 63 30 v LL.length (acls LL)

theorem ownA_in {w : World} {B : Nat} {v : Value} {LL : List (List Int)} (hX : ∀ X ∈ LL, X.length ≤ 30) (h : OwnA w B v LL) : ∃ a cap, v = .slice a LL.length cap ∧ InRowA w a LL := by
  rcases h.2 with ⟨h1, h0⟩ | ⟨g, cap, cur, h1, hB, hg, hn, hcap, hsz, htk⟩
  · exact ⟨none, 0, by rw [h1, h0], Or.inl (List.length_eq_zero_iff.1 h0)⟩
  · refine ⟨_, cap, h1, Or.inr ⟨g, rfl, (Array.getElem?_eq_some_iff.1 hg).1, fun j hj i v hv => ?_⟩⟩
    have hlen : (LL.getD j []).length ≤ 30 := by
      rw [List.getD_eq_getElem?_getD, List.getElem?_eq_getElem hj]
      exact hX _ (List.getElem_mem hj)
    have hi : i < 30 := by
      have := (List.getElem?_eq_some_iff.1 hv).1
      rw [acl_len hlen] at this
      exact this
    have e : cur[j * 30 + i]? = (acls LL)[j * 30 + i]? := by
      rw [← htk, List.getElem?_take, if_pos (by omega), Array.getElem?_toList]
    rw [Joins.cell_of_block hg, e, acls_at LL hX j i hj hi, hv]

theorem info_arr : (Try.prog.info? 63).map (fun i => (i.zero, i.size, i.bytes)) = some (some (.agg (acl []).toArray), 30, 240) := by kernel_rfl

theorem acls_one (LL : List (List Int)) : ∀ u ∈ acls LL, u.oneCell' = true := fun u hu => by
  unfold acls at hu
  obtain ⟨X, _, h⟩ := List.mem_flatMap.1 hu
  unfold acl at h
  obtain ⟨x, _, rfl⟩ := List.mem_map.1 h
  rfl

/-- Cells laid one after another into an array. -/
theorem fold_zip (i : Nat) : ∀ (cs : List Value) (k : Nat) (Z : Array Value), k + cs.length ≤ Z.size → ((cs.zipIdx k).foldl (fun a x => a.setIfInBounds x.snd x.fst) Z)[i]? = if k ≤ i ∧ i < k + cs.length then cs[i - k]? else Z[i]?
  | [], k, Z, _ => by
    rw [if_neg (by simp)]
    rfl
  | x :: cs, k, Z, h => by
    rw [List.length_cons] at h
    rw [List.zipIdx_cons, List.foldl_cons, fold_zip i cs (k + 1) _ (by simp; omega), List.length_cons]
    by_cases h1 : i = k
    · subst h1
      rw [if_neg (by omega), if_pos (by omega), Array.getElem?_setIfInBounds, if_pos rfl, if_pos (by omega), Nat.sub_self]
      rfl
    · by_cases h2 : k + 1 ≤ i ∧ i < k + 1 + cs.length
      · rw [if_pos h2, if_pos (by omega), show i - k = (i - (k + 1)) + 1 by omega]
        rfl
      · rw [if_neg h2, if_neg (by omega), Array.getElem?_setIfInBounds, if_neg (by omega)]

/-- append of an array onto a list of arrays of the call's own. -/
theorem wpList_appA {ops : Array Oper} {rest : List Oper} {o : Oper} {ac : Act} {Q : Exit → Act → World → Prop} {w : World} (hgd : o.guard = none) (s x : Operand)
    (ho : o.op = .call { callee := .builtin .append, args := #[s, x], argTypes := #[68, 68] })
    (base : Nat) (v : Value) (LL : List (List Int)) (hs : ac.eval s = v) (hown : OwnA w base v LL) (b c : Nat) (X : List Int) (hX : X.length ≤ 30) (hx : ac.eval x = .slice (some ⟨b, 0, none⟩) 1 c) (hb : ∀ i, i < 30 → w.cell? ⟨b, i, none⟩ = (acl X)[i]?)
    (hlen : LL.length ≤ 1000) (hbase : base ≤ w.heap.size)
    (h : ∀ v' w', OwnA w' base v' (LL ++ [X]) → w.grownBy w' v.ownBlock → wpList Try.prog ops Q rest (ac.put o.dst v') w') : wpList Try.prog ops Q (o :: rest) ac w := by
  obtain ⟨i0, hi, hz0, hz1, hz2⟩ := info_parts info_arr
  have e1 : acls [X] = acl X := by unfold acls; simp
  refine wpList_append_own_at w hgd s x _ ho base 63 i0 _ 30 240 Try.underlying68 hi hz0 hz1 hz2 (by simp [Value.cells, acl_len (L := []) (by simp)]) (by decide) v LL.length (acls LL) hs hown ⟨b, 0, none⟩ 1 c (acls [X]) hx (by rw [e1, acl_len hX]) (fun j u hj => ?_) (acls_one _) (by unfold maxLen; omega) (by omega) hbase ?_
  · rw [e1] at hj
    have hjl := (List.getElem?_eq_some_iff.1 hj).1
    rw [acl_len hX] at hjl
    have hadd : (⟨b, 0, none⟩ : Addr).add j = ⟨b, j, none⟩ := by cases j <;> simp [Addr.add]
    rw [hadd, hb j hjl, hj]
  · intro v' w' h1 h2 _ _
    refine h v' w' ?_ h2
    unfold OwnA
    rw [acls_app, List.length_append]
    exact h1

/-- The code of a list with classes. -/
noncomputable def clC (L : List MapN) (LL : List (List Int)) : Int := if tC 30 L = 0 then (if LL.all (fun X => clsB X (elsK L).length) = true then 0 else 2) else tC 30 L

theorem clC_bad {L : List MapN} {LL : List (List Int)} (h : tC 30 L ≠ 0) : clC L LL = tC 30 L := by unfold clC; rw [if_neg h]
theorem clC_0 {L : List MapN} {LL : List (List Int)} (h : tC 30 L = 0) (h2 : ∀ j, j < LL.length → clsB (LL.getD j []) (elsK L).length = true) : clC L LL = 0 := by
  unfold clC
  rw [if_pos h, if_pos]
  rw [List.all_eq_true]
  intro X hX
  obtain ⟨j, hj, rfl⟩ := List.getElem_of_mem hX
  have := h2 j hj
  rw [List.getD_eq_getElem?_getD, List.getElem?_eq_getElem hj] at this
  exact this
theorem clC_2 {L : List MapN} {LL : List (List Int)} (h : tC 30 L = 0) (j : Nat) (hj : j < LL.length) (h2 : clsB (LL.getD j []) (elsK L).length = false) : clC L LL = 2 := by
  unfold clC
  rw [if_pos h, if_neg]
  rw [List.all_eq_true]
  intro hc
  have := hc _ (List.getElem_mem hj)
  rw [List.getD_eq_getElem?_getD, List.getElem?_eq_getElem hj] at h2
  rw [show clsB LL[j] (elsK L).length = false from h2] at this
  cases this

/-- What is left of a list with classes, on the side of spec. -/
def RetCl (L : List MapN) (LL : List (List Int)) (w : World) (e : Ending) (w' : World) : Prop :=
  Below w.heap.size w w' ∧ ((clC L LL ≠ 0 ∧ e = .returned (.tuple #[.slice none 0 0, .int .i64 (clC L LL)])) ∨
    (clC L LL = 0 ∧ Mon (fst0 L) (elsK L) ∧ (elsK L).length ≤ 30 ∧ (∀ j, j < LL.length → Cls (LL.getD j []) (elsK L).length) ∧ ∃ a cap, e = .returned (.tuple #[.slice a (elsK L).length cap, .int .i64 0]) ∧ Tb w' w'.heap.size a (elsK L).length (muK (fst0 L) (elsK L))))

/-- The same, on the side of impl, with the arrays. -/
def RetClI (L : List MapN) (LL : List (List Int)) (w : World) (e : Ending) (w' : World) : Prop :=
  Below w.heap.size w w' ∧ ((clC L LL ≠ 0 ∧ e = .returned (.tuple #[.slice none 0 0, .slice none 0 0, .int .i64 (clC L LL)])) ∨
    (clC L LL = 0 ∧ Mon (fst0 L) (elsK L) ∧ (elsK L).length ≤ 30 ∧ (∀ j, j < LL.length → Cls (LL.getD j []) (elsK L).length) ∧ ∃ a cap a2 c2, e = .returned (.tuple #[.slice a (elsK L).length cap, .slice a2 LL.length c2, .int .i64 0]) ∧ Tb w' w'.heap.size a (elsK L).length (muK (fst0 L) (elsK L)) ∧ InRowA w' a2 LL))

set_option maxRecDepth 100000 in
set_option maxHeartbeats 2000000 in
theorem scl_any (a : Option Addr) (c : Nat) (L : List MapN) (hl : L.length ≤ 1048576) (LL : List (List Int)) (hLn : LL.length ≤ 1000) (hLL : ∀ j, j < LL.length → (LL.getD j []).length ≤ 1048576) (ag : Option Addr) (cg : Nat) (w : World) (hr : InRowM w a L) (hg : InRows w ag LL) :
    Calls Try.prog 52 #[.slice a L.length c, .slice ag LL.length cg] w (RetCl L LL w) := by
  have HG := Lib.hid (sgvn_any 30 (by omega) a c L hl w hr)
  have HRS := Lib.hid hg
  have HLL := Lib.hid hLL
  clear hr hg hLL
  go_enter Try.func52, Try.ntmps52
  go_wp2_with fail
  refine HG.out.mono ?_
  rintro e w1 ⟨hb, ⟨hc, rfl⟩ | ⟨hc, hmon, hle, a1, c1, rfl, htb⟩⟩
  · have HB := Lib.hid hb
    have HE := Lib.hid (clC_bad (LL := LL) hc)
    have hne : (tC 30 L != 0) = true := by simpa using hc
    have HC := Lib.hid hc
    clear hb hc
    generalize tC 30 L = C at *
    go_wp2_with fail
    go_ret2
    exact ⟨HB.out, Or.inl ⟨by rw [HE.out]; exact HC.out, by rw [HE.out]; rfl⟩⟩
  · have HB := Lib.hid hb
    have HC := Lib.hid hc
    have HMO := Lib.hid hmon
    have HTB := Lib.hid htb
    have HRW := Lib.hid (HRS.out.below hb)
    have HQ := Lib.hid fun j hj h2 => clC_2 (LL := LL) hc j hj h2
    have HQ0 := Lib.hid fun h2 => clC_0 (LL := LL) hc h2
    have hs1 := hb.size
    clear hb hc hmon htb
    obtain ⟨m, hm⟩ : ∃ m, m = (elsK L).length := ⟨_, rfl⟩
    have HM := Lib.hid hm
    rw [← hm] at hle HQ HQ0 HTB ⊢
    clear hm
    go_wp2_with fail
    go_loopw [8] (fun i wr => ∃ k : Nat, k ≤ LL.length ∧ i = .int .i64 k ∧ Below w1.heap.size w1 wr ∧ ∀ j, j < k → clsB (LL.getD j []) m = true) (fun i _ => LL.length - (intOf i).toNat)
    case atStart => exact ⟨0, by omega, rfl, Below.refl _ _, fun j hj => by omega⟩
    case round =>
      obtain ⟨k, hk, rfl, hb, hal⟩ := hrel
      have HBR := Lib.hid hb
      have HAL := Lib.hid hal
      have hsr := hb.size
      by_cases hkl : k < LL.length
      · have hkl' : (k : Int) < (LL.length : Int) := by omega
        obtain ⟨b, rfl, hbl, hcs⟩ := (HRW.out.below hb).resolve_left (fun e => by rw [e] at hkl; simp at hkl)
        obtain ⟨aj, cj, e1, hrow⟩ := hcs k hkl
        have hx := HLL.out k hkl
        have HIS := Lib.hid (sis6_any (LL.getD k []) hx m (by omega) aj cj wr hrow)
        have HQK := Lib.hid fun h2 => HQ.out k hkl h2
        have HALS : Hid (clsB (LL.getD k []) m = true → ∀ j, j < k + 1 → clsB (LL.getD j []) m = true) := Lib.hid fun h j hj => by
          rcases Nat.lt_succ_iff_lt_or_eq.1 hj with h2 | h2
          · exact HAL.out j h2
          · subst h2; exact h
        clear hb hal hcs hrow
        generalize hX : LL.getD k [] = X at *
        clear hX
        go_wp2_with fail
        refine HIS.out.mono ?_
        rintro e w2 ⟨rfl, hb2⟩
        have HB2 : Hid (Below w1.heap.size w1 w2) := Lib.hid (HBR.out.trans (hb2.mono hsr))
        clear hb2 e1
        cases hv : clsB X m
        · have HE2 := Lib.hid (HQK.out hv)
          clear hv
          go_wp2_with fail
          go_ret2
          exact ⟨HB.out.trans (HB2.out.mono hs1), Or.inl ⟨by rw [HE2.out]; decide, by rw [HE2.out]; rfl⟩⟩
        · have HV := Lib.hid (HALS.out hv)
          clear hv
          go_wp2_with fail
          go_roundw
          case rel => exact ⟨k + 1, by omega, by go_num, HB2.out, HV.out⟩
          case measure => simp [intOf]; omega
      · obtain rfl : k = LL.length := by omega
        have HE0 := Lib.hid (HQ0.out HAL.out)
        clear hb hal
        go_wp2_with fail
        go_ret2
        refine ⟨HB.out.trans (HBR.out.mono hs1), Or.inr ⟨HE0.out, HMO.out, by rw [← HM.out]; exact hle, fun j hj => by rw [← HM.out]; exact clsB_iff.1 (HAL.out j hj), a1, c1, by rw [← HM.out]; rfl, ?_⟩⟩
        rw [← HM.out]
        exact (HTB.out.below HBR.out).up hsr (Nat.le_refl _)

set_option maxRecDepth 100000 in
set_option maxHeartbeats 4000000 in
theorem icl_any (a : Option Addr) (c : Nat) (hc0 : a = none → c = 0) (L : List MapN) (hl : L.length ≤ 1048576) (LL : List (List Int)) (hLn : LL.length ≤ 1000) (hLw : ∀ j, j < LL.length → ∀ x ∈ LL.getD j [], (Lit.int .i64 x).wf = true) (ag : Option Addr) (cg : Nat) (w : World) (hr : InRowM w a L) (hg : InRows w ag LL) :
    Calls Try.prog 55 #[.slice a L.length c, .slice ag LL.length cg] w (RetClI L LL w) := by
  have HG := Lib.hid (ita_any 30 (by omega) a c hc0 L hl w hr)
  have HRS := Lib.hid hg
  have HLW := Lib.hid hLw
  clear hr hg hLw hc0
  go_enter Try.func55, Try.ntmps55
  go_wp2_with fail
  refine HG.out.mono ?_
  rintro e w1 ⟨hb, ⟨hc, rfl⟩ | ⟨hc, hmon, hle, a1, c1, rfl, htb⟩⟩
  · have HB := Lib.hid hb
    have HE := Lib.hid (clC_bad (LL := LL) hc)
    have hne : (tC 30 L != 0) = true := by simpa using hc
    have HC := Lib.hid hc
    clear hb hc
    generalize tC 30 L = C at *
    go_wp2_with fail
    go_ret3
    exact ⟨HB.out, Or.inl ⟨by rw [HE.out]; exact HC.out, by rw [HE.out]; rfl⟩⟩
  · have HB := Lib.hid hb
    have HC := Lib.hid hc
    have HMO := Lib.hid hmon
    have HTB := Lib.hid htb
    have HRW := Lib.hid (HRS.out.below hb)
    have HQ := Lib.hid fun j hj h2 => clC_2 (LL := LL) hc j hj h2
    have HQ0 := Lib.hid fun h2 => clC_0 (LL := LL) hc h2
    have hs1 := hb.size
    clear hb hc hmon htb
    obtain ⟨m, hm⟩ : ∃ m, m = (elsK L).length := ⟨_, rfl⟩
    have HM := Lib.hid hm
    rw [← hm] at hle HQ HQ0 HTB ⊢
    clear hm
    go_wp2_with fail
    go_loopw [9, 11, 22] (fun v _ i wr => ∃ k : Nat, k ≤ LL.length ∧ i = .int .i64 k ∧ OwnA wr w1.heap.size v (LL.take k) ∧ Below w1.heap.size w1 wr ∧ ∀ j, j < k → clsB (LL.getD j []) m = true) (fun _ _ i _ => LL.length - (intOf i).toNat)
    case atStart => exact ⟨0, by omega, rfl, World.ownsRow_nil _ _ _ _, Below.refl _ _, fun j hj => by omega⟩
    case round =>
      obtain ⟨k, hk, rfl, hown, hb, hal⟩ := hrel
      have HOW := Lib.hid hown
      have HBR := Lib.hid hb
      have HAL := Lib.hid hal
      have hsr := hb.size
      by_cases hkl : k < LL.length
      · have hkl' : (k : Int) < (LL.length : Int) := by omega
        obtain ⟨b, rfl, hbl, hcs⟩ := (HRW.out.below hb).resolve_left (fun e => by rw [e] at hkl; simp at hkl)
        obtain ⟨aj, cj, e1, hrow⟩ := hcs k hkl
        have HXW := Lib.hid (HLW.out k hkl)
        have HQK := Lib.hid fun h2 => HQ.out k hkl h2
        have HALS : Hid (clsB (LL.getD k []) m = true → ∀ j, j < k + 1 → clsB (LL.getD j []) m = true) := Lib.hid fun h j hj => by
          rcases Nat.lt_succ_iff_lt_or_eq.1 hj with h2 | h2
          · exact HAL.out j h2
          · subst h2; exact h
        have HTK : Hid (LL.take (k + 1) = LL.take k ++ [LL.getD k []]) := Lib.hid (by
          rw [List.take_add_one, List.getElem?_eq_getElem hkl, List.getD_eq_getElem?_getD, List.getElem?_eq_getElem hkl]; rfl)
        have htl : (LL.take k).length = k := by rw [List.length_take]; omega
        have HROW := Lib.hid hrow
        clear hb hal hcs hrow hown
        generalize LL.getD k [] = X at *
        by_cases hlen : X.length = m
        · have hAN := fun w h => anf_any X (by omega) HXW.out aj cj w h
          have hAR := fun w h => arrC_any X (by omega) aj cj w h
          rw [hlen] at hAN hAR e1
          have HAN := Lib.hid hAN
          have HAR := Lib.hid hAR
          have HX30 : Hid (X.length ≤ 30) := Lib.hid (by omega)
          clear hAN hAR hlen
          have hq : ((m : Int) != (m : Int)) = false := by simp
          go_wp2_with fail
          refine (HAN.out _ HROW.out).mono ?_
          rintro e w2 ⟨rfl, hb2⟩
          have HB2 : Hid (Below w1.heap.size w1 w2) := Lib.hid (HBR.out.trans (hb2.mono hsr))
          have HO2 : Hid (OwnA w2 w1.heap.size u9 (LL.take k)) := Lib.hid (HOW.out.kept (row := none) ⟨hb2.os, hb2.tape, hb2.output, hb2.size, fun j hj _ => hb2.block j hj⟩ (by cases hv : u9.ownBlock <;> simp))
          have HR2 := Lib.hid (HROW.out.below hb2)
          have hs2 := HB2.out.size
          clear hb2 e1
          cases hv : clsB X m
          · have HE2 := Lib.hid (HQK.out hv)
            clear hv
            go_wp2_with fail
            go_ret3
            exact ⟨HB.out.trans (HB2.out.mono hs1), Or.inl ⟨by rw [HE2.out]; decide, by rw [HE2.out]; rfl⟩⟩
          · have HV := Lib.hid (HALS.out hv)
            clear hv
            go_wp2_with fail
            refine (HAR.out _ HR2.out).mono ?_
            rintro e w3 ⟨rfl, hb3⟩
            have HB3 : Hid (Below w1.heap.size w1 w3) := Lib.hid (HB2.out.trans (hb3.mono hs2))
            have HO3 : Hid (OwnA w3 w1.heap.size u9 (LL.take k)) := Lib.hid (HO2.out.kept (row := none) ⟨hb3.os, hb3.tape, hb3.output, hb3.size, fun j hj _ => hb3.block j hj⟩ (by cases hv : u9.ownBlock <;> simp))
            have hs3 := HB3.out.size
            have HCE : Hid (ac X = (acl X).toArray) := Lib.hid rfl
            rw [HCE.out]
            clear hb3
            have hal30 := acl_len HX30.out
            go_wp2_with (at_builtin; refine wpList_appA rfl _ _ rfl w1.heap.size _ (LL.take k) rfl (show OwnA _ _ _ _ from (HO3.out : w3.ownsRow _ _ _ _ _ _).alloc _) w3.heap.size 1 X HX30.out rfl ?hb (by omega) (by simp; omega) ?_)
            case hb =>
              intro i hi
              rw [World.cell?_alloc_new, fold_zip i (acl X) 0 _ (by simp [hal30]), if_pos (by omega), Nat.sub_zero]
            intro v' w4 hown4 hg4
            have HO4 : Hid (OwnA w4 w1.heap.size v' (LL.take (k + 1))) := Lib.hid (by rw [HTK.out]; exact hown4)
            have HB4 : Hid (Below w1.heap.size w1 w4) := Lib.hid ((HB3.out.alloc hs3 _).grown hg4 (by simp; omega) (fun r e => (HO3.out.lt r e).1))
            clear hown4 hg4
            go_wp2_with fail
            go_roundw
            case rel => exact ⟨k + 1, by omega, by go_num, HO4.out, HB4.out, HV.out⟩
            case measure => simp [intOf]; omega
        · have hq : ((X.length : Int) != (m : Int)) = true := by simp; omega
          have HE2 : Hid (clC L LL = 2) := Lib.hid (HQK.out (by
            rw [Bool.eq_false_iff]; intro h; exact hlen (clsB_iff.1 h).1))
          clear hlen
          go_wp2_with fail
          go_ret3
          exact ⟨HB.out.trans (HBR.out.mono hs1), Or.inl ⟨by rw [HE2.out]; decide, by rw [HE2.out]; rfl⟩⟩
      · obtain rfl : k = LL.length := by omega
        have HE0 := Lib.hid (HQ0.out HAL.out)
        have hcl : ∀ j, j < LL.length → Cls (LL.getD j []) m := fun j hj => clsB_iff.1 (HAL.out j hj)
        have hT := HOW.out
        rw [List.take_length] at hT
        obtain ⟨a2, c2, rfl, hin⟩ := ownA_in (fun X hX => by
          obtain ⟨j, hj, rfl⟩ := List.getElem_of_mem hX
          have := (hcl j hj).1
          rw [List.getD_eq_getElem?_getD, List.getElem?_eq_getElem hj] at this
          simp only [Option.getD_some] at this
          omega) hT
        have HIN := Lib.hid hin
        have HCL := Lib.hid hcl
        clear hb hal hown hin hT hcl
        go_wp2_with fail
        go_ret3
        refine ⟨HB.out.trans (HBR.out.mono hs1), Or.inr ⟨HE0.out, HMO.out, by rw [← HM.out]; exact hle, fun j hj => by rw [← HM.out]; exact HCL.out j hj, a1, c1, a2, c2, by rw [← HM.out]; rfl, ?_, HIN.out⟩⟩
        rw [← HM.out]
        exact (HTB.out.below HBR.out).up hsr (Nat.le_refl _)

end Go.Proofs.Ytdgdcpcfjdnlcaa
