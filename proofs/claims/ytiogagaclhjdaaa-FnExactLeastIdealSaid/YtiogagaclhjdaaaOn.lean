/- The contract of spec.l04All: the elements, where the other maps are elements. What a function of chapter 4 over a list and an element gives. -/
import Derived.Test.YtiogagaclhjdaaaWith
import Derived.Test.YtiogagaclhjdaaaSzr
import Derived.Test.YtiogagaclhjdaaaIdl
namespace Go.Proofs.Ytiogagaclhjdaaa
open Go.RowKit Go.Maps

/-- The elements, or nothing. -/
noncomputable def allL (L O : List MapN) : List MapN := if witC L O = 0 then mE (fst0 L) (elsK L) else []

theorem allL_0 {L O : List MapN} (h : witC L O = 0) : allL L O = mE (fst0 L) (elsK L) := by unfold allL; rw [if_pos h]
theorem allL_1 {L O : List MapN} (h : witC L O ≠ 0) : allL L O = [] := by unfold allL; rw [if_neg h]

theorem witC_good {L O : List MapN} (h : witC L O = 0) : elsC L O = 0 ∧ witB L O = true := by
  unfold witC at h
  by_cases h1 : elsC L O = 0
  · rw [if_pos h1] at h
    by_cases h2 : witB L O = true
    · exact ⟨h1, h2⟩
    · rw [if_neg h2] at h; exact absurd h (by decide)
  · rw [if_neg h1] at h; exact absurd h h1

theorem witB_mem {L O : List MapN} (h : witB L O = true) : ∀ x ∈ O, ecd x.2 ∈ elsK L := fun x hx => by
  unfold witB at h
  exact of_decide_eq_true (List.all_eq_true.1 h x hx)

/-- What a list and maps beside it are, if there is no error. -/
theorem wit_all {L O : List MapN} (h : witC L O = 0) : GoodL L ∧ (elsK L).length ≤ 300 ∧ (∀ c ∈ elsK L, vld (fst0 L) c) ∧ ∀ x ∈ O, x.1 = fst0 L ∧ isB x.1 x.2 = true ∧ ecd x.2 ∈ elsK L := by
  obtain ⟨h1, h2⟩ := witC_good h
  have hg := chk_good (chk_good2 h1)
  refine ⟨hg.1, elsK_300 h1 hg.1, elsK_vld hg.1, fun x hx => ?_⟩
  obtain ⟨k, hk, rfl⟩ := List.getElem_of_mem hx
  have := hg.2 k hk
  rw [List.getD_eq_getElem?_getD, List.getElem?_eq_getElem hk] at this
  exact ⟨this.1, this.2, witB_mem h2 _ hx⟩

set_option maxRecDepth 100000 in
set_option maxHeartbeats 1000000 in
theorem all_any (a1 a2 : Option Addr) (c1 c2 : Nat) (L O : List MapN) (hl1 : L.length ≤ 1048576) (hl2 : O.length ≤ 900000) (w : World) (hr1 : InRowM w a1 L) (hr2 : InRowM w a2 O) :
    Calls Try.prog 45 #[.slice a1 L.length c1, .slice a2 O.length c2] w (RetRowM w.heap.size (allL L O) (witC L O) w) := by
  have HS := Lib.hid (sels_any a1 a2 c1 c2 L O hl1 hl2 w hr1 hr2)
  have HR2 := Lib.hid hr2
  clear hr1 hr2
  by_cases hc : elsC L O = 0
  · have hg := (chk_good (chk_good2 hc)).1
    have hO := (chk_good (chk_good2 hc)).2
    have hle := elsK_300 hc hg
    have hvl := elsK_vld hg
    have hHS := HS.out
    rw [hc, elsL_0 hc] at hHS
    have HS := Lib.hid hHS
    have HRN := Lib.hid (inRow_numO hO HR2.out)
    have HOV : Hid (∀ k, k < O.length → vld (fst0 L) ((codes O).getD k 0)) := Lib.hid fun k hk => by
      rw [codes_at O k hk, ← (hO k hk).1]
      exact vld_ecd (hO k hk).2
    have HFI := Lib.hid fun (x : Nat) (hx : vld (fst0 L) x) (a : Option Addr) (cap : Nat) (z : World) h => find_any hvl (srtE_srt _ : srtd (elsK L)) hx (Nat.le_trans hle (by omega)) a cap z h
    have HF : Hid (∀ k, k < O.length → (codes O).getD k 0 ∉ elsK L → witC L O = 4 ∧ allL L O = []) := Lib.hid fun k hk hn => by
      have e := witC_4 hc (witB_false k hk hn)
      exact ⟨e, allL_1 (by rw [e]; decide)⟩
    have HT : Hid ((∀ k, k < O.length → (codes O).getD k 0 ∈ elsK L) → witC L O = 0 ∧ allL L O = mE (fst0 L) (elsK L)) := Lib.hid fun h => by
      have e := witC_0 hc (witB_true h)
      exact ⟨e, allL_0 e⟩
    clear hHS hc hg hO hvl HR2
    generalize witC L O = C at *
    generalize allL L O = R at *
    generalize elsK L = K at *
    generalize fst0 L = p at *
    (try simp only [mE_len] at HS)
    simp only [mv, mcells] at HFI
    go_enter Try.func45, Try.ntmps45
    go_wp2_with fail
    refine HS.out.mono ?_
    rintro e w1 ⟨aK, cK, rfl, hrd, hb⟩
    rw [mE_len]
    have HB1 := Lib.hid hb
    have HRD := Lib.hid hrd
    have hs1 := hb.size
    clear hb hrd HS
    go_wp2_with fail
    go_loopw [8] (fun i wr => ∃ k : Nat, k ≤ O.length ∧ i = .int .i64 k ∧ Below w1.heap.size w1 wr ∧ ∀ j, j < k → (codes O).getD j 0 ∈ K) (fun i _ => O.length - (intOf i).toNat)
    case atStart => exact ⟨0, by omega, rfl, Below.refl _ _, fun j hj => by omega⟩
    case round =>
      obtain ⟨k, hk, rfl, hb, hal⟩ := hrel
      have HBR := Lib.hid hb
      have HAL := Lib.hid hal
      have hsr := hb.size
      clear hb hal
      by_cases hkl : k < O.length
      · have hkl' : (k : Int) < (O.length : Int) := by omega
        obtain ⟨b1, o1, rfl, hl1, hat1⟩ := (HRN.out.below (HB1.out.trans (HBR.out.mono hs1))).at6 k (by rw [mE_len, codes_len]; exact hkl)
        rw [mE_at _ _ _ (by rw [codes_len]; exact hkl)] at hat1
        obtain ⟨x0, x1, x2, x3, x4, x5⟩ := hat1
        simp only [] at x0 x1 x2 x3 x4 x5
        have HF2 := Lib.hid (HF.out k hkl)
        have HQ := Lib.hid (HFI.out _ (HOV.out k hkl))
        have HS2 := Lib.hid fun (e : (codes O).getD k 0 ∈ K) (j : Nat) (hj : j < k + 1) => (show (codes O).getD j 0 ∈ K by
          by_cases h : j = k
          · rw [h]; exact e
          · exact HAL.out j (by omega))
        generalize (codes O).getD k 0 = x at *
        go_wp2_with fail
        refine (HQ.out aK cK _ (HRD.out.below HBR.out).inRow).mono ?_
        rintro e w2 ⟨rfl, hb2⟩
        have HB2 := Lib.hid hb2
        clear hb2
        by_cases hin : x ∈ K
        · have hlo : (0 : Int) ≤ (lowN K x : Int) := by omega
          have HIN := Lib.hid (HS2.out hin)
          rw [if_pos hin]
          clear hin
          generalize (lowN K x : Int) = N1 at *
          go_wp2_with fail
          go_roundw
          case rel => exact ⟨k + 1, by omega, by go_num, HBR.out.trans (HB2.out.mono hsr), HIN.out⟩
          case measure => simp [intOf]; omega
        · obtain ⟨e1, e2⟩ := HF2.out hin
          rw [if_neg hin]
          subst e1 e2
          clear hin
          go_wp2_with fail
          go_ret2
          exact ⟨none, 0, rfl, ⟨by simp, Or.inl rfl⟩, HB1.out.trans ((HBR.out.trans (HB2.out.mono hsr)).mono hs1)⟩
      · obtain rfl : k = O.length := by omega
        obtain ⟨e1, e2⟩ := HT.out HAL.out
        subst e1 e2
        go_wp2_with fail
        go_ret2
        exact ⟨aK, cK, by rw [mE_len]; rfl, HRD.out.below HBR.out, HB1.out.trans (HBR.out.mono hs1)⟩
  · have e1 := witC_bad hc
    have e2 : allL L O = [] := allL_1 (by rw [e1]; exact hc)
    have hHS := HS.out
    rw [elsL_1 hc] at hHS
    have HS := Lib.hid hHS
    rw [e1, e2]
    clear hHS e1 e2
    generalize elsC L O = C at *
    have hcb : (C != 0) = true := by simpa using hc
    (try simp only [List.length_nil] at HS)
    go_enter Try.func45, Try.ntmps45
    go_wp2_with fail
    refine HS.out.mono ?_
    rintro e w1 ⟨aK, cK, rfl, _, hb⟩
    have HB := Lib.hid hb
    clear hb
    go_wp2_with fail
    go_ret2
    exact ⟨none, 0, rfl, ⟨by simp, Or.inl rfl⟩, HB.out⟩

end Go.Proofs.Ytiogagaclhjdaaa

namespace Go.Proofs.Ytiogagaclhjdaaa
open Go Go.RowKit

noncomputable def onL (N : Int → List Nat → Nat → List Nat) (L : List MapN) (q : Int) (s : Nat → Int) : List MapN := if witC L [(q, s)] = 0 then mE (fst0 L) (N (fst0 L) (elsK L) (ecd s)) else []
noncomputable def onB (N : Int → List Nat → Nat → Bool) (L : List MapN) (q : Int) (s : Nat → Int) : Bool := decide (witC L [(q, s)] = 0) && N (fst0 L) (elsK L) (ecd s)
noncomputable def onV (N : Int → List Nat → Nat → Bool) (L : List MapN) (q : Int) (s : Nat → Int) : Value := .tuple #[.bool (onB N L q s), .int .i64 (witC L [(q, s)])]

variable {L : List MapN} {q : Int} {s : Nat → Int}
theorem onL_0 {N : Int → List Nat → Nat → List Nat} (h : witC L [(q, s)] = 0) : onL N L q s = mE (fst0 L) (N (fst0 L) (elsK L) (ecd s)) := by unfold onL; rw [if_pos h]
theorem onL_1 {N : Int → List Nat → Nat → List Nat} (h : witC L [(q, s)] ≠ 0) : onL N L q s = [] := by unfold onL; rw [if_neg h]
theorem onV_0 {N : Int → List Nat → Nat → Bool} (h : witC L [(q, s)] = 0) : onV N L q s = .tuple #[.bool (N (fst0 L) (elsK L) (ecd s)), .int .i64 0] := by unfold onV onB; rw [h]; simp
theorem onV_1 {N : Int → List Nat → Nat → Bool} (h : witC L [(q, s)] ≠ 0) : onV N L q s = .tuple #[.bool false, .int .i64 (witC L [(q, s)])] := by unfold onV onB; rw [decide_eq_false h]; rfl

/-- What a list and an element are. -/
theorem on_good (h : witC L [(q, s)] = 0) : Mon q (elsK L) ∧ fst0 L = q ∧ isB q s = true ∧ ecd s ∈ elsK L ∧ mv q (dcd (ecd s)) = mv q s := by
  obtain ⟨_, _, _, hO⟩ := wit_all h
  obtain ⟨h1, h2, h3⟩ := hO (q, s) (by simp)
  have hm := mon_els (witC_good h).1
  have h1' : fst0 L = q := h1.symm
  rw [h1'] at hm
  exact ⟨hm, h1', h2, h3, congrArg Value.agg (mcells_ecd h2)⟩

/-- The same of a list alone. -/
noncomputable def alL (N : Int → List Nat → List Nat) (L : List MapN) : List MapN := if witC L [] = 0 then mE (fst0 L) (N (fst0 L) (elsK L)) else []
noncomputable def alB (N : Int → List Nat → Bool) (L : List MapN) : Bool := decide (witC L [] = 0) && N (fst0 L) (elsK L)
noncomputable def alV (N : Int → List Nat → Bool) (L : List MapN) : Value := .tuple #[.bool (alB N L), .int .i64 (witC L [])]
theorem alL_0 {N : Int → List Nat → List Nat} (h : witC L [] = 0) : alL N L = mE (fst0 L) (N (fst0 L) (elsK L)) := by unfold alL; rw [if_pos h]
theorem alL_1 {N : Int → List Nat → List Nat} (h : witC L [] ≠ 0) : alL N L = [] := by unfold alL; rw [if_neg h]
theorem alV_0 {N : Int → List Nat → Bool} (h : witC L [] = 0) : alV N L = .tuple #[.bool (N (fst0 L) (elsK L)), .int .i64 0] := by unfold alV alB; rw [h]; simp
theorem alV_1 {N : Int → List Nat → Bool} (h : witC L [] ≠ 0) : alV N L = .tuple #[.bool false, .int .i64 (witC L [])] := by unfold alV alB; rw [decide_eq_false h]; rfl
theorem witC_els : witC L [] = elsC L [] := by
  unfold witC witB
  by_cases h : elsC L [] = 0
  · rw [if_pos h, h]; rfl
  · rw [if_neg h]

end Go.Proofs.Ytiogagaclhjdaaa
