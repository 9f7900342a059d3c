/- Whether the language of an acceptor is finite: numbers of words are not negative; slices.Max; the contracts of IsFinite on both sides. -/
import Derived.Test.YtgiefgbpcjoieaaCts
import Derived.Test.YtgiefgbpcjoieaaCti
namespace Go.Proofs.Ytgiefgbpcjoieaa
open Go Go.RowKit

theorem aw_in {s x : Int} (h : -4611686018427387904 ≤ s + x ∧ s + x ≤ 4611686018427387904) : aw s x = s + x := by
  unfold aw
  exact IntWalk.i64_in _ (by omega)

theorem adI_bd {nx : Nat → Nat → Nat} {V : Nat → Int} {x : Nat} {U : Nat → Int} {M T : Int} (hV : 0 ≤ V x ∧ V x ≤ M) (hU : ∀ q, 0 ≤ U q ∧ U q ≤ T) : ∀ y : Nat, T + (y : Int) * M ≤ 4611686018427387904 → ∀ q, 0 ≤ adI nx V x U y q ∧ adI nx V x U y q ≤ T + (y : Int) * M
  | 0, _, q => by
    have := hU q
    show 0 ≤ U q ∧ U q ≤ _
    simp
    exact this
  | y + 1, hT, q => by
    have hM : 0 ≤ M := by omega
    rw [show ((y + 1 : Nat) : Int) = (y : Int) + 1 by omega, Int.add_mul, Int.one_mul] at hT ⊢
    have ih := adI_bd (nx := nx) hV hU y (by omega)
    show 0 ≤ upd (adI nx V x U y) (nx x y) (aw (adI nx V x U y (nx x y)) (V x)) q ∧ upd (adI nx V x U y) (nx x y) (aw (adI nx V x U y (nx x y)) (V x)) q ≤ _
    unfold upd
    by_cases e : q = nx x y
    · rw [if_pos e]
      have h1 := ih (nx x y)
      rw [aw_in (by omega)]
      omega
    · rw [if_neg e]
      have h1 := ih q
      omega

theorem adP_bd {nx : Nat → Nat → Nat} {m p : Nat} {V : Nat → Int} {M : Int} (hV : ∀ q, q < p → 0 ≤ V q ∧ V q ≤ M) (hM : 0 ≤ M) : ∀ x : Nat, x ≤ p → (x : Int) * ((m : Int) * M) ≤ 4611686018427387904 → ∀ q, 0 ≤ adP nx m V x q ∧ adP nx m V x q ≤ (x : Int) * ((m : Int) * M)
  | 0, _, _, q => by
    show (0 : Int) ≤ 0 ∧ (0 : Int) ≤ _
    simp
  | x + 1, hx, hT, q => by
    rw [show ((x + 1 : Nat) : Int) = (x : Int) + 1 by omega, Int.add_mul, Int.one_mul] at hT ⊢
    have hmm : 0 ≤ (m : Int) * M := Int.mul_nonneg (by omega) hM
    exact adI_bd (hV x (by omega)) (adP_bd hV hM x (by omega) (by omega)) m hT q

theorem wyK_bd {nx : Nat → Nat → Nat} {m p F : Nat} (hm : m ≤ 6) (hp : p ≤ 5) : ∀ k : Nat, k ≤ 12 → ∀ q, 0 ≤ wyK nx m p F k q ∧ wyK nx m p F k q ≤ (30 : Int) ^ k
  | 0, _, q => by
    show 0 ≤ upd (fun _ => 0) F 1 q ∧ upd (fun _ => 0) F 1 q ≤ _
    unfold upd
    split <;> simp
  | k + 1, hk, q => by
    have ih := wyK_bd (nx := nx) (F := F) hm hp k (by omega)
    have hP : 0 ≤ (30 : Int) ^ k := Int.le_trans (ih 0).1 (ih 0).2
    have hP2 : (30 : Int) ^ k ≤ 30 ^ 11 := by
      have : (30 : Nat) ^ k ≤ 30 ^ 11 := Nat.pow_le_pow_right (by omega) (by omega)
      exact_mod_cast this
    have h1 : (m : Int) * (30 : Int) ^ k ≤ 6 * (30 : Int) ^ k := Int.mul_le_mul_of_nonneg_right (by omega) hP
    have h2 : (p : Int) * ((m : Int) * (30 : Int) ^ k) ≤ 5 * ((m : Int) * (30 : Int) ^ k) := Int.mul_le_mul_of_nonneg_right (by omega) (Int.mul_nonneg (by omega) hP)
    have h3 : (30 : Int) ^ (k + 1) = 30 ^ k * 30 := Int.pow_succ ..
    have h4 : (30 : Int) ^ 11 = 17714700000000000 := by decide
    have := adP_bd (nx := nx) (m := m) (fun q _ => ih q) hP p (Nat.le_refl _) (by omega) q
    show 0 ≤ adP nx m (wyK nx m p F k) p q ∧ adP nx m (wyK nx m p F k) p q ≤ _
    omega

theorem smP_bd {V : Nat → Int} {b : Nat → Bool} {M : Int} (hM : 0 ≤ M) (hV : ∀ q, 0 ≤ V q ∧ V q ≤ M) : ∀ x : Nat, (x : Int) * M ≤ 4611686018427387904 → 0 ≤ smP V b x ∧ smP V b x ≤ (x : Int) * M
  | 0, _ => by show (0 : Int) ≤ 0 ∧ (0 : Int) ≤ _; simp
  | x + 1, hT => by
    rw [show ((x + 1 : Nat) : Int) = (x : Int) + 1 by omega, Int.add_mul, Int.one_mul] at hT ⊢
    have ih := smP_bd (b := b) hM hV x (by omega)
    have hx := hV x
    show 0 ≤ (if b x = true then aw (smP V b x) (V x) else smP V b x) ∧ (if b x = true then aw (smP V b x) (V x) else smP V b x) ≤ _
    split
    · rw [aw_in (by omega)]; omega
    · omega

/-- The number of words of length k is not negative. -/
theorem cnt_pos {nx : Nat → Nat → Nat} {m p F : Nat} {S : List Int} (hm : m ≤ 6) (hp : p ≤ 5) (hS : ptsB (p : Int) S = true) (k : Nat) (hk : k ≤ 11) : 0 ≤ smS (wyK nx m p F k) S S.length := by
  rw [smS_eq _ hS]
  have hb := wyK_bd (nx := nx) (F := F) hm hp k (by omega)
  have hP : 0 ≤ (30 : Int) ^ k := Int.le_trans (hb 0).1 (hb 0).2
  have hP2 : (30 : Int) ^ k ≤ 30 ^ 11 := by
    have : (30 : Nat) ^ k ≤ 30 ^ 11 := Nat.pow_le_pow_right (by omega) (by omega)
    exact_mod_cast this
  have h2 : (p : Int) * (30 : Int) ^ k ≤ 5 * (30 : Int) ^ k := Int.mul_le_mul_of_nonneg_right (by omega) hP
  have h4 : (30 : Int) ^ 11 = 17714700000000000 := by decide
  exact (smP_bd hP hb p (by omega)).1

theorem cnK_at (nx : Nat → Nat → Nat) (m p F : Nat) (S : List Int) (n k : Nat) (h : k < n) : (cnK nx m p F S n).getD k 0 = smS (wyK nx m p F k) S S.length := by simp [cnK, h]

set_option maxRecDepth 100000 in
set_option maxHeartbeats 2000000 in
theorem max_any (R : List Int) (h1 : 1 ≤ R.length) (hn : R.length ≤ 1048576) (a : Option Addr) (c : Nat) (w : World) (h : InRow w a R) :
    Calls Try.prog 66 #[.slice a R.length c] w fun e w' => ∃ X : Int, e = .returned (.int .i64 X) ∧ (∀ j, j < R.length → R.getD j 0 ≤ X) ∧ (∃ j, j < R.length ∧ R.getD j 0 = X) ∧ w' = w := by
  obtain ⟨b, off, rfl, hlt, hin⟩ := h.resolve_left (fun e => by rw [e] at h1; simp at h1)
  have HIN := Lib.hid hin
  have e0 := hin 0 (by omega)
  rw [Nat.add_zero] at e0
  have h1' : ¬ ((R.length : Int) < 1) := by omega
  have h1'' : (0 : Int) < (R.length : Int) := by omega
  clear h hin
  go_enter Try.func66, Try.ntmps66
  go_wp2_with fail
  go_loopw [3, 4] (fun s i wr => ∃ (k : Nat) (X : Int), 1 ≤ k ∧ k ≤ R.length ∧ i = .int .i64 k ∧ s = .int .i64 X ∧ (∀ j, j < k → R.getD j 0 ≤ X) ∧ (∃ j, j < R.length ∧ R.getD j 0 = X) ∧ wr = w) (fun _ i _ => R.length - (intOf i).toNat)
  case atStart => exact ⟨1, _, by omega, by omega, rfl, rfl, fun j hj => by rw [show j = 0 by omega]; exact Int.le_refl _, ⟨0, by omega, rfl⟩, rfl⟩
  case round =>
    obtain ⟨k, X, hk1, hk, rfl, rfl, hub, hat, rfl⟩ := hrel
    have HUB := Lib.hid hub
    have HAT := Lib.hid hat
    clear hub hat
    by_cases hkn : k < R.length
    · have hkn' : (k : Int) < (R.length : Int) := by omega
      have e1 := HIN.out k hkn
      have HY := Lib.hid (⟨k, hkn, rfl⟩ : ∃ j, j < R.length ∧ R.getD j 0 = R.getD k 0)
      have HSP : Hid (∀ Z : Int, X ≤ Z → R.getD k 0 ≤ Z → ∀ j, j < k + 1 → R.getD j 0 ≤ Z) := Lib.hid fun Z hz hy j hj => by
        by_cases e : j = k
        · rw [e]; exact hy
        · exact Int.le_trans (HUB.out j (by omega)) hz
      generalize R.getD k 0 = Y at *
      go_wp2_with fail
      go_roundw
      case rel =>
        refine ⟨k + 1, max X Y, by omega, by omega, by go_num, rfl, HSP.out _ (Int.le_max_left _ _) (Int.le_max_right _ _), ?_, trivial⟩
        rcases Int.le_total X Y with q | q
        · rw [Int.max_eq_right q]; exact HY.out
        · rw [Int.max_eq_left q]; exact HAT.out
      case measure => simp [intOf]; omega
    · obtain rfl : k = R.length := by omega
      go_wp2_with fail
      go_ret
      exact ⟨X, rfl, HUB.out, HAT.out, rfl⟩

def finB (nx : Nat → Nat → Nat) (m p F : Nat) (S : List Int) : Bool := decide (∀ k, k < p → smS (wyK nx m p F (p + k)) S S.length ≤ 0)
def finV (L : List MapN) (F : Int) (S : List Int) : Value := .tuple #[.bool (accB L F S && finB (nxP L) L.length (fst0 L).toNat F.toNat S), .int .i64 (if accB L F S = true then 0 else 1)]
theorem finV_bad {L : List MapN} {F : Int} {S : List Int} (h : accB L F S = false) : finV L F S = .tuple #[.bool false, .int .i64 1] := by unfold finV; rw [h]; rfl
theorem finV_good {L : List MapN} {F : Int} {S : List Int} (h : accB L F S = true) : finV L F S = .tuple #[.bool (finB (nxP L) L.length (fst0 L).toNat F.toNat S), .int .i64 0] := by unfold finV; rw [h]; rfl
theorem finB_no {nx : Nat → Nat → Nat} {m p F : Nat} {S : List Int} {k : Nat} (hk : k < p) (h : 0 < smS (wyK nx m p F (p + k)) S S.length) : finB nx m p F S = false := by
  unfold finB
  rw [decide_eq_false_iff_not]
  intro hh
  have := hh k hk
  omega
theorem finB_yes {nx : Nat → Nat → Nat} {m p F : Nat} {S : List Int} (h : ∀ k, k < p → smS (wyK nx m p F (p + k)) S S.length ≤ 0) : finB nx m p F S = true := by
  unfold finB
  rw [decide_eq_true_eq]
  exact h

set_option maxRecDepth 100000 in
set_option maxHeartbeats 4000000 in
theorem sFin_any (L : List MapN) (hl : L.length ≤ 1048576) (F : Int) (S : List Int) (hs : S.length ≤ 1048576) (a b : Option Addr) (c d : Nat) (hc0 : a = none → c = 0) (w : World) (h1 : InRowM w a L) (h2 : InRow w b S) :
    Calls Try.prog 27 #[.agg #[.slice a L.length c, .int .i64 F, .slice b S.length d]] w fun e w' => e = .returned (finV L F S) ∧ Below w.heap.size w w' := by
  obtain ⟨wb, hwb⟩ : ∃ wb, wb = w.alloc (.cells #[.slice a L.length c, .int .i64 F, .slice b S.length d] 29) := ⟨_, rfl⟩
  have HWB : Hid (Below w.heap.size w wb) := Lib.hid (by rw [hwb]; exact (Below.refl _ _).alloc (Nat.le_refl _) _)
  have hbx : wb.heap[w.heap.size]? = some (.cells #[.slice a L.length c, .int .i64 F, .slice b S.length d] 29 (0, 0)) := by rw [hwb]; exact halloc_at _ _ _ rfl
  have hwz : w.heap.size < wb.heap.size := (Array.getElem?_eq_some_iff.1 hbx).1
  have HBX := Lib.hid hbx
  have f0 := Joins.cell_of_block hbx 0
  have f1 := Joins.cell_of_block hbx 1
  have f2 := Joins.cell_of_block hbx 2
  simp only [List.getElem?_toArray, List.getElem?_cons_zero, List.getElem?_cons_succ] at f0 f1 f2
  have HAC := Lib.hid (sacc_any L hl F S hs a b c d wb (h1.below HWB.out) (h2.below HWB.out))
  clear hbx
  cases hA : accB L F S
  · rw [hA] at HAC
    have HV := Lib.hid (finV_bad hA)
    clear hA h1 h2
    go_enter Try.func27, Try.ntmps27
    go_wp2_with fail
    rw [← hwb]
    clear hwb
    go_wp2_with fail
    refine HAC.out.mono ?_
    rintro e w1 ⟨rfl, hb⟩
    have HB1 : Hid (Below w.heap.size w w1) := Lib.hid (HWB.out.trans (hb.mono (by omega)))
    clear hb
    go_wp2_with fail
    go_ret2
    exact ⟨congrArg Ending.returned HV.out.symm, HB1.out⟩
  obtain ⟨hL, hF0, hF1, hS, _⟩ := accB_true hA
  have hv := finV_good hA
  rw [hA] at HAC
  obtain ⟨F, rfl⟩ := Int.eq_ofNat_of_zero_le hF0
  have hfst := hL.fst
  simp only [Int.toNat_natCast] at hv
  obtain ⟨p, hp⟩ : ∃ p, p = (fst0 L).toNat := ⟨_, rfl⟩
  rw [← hp] at hL hfst hv
  rw [hfst] at hS
  have hFp : F < p := by omega
  have hp1 := hL.p1
  have hp5 := hL.p5
  have hm6 := hL.l6
  have hpos : 0 < L.length := hL.l1
  have HV := Lib.hid hv
  clear hv
  obtain ⟨g, off, rfl, hlt, hat⟩ := h1.at0 hpos
  have h0 : w.cell? ⟨g, off, none⟩ = some (.int .i64 (p : Int)) := by rw [← hfst]; exact hat.1
  have H0 := Lib.hid h0
  have hct : ∀ wx, Below w.heap.size w wx → Calls Try.prog 22 #[.agg #[.slice (some ⟨g, off, none⟩) L.length c, .int .i64 (F : Int), .slice b S.length d], .int .i64 (2 * (p : Int))] wx (RetRow wx.heap.size (cnK (nxP L) L.length p F S (2 * p + 1)) 0 wx) := fun wx hb => by
    have h := sCnt_any L hl (F : Int) S hs (2 * (p : Int)) (some ⟨g, off, none⟩) b c d hc0 wx (h1.below hb) (h2.below hb)
    have hce := cntC_good (n := 2 * (p : Int)) hA ⟨by omega, by omega⟩
    rw [cntL_yes hce, hce, ← hp] at h
    simp only [Int.toNat_natCast] at h
    rw [show (2 * (p : Int)).toNat = 2 * p by omega] at h
    exact h
  have HCT := Lib.hid hct
  have HLN := Lib.hid (cnK_len (nxP L) L.length p F S (2 * p + 1))
  have HAT := Lib.hid (cnK_at (nxP L) L.length p F S (2 * p + 1))
  have HNO := Lib.hid fun k hk h => finB_no (nx := nxP L) (m := L.length) (p := p) (F := F) (S := S) (k := k) hk h
  have HYE := Lib.hid fun h => finB_yes (nx := nxP L) (m := L.length) (p := p) (F := F) (S := S) h
  obtain ⟨V, hVV⟩ : ∃ V : Nat → Int, V = fun k => smS (wyK (nxP L) L.length p F k) S S.length := ⟨_, rfl⟩
  have HVV := Lib.hid fun k => congrFun hVV k
  generalize cnK (nxP L) L.length p F S (2 * p + 1) = R at *
  clear hA h1 h2 hL hF0 hF1 hS hp hfst hat h0 hct hVV
  go_enter Try.func27, Try.ntmps27
  go_wp2_with fail
  rw [← hwb]
  clear hwb
  go_wp2_with fail
  refine HAC.out.mono ?_
  rintro e w1 ⟨rfl, hb⟩
  have hz := hb.size
  have HB1 : Hid (Below w.heap.size w w1) := Lib.hid (HWB.out.trans (hb.mono (by omega)))
  have hbx := (hb.block _ (by omega)).trans HBX.out
  have f0 := Joins.cell_of_block hbx 0
  have f1 := Joins.cell_of_block hbx 1
  have f2 := Joins.cell_of_block hbx 2
  simp only [List.getElem?_toArray, List.getElem?_cons_zero, List.getElem?_cons_succ] at f0 f1 f2
  have e0 := (HB1.out.cell (p := ⟨g, off, none⟩) hlt).trans H0.out
  have hsz : w.heap.size < w1.heap.size := by omega
  clear hb hbx HAC
  go_wp2_with fail
  refine (HCT.out _ HB1.out).mono ?_
  rintro e w2 ⟨a2, c2, rfl, hrd, hb⟩
  have HB2 : Hid (Below w.heap.size w w2) := Lib.hid (HB1.out.trans (hb.mono (by omega)))
  have HRD := Lib.hid hrd
  clear hrd hb e0 f0 f1 f2
  go_wp2_with fail
  go_loopw [7] (fun i wr => ∃ k : Nat, k ≤ p ∧ i = .int .i64 ((p : Int) + k) ∧ (∀ j, j < k → V (p + j) ≤ 0) ∧ wr = w2) (fun i _ => 2 * p - (intOf i).toNat)
  case atStart => exact ⟨0, by omega, by simp, fun j hj => by omega, rfl⟩
  case round =>
    obtain ⟨k, hk, rfl, hok, rfl⟩ := hrel
    have HOK := Lib.hid hok
    clear hok
    by_cases hkp : k < p
    · have hlt2 : (p : Int) + (k : Int) < 2 * (p : Int) := by omega
      have hlr := HLN.out
      obtain ⟨g2, rfl, _, _, hc2⟩ := HRD.out.2.resolve_left (fun e => by rw [e] at hlr; simp at hlr)
      have e1 := (hc2 (p + k) (by omega)).1
      rw [HAT.out (p + k) (by omega), ← HVV.out] at e1
      have hi0 : (0 : Int) ≤ (p : Int) + (k : Int) := by omega
      have hi1 : (p : Int) + (k : Int) < (R.length : Int) := by omega
      have hito : ((p : Int) + (k : Int)).toNat = p + k := by omega
      clear hlr hc2
      by_cases hpos2 : 0 < V (p + k)
      · have HN : Hid (finV L F S = .tuple #[.bool false, .int .i64 0]) := Lib.hid (by rw [HV.out, HNO.out k hkp (by rw [← HVV.out]; exact hpos2)])
        generalize V (p + k) = X at *
        go_wp2_with fail
        go_ret2
        exact ⟨congrArg Ending.returned HN.out.symm, HB2.out⟩
      · have HOK2 : Hid (∀ j, j < k + 1 → V (p + j) ≤ 0) := Lib.hid fun j hj => by
          by_cases e : j = k
          · rw [e]; omega
          · exact HOK.out j (by omega)
        generalize V (p + k) = X at *
        go_wp2_with fail
        go_roundw
        case rel => exact ⟨k + 1, by omega, by go_num, HOK2.out, trivial⟩
        case measure => simp [intOf]; omega
    · obtain rfl : k = p := by omega
      have HN : Hid (finV L F S = .tuple #[.bool true, .int .i64 0]) := Lib.hid (by rw [HV.out, HYE.out (fun j hj => by rw [← HVV.out]; exact HOK.out j hj)])
      have hlt2 : ¬ ((k : Int) + (k : Int) < 2 * (k : Int)) := by omega
      go_wp2_with fail
      go_ret2
      exact ⟨congrArg Ending.returned HN.out.symm, HB2.out⟩

set_option maxRecDepth 100000 in
set_option maxHeartbeats 4000000 in
theorem iFin_any (L : List MapN) (hl : L.length ≤ 1048576) (F : Int) (S : List Int) (hs : S.length ≤ 1048576) (a b : Option Addr) (c d : Nat) (hc0 : a = none → c = 0) (w : World) (h1 : InRowM w a L) (h2 : InRow w b S) :
    Calls Try.prog 28 #[.agg #[.slice a L.length c, .int .i64 F, .slice b S.length d]] w fun e w' => e = .returned (finV L F S) ∧ Below w.heap.size w w' := by
  obtain ⟨wb, hwb⟩ : ∃ wb, wb = w.alloc (.cells #[.slice a L.length c, .int .i64 F, .slice b S.length d] 29) := ⟨_, rfl⟩
  have HWB : Hid (Below w.heap.size w wb) := Lib.hid (by rw [hwb]; exact (Below.refl _ _).alloc (Nat.le_refl _) _)
  have hbx : wb.heap[w.heap.size]? = some (.cells #[.slice a L.length c, .int .i64 F, .slice b S.length d] 29 (0, 0)) := by rw [hwb]; exact halloc_at _ _ _ rfl
  have hwz : w.heap.size < wb.heap.size := (Array.getElem?_eq_some_iff.1 hbx).1
  have HBX := Lib.hid hbx
  have f0 := Joins.cell_of_block hbx 0
  have f1 := Joins.cell_of_block hbx 1
  have f2 := Joins.cell_of_block hbx 2
  simp only [List.getElem?_toArray, List.getElem?_cons_zero, List.getElem?_cons_succ] at f0 f1 f2
  have HAC := Lib.hid (iacc_any L hl F S hs a b c d hc0 wb (h1.below HWB.out) (h2.below HWB.out))
  clear hbx
  cases hA : accB L F S
  · rw [hA] at HAC
    have HV := Lib.hid (finV_bad hA)
    clear hA h1 h2
    go_enter Try.func28, Try.ntmps28
    go_wp2_with fail
    rw [← hwb]
    clear hwb
    go_wp2_with fail
    refine HAC.out.mono ?_
    rintro e w1 ⟨rfl, hb⟩
    have HB1 : Hid (Below w.heap.size w w1) := Lib.hid (HWB.out.trans (hb.mono (by omega)))
    clear hb
    go_wp2_with fail
    go_ret2
    exact ⟨congrArg Ending.returned HV.out.symm, HB1.out⟩
  obtain ⟨hL, hF0, hF1, hS, _⟩ := accB_true hA
  have hv := finV_good hA
  rw [hA] at HAC
  obtain ⟨F, rfl⟩ := Int.eq_ofNat_of_zero_le hF0
  have hfst := hL.fst
  simp only [Int.toNat_natCast] at hv
  obtain ⟨p, hp⟩ : ∃ p, p = (fst0 L).toNat := ⟨_, rfl⟩
  rw [← hp] at hL hfst hv
  rw [hfst] at hS
  have hFp : F < p := by omega
  have hp1 := hL.p1
  have hp5 := hL.p5
  have hm6 := hL.l6
  have hpos : 0 < L.length := hL.l1
  have HV := Lib.hid hv
  clear hv
  obtain ⟨g, off, rfl, hlt, hat⟩ := h1.at0 hpos
  have h0 : w.cell? ⟨g, off, none⟩ = some (.int .i64 (p : Int)) := by rw [← hfst]; exact hat.1
  have H0 := Lib.hid h0
  have HRD := Lib.hid fun wx (hb : Below w.heap.size w wx) => ird_any hL (F : Int) S (some ⟨g, off, none⟩) b c d wx (h1.below hb) (h2.below hb)
  have hic := fun gr gt cr bx w ht hh => icl_any hL hFp S hs hS gr gt cr bx (2 * p - 1) (by omega) w ht hh
  rw [show 2 * p - 1 + 1 = 2 * p by omega] at hic
  have hcast : ((2 * p - 1 : Nat) : Int) = 2 * (p : Int) - 1 := by omega
  rw [hcast] at hic
  have HIC := Lib.hid hic
  have HLN := Lib.hid (cnK_len (nxP L) L.length p F S (2 * p))
  have HAT := Lib.hid (cnK_at (nxP L) L.length p F S (2 * p))
  have HPO := Lib.hid fun k hk => cnt_pos (nx := nxP L) (F := F) hm6 hp5 hS k hk
  have HNO := Lib.hid fun k hk h => finB_no (nx := nxP L) (m := L.length) (p := p) (F := F) (S := S) (k := k) hk h
  have HYE := Lib.hid fun h => finB_yes (nx := nxP L) (m := L.length) (p := p) (F := F) (S := S) h
  generalize cnK (nxP L) L.length p F S (2 * p) = R at *
  clear hA h1 h2 hL hF0 hF1 hS hp hfst hat h0 hic hcast
  go_enter Try.func28, Try.ntmps28
  go_wp2_with fail
  rw [← hwb]
  clear hwb
  go_wp2_with fail
  refine HAC.out.mono ?_
  rintro e w1 ⟨rfl, hb⟩
  have hz := hb.size
  have HB1 : Hid (Below w.heap.size w w1) := Lib.hid (HWB.out.trans (hb.mono (by omega)))
  have hbx := (hb.block _ (by omega)).trans HBX.out
  have f0 := Joins.cell_of_block hbx 0
  have f1 := Joins.cell_of_block hbx 1
  have f2 := Joins.cell_of_block hbx 2
  simp only [List.getElem?_toArray, List.getElem?_cons_zero, List.getElem?_cons_succ] at f0 f1 f2
  have e0 := (HB1.out.cell (p := ⟨g, off, none⟩) hlt).trans H0.out
  have hsz : w.heap.size < w1.heap.size := by omega
  clear hb hbx HAC
  go_wp2_with fail
  refine (HRD.out _ HB1.out).mono ?_
  rintro e w2 ⟨gr, gt, cr, bx, rfl, ht, hh, hb⟩
  have HB2 : Hid (Below w.heap.size w w2) := Lib.hid (HB1.out.trans (hb.mono (by omega)))
  have hz2 := HB2.out.size
  have HI := Lib.hid (HIC.out gr gt cr bx w2 ht hh)
  clear hb ht hh HIC e0 f0 f1 f2
  go_wp2_with fail
  refine HI.out.mono ?_
  rintro e w3 ⟨v, rfl, hown, hb⟩
  have hlr := HLN.out
  obtain ⟨c3, hcap, a3, rfl, hrd⟩ : ∃ c3, R.length ≤ c3 ∧ ∃ a3, v = .slice a3 R.length c3 ∧ Rd w3 w2.heap.size a3 R := by
    obtain ⟨a3, c3, hv, hrd⟩ := own_rd hown (by omega)
    refine ⟨c3, ?_, a3, hv, hrd⟩
    rcases hown.2 with ⟨_, h0⟩ | ⟨g', cap', cur, h1, _, _, hnc, _⟩
    · omega
    · rw [hv] at h1
      injection h1 with _ _ h1
      omega
  have HB3 : Hid (Below w.heap.size w w3) := Lib.hid (HB2.out.trans (hb.mono (by omega)))
  obtain ⟨g3, rfl, _, hg3, hc3⟩ := hrd.2.resolve_left (fun e => by rw [e] at hlr; simp at hlr; omega)
  have hdl : (R.drop p).length = p := by rw [List.length_drop]; omega
  have hdg : ∀ j, j < p → (R.drop p).getD j 0 = smS (wyK (nxP L) L.length p F (p + j)) S S.length := fun j hj => by
    rw [← HAT.out (p + j) (by omega)]
    simp [List.getD_eq_getElem?_getD, List.getElem?_drop]
  have hmx := max_any (R.drop p) (by omega) (by omega) (some ⟨g3, p, none⟩) (c3 - p) w3 (Or.inr ⟨g3, p, rfl, hg3, fun i hi => by
    rw [(hc3 (p + i) (by omega)).1]
    simp [List.getD_eq_getElem?_getD, List.getElem?_drop]⟩)
  rw [hdl] at hmx
  have HMX := Lib.hid hmx
  have HDG := Lib.hid hdg
  have hpl : (p : Int) ≤ (R.length : Int) := by omega
  have hpc : (R.length : Int) ≤ (c3 : Int) := by omega
  have hsub : R.length - p = p := by omega
  clear hrd hown hb hc3 hmx hdg hlr hdl
  go_wp2_with fail
  refine HMX.out.mono ?_
  rintro e w4 ⟨X, rfl, hub, ⟨j0, hj0, hj1⟩, rfl⟩
  rw [HDG.out j0 hj0] at hj1
  by_cases hX : X = 0
  · have HN : Hid (finV L F S = .tuple #[.bool true, .int .i64 0]) := Lib.hid (by
      rw [HV.out, HYE.out (fun k hk => by
        have := hub k hk
        rw [HDG.out k hk] at this
        omega)])
    clear hub hj1
    subst hX
    go_wp2_with fail
    go_ret2
    exact ⟨congrArg Ending.returned HN.out.symm, HB3.out⟩
  · have HN : Hid (finV L F S = .tuple #[.bool false, .int .i64 0]) := Lib.hid (by
      rw [HV.out, HNO.out j0 hj0 (by
        have := HPO.out (p + j0) (by omega)
        omega)])
    have hq : (X == 0) = false := by simpa using hX
    clear hub hj1
    go_wp2_with fail
    go_ret2
    exact ⟨congrArg Ending.returned HN.out.symm, HB3.out⟩

end Go.Proofs.Ytgiefgbpcjoieaa
