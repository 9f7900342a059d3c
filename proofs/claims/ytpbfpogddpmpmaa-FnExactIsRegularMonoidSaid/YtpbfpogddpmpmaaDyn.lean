/- slices.IndexFunc, slices.ContainsFunc and (*monoid).elementsThat at any function value whose answer is known at each map of the list. -/
import Derived.Test.YtpbfpogddpmpmaaIdl
namespace Go.Proofs.Ytpbfpogddpmpmaa
open Go Go.RowKit

theorem any_none {K : List Nat} {Q : Nat → Bool} (h : ∀ j, j < K.length → Q (K.getD j 0) = false) : K.any Q = false := by
  rw [List.any_eq_false]
  intro x hx
  obtain ⟨k, hk, rfl⟩ := List.getElem_of_mem hx
  have := h k hk
  rw [List.getD_eq_getElem?_getD, List.getElem?_eq_getElem hk] at this
  simpa using this

theorem any_one {K : List Nat} {Q : Nat → Bool} (k : Nat) (hk : k < K.length) (h : Q (K.getD k 0) = true) : K.any Q = true := by
  rw [List.any_eq_true]
  exact ⟨_, getD_mem hk, h⟩

/-- What slices.IndexFunc answers. -/
def IdxAt (Q : Nat → Bool) (K : List Nat) (i : Int) : Prop := (i = -1 ∧ ∀ j, j < K.length → Q (K.getD j 0) = false) ∨ (∃ k, k < K.length ∧ i = (k : Int) ∧ Q (K.getD k 0) = true ∧ ∀ j, j < k → Q (K.getD j 0) = false)

theorem IdxAt.any {Q : Nat → Bool} {K : List Nat} {i : Int} (h : IdxAt Q K i) : decide (0 ≤ i) = K.any Q := by
  rcases h with ⟨rfl, h⟩ | ⟨k, hk, rfl, h, _⟩
  · rw [any_none h]; rfl
  · rw [any_one k hk h]; simp

/-- A function value tells Q at each map of the list. -/
def TellsB (w : World) (p : Int) (K : List Nat) (Q : Nat → Bool) (gf : Nat) (bd lb : Array Value) : Prop :=
  ∀ x ∈ K, ∀ z, Below w.heap.size w z → Calls Try.prog gf (bd.push (mv p (dcd x)) ++ lb) z fun e w' => e = .returned (.bool (Q x)) ∧ Below z.heap.size z w'

set_option maxRecDepth 100000 in
theorem idxG_any {p : Int} {K : List Nat} (hn : K.length ≤ 300) {Q : Nat → Bool} {gf : Nat} {bd lb : Array Value} (hgf : ∀ args w, (callFunc gf args).run Try.prog w = .ok (.enter gf args) w)
    (a : Option Addr) (cap : Nat) (w : World) (hr : InRowM w a (mE p K)) (hq : TellsB w p K Q gf bd lb) :
    Calls Try.prog 83 #[.slice a K.length cap, .func (.func gf) bd lb] w
      fun e w' => ∃ i : Int, e = .returned (.int .i64 i) ∧ Below w.heap.size w w' ∧ IdxAt Q K i := by
  have HR := Lib.hid hr
  have HQ := Lib.hid hq
  clear hr hq
  go_enter Try.func83, Try.ntmps83
  go_wp2_with fail
  go_loopw [5, 8] (fun _ i wr => ∃ k : Nat, k ≤ K.length ∧ i = .int .i64 k ∧ Below w.heap.size w wr ∧ ∀ j, j < k → Q (K.getD j 0) = false) (fun _ i _ => K.length - (intOf i).toNat)
  case atStart => exact ⟨0, by omega, rfl, Below.refl _ _, fun j hj => by omega⟩
  case round =>
    obtain ⟨k, hk, rfl, hb, hal⟩ := hrel
    have HBR := Lib.hid hb
    have HAL := Lib.hid hal
    have hsr := hb.size
    clear hb hal
    by_cases hkl : k < K.length
    · have hkl' : (k : Int) < (K.length : Int) := by omega
      obtain ⟨b1, o1, rfl, hl1, hat1⟩ := (HR.out.below HBR.out).at6 k (by rw [mE_len]; exact hkl)
      rw [mE_at _ _ _ hkl] at hat1
      obtain ⟨x0, x1, x2, x3, x4, x5⟩ := hat1
      simp only [] at x0 x1 x2 x3 x4 x5
      have HQ1 := Lib.hid (HQ.out _ (getD_mem hkl) wr HBR.out)
      have HIT := Lib.hid fun (e : Q (K.getD k 0) = true) => (Or.inr ⟨k, hkl, rfl, e, HAL.out⟩ : IdxAt Q K (k : Int))
      obtain ⟨B, hB⟩ : ∃ B, B = Q (K.getD k 0) := ⟨_, rfl⟩
      rw [← hB] at HQ1
      have HB := Lib.hid hB
      clear hB
      have HST := Lib.hid fun (e : Q (K.getD k 0) = false) (j : Nat) (hj : j < k + 1) => (show Q (K.getD j 0) = false by
        by_cases h : j = k
        · rw [h]; exact e
        · exact HAL.out j (by omega))
      generalize K.getD k 0 = x at *
      go_wp2_with fail
      refine HQ1.out.mono ?_
      rintro e w2 ⟨rfl, hb2⟩
      have HB2 := Lib.hid hb2
      clear hb2
      cases B with
      | true =>
        go_wp2_with fail
        go_ret
        exact ⟨_, rfl, HBR.out.trans (HB2.out.mono hsr), HIT.out HB.out.symm⟩
      | false =>
        go_wp2_with fail
        go_roundw
        case rel => exact ⟨k + 1, by omega, by go_num, HBR.out.trans (HB2.out.mono hsr), HST.out HB.out.symm⟩
        case measure => simp [intOf]; omega
    · obtain rfl : k = K.length := by omega
      go_wp2_with fail
      go_ret
      exact ⟨_, rfl, HBR.out, Or.inl ⟨rfl, HAL.out⟩⟩

set_option maxRecDepth 100000 in
theorem hasG_any {p : Int} {K : List Nat} (hn : K.length ≤ 300) {Q : Nat → Bool} {gf : Nat} {bd lb : Array Value} (hgf : ∀ args w, (callFunc gf args).run Try.prog w = .ok (.enter gf args) w)
    (a : Option Addr) (cap : Nat) (w : World) (hr : InRowM w a (mE p K)) (hq : TellsB w p K Q gf bd lb) :
    Calls Try.prog 56 #[.slice a K.length cap, .func (.func gf) bd lb] w
      fun e w' => e = .returned (.bool (K.any Q)) ∧ Below w.heap.size w w' := by
  have HQ := Lib.hid (idxG_any hn hgf a cap w hr hq)
  clear hr hq hgf
  go_enter Try.func56, Try.ntmps56
  go_wp2_with fail
  refine HQ.out.mono ?_
  rintro e w2 ⟨i, rfl, hb2, hi⟩
  have HB2 := Lib.hid hb2
  have HI := Lib.hid hi.any
  clear hb2 hi
  go_wp2_with fail
  go_ret
  exact ⟨ret_b (by rw [← HI.out]), HB2.out⟩

set_option maxRecDepth 100000 in
set_option maxHeartbeats 1000000 in
theorem thatG_any {p : Int} {K : List Nat} (hn : K.length ≤ 300) {Q : Nat → Bool} {gf : Nat} {bd lb : Array Value} (hgf : ∀ args w, (callFunc gf args).run Try.prog w = .ok (.enter gf args) w)
    (b cE : Nat) (aE : Option Addr) (mo : Option Nat) (w : World) (hm : w.heap[b]? = some (.cells #[.slice aE K.length cE, .map mo] 48 (0, 0))) (hr : InRowM w aE (mE p K)) (hq : TellsB w p K Q gf bd lb) :
    Calls Try.prog 52 #[.pointer (some ⟨b, 0, none⟩), .func (.func gf) bd lb] w
      fun e w' => ∃ a cap, e = .returned (.slice a (K.filter Q).length cap) ∧ RdM w' w.heap.size a (mE p (K.filter Q)) ∧ Below w.heap.size w w' := by
  have HR := Lib.hid hr
  have HQ := Lib.hid hq
  have m0 := Joins.cell_of_block hm 0
  simp only [List.getElem?_toArray, List.getElem?_cons_zero] at m0
  clear hr hq hm
  go_enter Try.func52, Try.ntmps52
  go_wp2_with fail
  go_loopw [5, 7, 13] (fun v _ i wr => ∃ k : Nat, k ≤ K.length ∧ i = .int .i64 k ∧ Below w.heap.size w wr ∧ OwnM wr w.heap.size v (mE p ((K.take k).filter Q))) (fun _ _ i _ => K.length - (intOf i).toNat)
  case atStart => exact ⟨0, by omega, rfl, Below.refl _ _, (⟨by simp [mcels_nil, mE], Or.inl ⟨rfl, by simp [mE]⟩⟩)⟩
  case round =>
    obtain ⟨k, hk, rfl, hb, hown⟩ := hrel
    have HBR := Lib.hid hb
    have HOW := Lib.hid hown
    have hsr := hb.size
    clear hb hown m0
    by_cases hkl : k < K.length
    · have hkl' : (k : Int) < (K.length : Int) := by omega
      obtain ⟨b1, o1, rfl, hl1, hat1⟩ := (HR.out.below HBR.out).at6 k (by rw [mE_len]; exact hkl)
      rw [mE_at _ _ _ hkl] at hat1
      have hfl := filt_le Q K k
      have HFS := Lib.hid (filt_succ Q K k hkl)
      have hq := HQ.out _ (getD_mem hkl) (wr.alloc (.cells (mcells p (dcd (K.getD k 0))) 31)) (HBR.out.alloc hsr _)
      obtain ⟨x0, x1, x2, x3, x4, x5⟩ := hat1
      simp only [] at x0 x1 x2 x3 x4 x5
      obtain ⟨B, hB⟩ : ∃ B, B = Q (K.getD k 0) := ⟨_, rfl⟩
      rw [← hB] at hq HFS
      clear hB
      generalize hM : ((K.take k).filter Q) = M at *
      generalize K.getD k 0 = x at *
      simp only [mv, mcells] at hq
      have HQ1 := Lib.hid hq
      clear hq
      go_wp2_with fail
      refine HQ1.out.mono ?_
      rintro e w3 ⟨rfl, hb3⟩
      have hbk := (hb3.block wr.heap.size (by simp)).trans (halloc_at _ _ _ rfl)
      have hba : Below wr.heap.size wr w3 := ((Below.refl _ _).alloc (Nat.le_refl _) _).trans (hb3.mono (by simp))
      have HB3 := Lib.hid hba
      have hs3 := hba.size
      have HO3 := Lib.hid (ownM_bel HOW.out hba)
      obtain ⟨y0, y1, y2, y3, y4, y5⟩ := blk6 hbk
      clear hb3 hbk hba x0 x1 x2 x3 x4 x5
      have HB4 : Hid (Below w.heap.size w (w3.alloc (.cells (mcells p (dcd x)) 31))) := Lib.hid ((HBR.out.trans (HB3.out.mono hsr)).alloc (by omega) _)
      cases B with
      | true =>
        go_wp2_with (at_builtin; refine wpList_appM rfl _ _ rfl w.heap.size _ (mE p M) rfl (ownM_bel HO3.out ((Below.refl _ _).alloc (Nat.le_refl _) _)) (some ⟨w3.heap.size, 0, none⟩) 1 [(p, dcd x)] (fun e => by cases e) rfl (Or.inr ⟨_, 0, rfl, by simp, at_one (halloc_at _ _ _ rfl)⟩) (by rw [mE_len]; simp; omega) (by simp; omega) ?_; intro v4 w4 hown4 hgrow4; have HO4 := Lib.hid hown4; have HB5 := Lib.hid (HB4.out.grown hgrow4 HB4.out.size (fun q e => (HO3.out.lt q e).1)); clear hown4 hgrow4)
        go_roundw
        case rel => exact ⟨k + 1, by omega, by go_num, HB5.out, by rw [HFS.out, if_pos trivial, mE_app]; exact HO4.out⟩
        case measure => simp [intOf]; omega
      | false =>
        go_wp2_with fail
        go_roundw
        case rel => exact ⟨k + 1, by omega, by go_num, HBR.out.trans (HB3.out.mono hsr), by rw [HFS.out, if_neg (by decide), List.append_nil]; exact HO3.out⟩
        case measure => simp [intOf]; omega
    · obtain rfl : k = K.length := by omega
      have hfl := filt_le Q K K.length
      rw [List.take_length] at HOW hfl
      obtain ⟨a2, cap2, rfl, hr2⟩ := ownM_rd HOW.out (by rw [mE_len]; omega)
      have HR2 := Lib.hid hr2
      clear hr2
      rw [mE_len]
      go_wp2_with fail
      go_ret
      exact ⟨a2, cap2, rfl, HR2.out, HBR.out⟩

end Go.Proofs.Ytpbfpogddpmpmaa
