/- slices.IndexFunc, slices.ContainsFunc and (*monoid).elementsThat at any function value whose answer is known at each map of the list. The contracts of (Map).comesBackBy, (Map).bringsBack and (*monoid).isRegular. -/
import Derived.Test.YtiogagaclhjdaaaIdl
import Derived.Deep.RegionHeld3
import Derived.Shelf.Abstract
namespace Go.Proofs.Ytiogagaclhjdaaa
open Go Go.RowKit

theorem any_none {K : List Nat} {Q : Nat → Bool} (h : ∀ j, j < K.length → Q (K.getD j 0) = false) : K.any Q = false := by
  rw [List.any_eq_false]
  intro x hx
  obtain ⟨k, hk, rfl⟩ := List.getElem_of_mem hx
  have := h k hk
  rw [List.getD_eq_getElem?_getD, List.getElem?_eq_getElem hk] at this
  simpa using this

theorem any_one {K : List Nat} {Q : Nat → Bool} (k : Nat) (hk : k < K.length) (h : Q (K.getD k 0) = true) : K.any Q = true := by
  rw [List.any_eq_true]
  exact ⟨_, getD_mem hk, h⟩

/-- What slices.IndexFunc answers. -/
def IdxAt (Q : Nat → Bool) (K : List Nat) (i : Int) : Prop := (i = -1 ∧ ∀ j, j < K.length → Q (K.getD j 0) = false) ∨ (∃ k, k < K.length ∧ i = (k : Int) ∧ Q (K.getD k 0) = true ∧ ∀ j, j < k → Q (K.getD j 0) = false)

theorem IdxAt.any {Q : Nat → Bool} {K : List Nat} {i : Int} (h : IdxAt Q K i) : decide (0 ≤ i) = K.any Q := by
  rcases h with ⟨rfl, h⟩ | ⟨k, hk, rfl, h, _⟩
  · rw [any_none h]; rfl
  · rw [any_one k hk h]; simp

/-- A function value tells Q at each map of the list. -/
def TellsB (w : World) (p : Int) (K : List Nat) (Q : Nat → Bool) (gf : Nat) (bd lb : Array Value) : Prop :=
  ∀ x ∈ K, ∀ z, Below w.heap.size w z → Calls Try.prog gf (bd.push (mv p (dcd x)) ++ lb) z fun e w' => e = .returned (.bool (Q x)) ∧ Below z.heap.size z w'

set_option maxRecDepth 100000 in
theorem idxG_any {p : Int} {K : List Nat} (hn : K.length ≤ 300) {Q : Nat → Bool} {gf : Nat} {bd lb : Array Value} (hgf : ∀ args w, (callFunc gf args).run Try.prog w = .ok (.enter gf args) w)
    (a : Option Addr) (cap : Nat) (w : World) (hr : InRowM w a (mE p K)) (hq : TellsB w p K Q gf bd lb) :
    Calls Try.prog 83 #[.slice a K.length cap, .func (.func gf) bd lb] w
      fun e w' => ∃ i : Int, e = .returned (.int .i64 i) ∧ Below w.heap.size w w' ∧ IdxAt Q K i := by
  have HR := Lib.hid hr
  have HQ := Lib.hid hq
  clear hr hq
  go_enter Try.func83, Try.ntmps83
  go_wp2_with fail
  go_loopw [5, 8] (fun _ i wr => ∃ k : Nat, k ≤ K.length ∧ i = .int .i64 k ∧ Below w.heap.size w wr ∧ ∀ j, j < k → Q (K.getD j 0) = false) (fun _ i _ => K.length - (intOf i).toNat)
  case atStart => exact ⟨0, by omega, rfl, Below.refl _ _, fun j hj => by omega⟩
  case round =>
    obtain ⟨k, hk, rfl, hb, hal⟩ := hrel
    have HBR := Lib.hid hb
    have HAL := Lib.hid hal
    have hsr := hb.size
    clear hb hal
    by_cases hkl : k < K.length
    · have hkl' : (k : Int) < (K.length : Int) := by omega
      obtain ⟨b1, o1, rfl, hl1, hat1⟩ := (HR.out.below HBR.out).at6 k (by rw [mE_len]; exact hkl)
      rw [mE_at _ _ _ hkl] at hat1
      obtain ⟨x0, x1, x2, x3, x4, x5⟩ := hat1
      simp only [] at x0 x1 x2 x3 x4 x5
      have HQ1 := Lib.hid (HQ.out _ (getD_mem hkl) wr HBR.out)
      have HIT := Lib.hid fun (e : Q (K.getD k 0) = true) => (Or.inr ⟨k, hkl, rfl, e, HAL.out⟩ : IdxAt Q K (k : Int))
      obtain ⟨B, hB⟩ : ∃ B, B = Q (K.getD k 0) := ⟨_, rfl⟩
      rw [← hB] at HQ1
      have HB := Lib.hid hB
      clear hB
      have HST := Lib.hid fun (e : Q (K.getD k 0) = false) (j : Nat) (hj : j < k + 1) => (show Q (K.getD j 0) = false by
        by_cases h : j = k
        · rw [h]; exact e
        · exact HAL.out j (by omega))
      generalize K.getD k 0 = x at *
      go_wp2_with fail
      refine HQ1.out.mono ?_
      rintro e w2 ⟨rfl, hb2⟩
      have HB2 := Lib.hid hb2
      clear hb2
      cases B with
      | true =>
        go_wp2_with fail
        go_ret
        exact ⟨_, rfl, HBR.out.trans (HB2.out.mono hsr), HIT.out HB.out.symm⟩
      | false =>
        go_wp2_with fail
        go_roundw
        case rel => exact ⟨k + 1, by omega, by go_num, HBR.out.trans (HB2.out.mono hsr), HST.out HB.out.symm⟩
        case measure => simp [intOf]; omega
    · obtain rfl : k = K.length := by omega
      go_wp2_with fail
      go_ret
      exact ⟨_, rfl, HBR.out, Or.inl ⟨rfl, HAL.out⟩⟩

set_option maxRecDepth 100000 in
theorem hasG_any {p : Int} {K : List Nat} (hn : K.length ≤ 300) {Q : Nat → Bool} {gf : Nat} {bd lb : Array Value} (hgf : ∀ args w, (callFunc gf args).run Try.prog w = .ok (.enter gf args) w)
    (a : Option Addr) (cap : Nat) (w : World) (hr : InRowM w a (mE p K)) (hq : TellsB w p K Q gf bd lb) :
    Calls Try.prog 56 #[.slice a K.length cap, .func (.func gf) bd lb] w
      fun e w' => e = .returned (.bool (K.any Q)) ∧ Below w.heap.size w w' := by
  have HQ := Lib.hid (idxG_any hn hgf a cap w hr hq)
  clear hr hq hgf
  go_enter Try.func56, Try.ntmps56
  go_wp2_with fail
  refine HQ.out.mono ?_
  rintro e w2 ⟨i, rfl, hb2, hi⟩
  have HB2 := Lib.hid hb2
  have HI := Lib.hid hi.any
  clear hb2 hi
  go_wp2_with fail
  go_ret
  exact ⟨ret_b (by rw [← HI.out]), HB2.out⟩

set_option maxRecDepth 100000 in
set_option maxHeartbeats 1000000 in
theorem thatG_any {p : Int} {K : List Nat} (hn : K.length ≤ 300) {Q : Nat → Bool} {gf : Nat} {bd lb : Array Value} (hgf : ∀ args w, (callFunc gf args).run Try.prog w = .ok (.enter gf args) w)
    (b cE : Nat) (aE : Option Addr) (mo : Option Nat) (w : World) (hm : w.heap[b]? = some (.cells #[.slice aE K.length cE, .map mo] 48 (0, 0))) (hr : InRowM w aE (mE p K)) (hq : TellsB w p K Q gf bd lb) :
    Calls Try.prog 52 #[.pointer (some ⟨b, 0, none⟩), .func (.func gf) bd lb] w
      fun e w' => ∃ a cap, e = .returned (.slice a (K.filter Q).length cap) ∧ RdM w' w.heap.size a (mE p (K.filter Q)) ∧ Below w.heap.size w w' := by
  have HR := Lib.hid hr
  have HQ := Lib.hid hq
  have m0 := Joins.cell_of_block hm 0
  simp only [List.getElem?_toArray, List.getElem?_cons_zero] at m0
  clear hr hq hm
  go_enter Try.func52, Try.ntmps52
  go_wp2_with fail
  go_loopw [5, 7, 13] (fun v _ i wr => ∃ k : Nat, k ≤ K.length ∧ i = .int .i64 k ∧ Below w.heap.size w wr ∧ OwnM wr w.heap.size v (mE p ((K.take k).filter Q))) (fun _ _ i _ => K.length - (intOf i).toNat)
  case atStart => exact ⟨0, by omega, rfl, Below.refl _ _, (⟨by simp [mcels_nil, mE], Or.inl ⟨rfl, by simp [mE]⟩⟩)⟩
  case round =>
    obtain ⟨k, hk, rfl, hb, hown⟩ := hrel
    have HBR := Lib.hid hb
    have HOW := Lib.hid hown
    have hsr := hb.size
    clear hb hown m0
    by_cases hkl : k < K.length
    · have hkl' : (k : Int) < (K.length : Int) := by omega
      obtain ⟨b1, o1, rfl, hl1, hat1⟩ := (HR.out.below HBR.out).at6 k (by rw [mE_len]; exact hkl)
      rw [mE_at _ _ _ hkl] at hat1
      have hfl := filt_le Q K k
      have HFS := Lib.hid (filt_succ Q K k hkl)
      have hq := HQ.out _ (getD_mem hkl) (wr.alloc (.cells (mcells p (dcd (K.getD k 0))) 31)) (HBR.out.alloc hsr _)
      obtain ⟨x0, x1, x2, x3, x4, x5⟩ := hat1
      simp only [] at x0 x1 x2 x3 x4 x5
      obtain ⟨B, hB⟩ : ∃ B, B = Q (K.getD k 0) := ⟨_, rfl⟩
      rw [← hB] at hq HFS
      clear hB
      generalize hM : ((K.take k).filter Q) = M at *
      generalize K.getD k 0 = x at *
      simp only [mv, mcells] at hq
      have HQ1 := Lib.hid hq
      clear hq
      go_wp2_with fail
      refine HQ1.out.mono ?_
      rintro e w3 ⟨rfl, hb3⟩
      have hbk := (hb3.block wr.heap.size (by simp)).trans (halloc_at _ _ _ rfl)
      have hba : Below wr.heap.size wr w3 := ((Below.refl _ _).alloc (Nat.le_refl _) _).trans (hb3.mono (by simp))
      have HB3 := Lib.hid hba
      have hs3 := hba.size
      have HO3 := Lib.hid (ownM_bel HOW.out hba)
      obtain ⟨y0, y1, y2, y3, y4, y5⟩ := blk6 hbk
      clear hb3 hbk hba x0 x1 x2 x3 x4 x5
      have HB4 : Hid (Below w.heap.size w (w3.alloc (.cells (mcells p (dcd x)) 31))) := Lib.hid ((HBR.out.trans (HB3.out.mono hsr)).alloc (by omega) _)
      cases B with
      | true =>
        go_wp2_with (at_builtin; refine wpList_appM rfl _ _ rfl w.heap.size _ (mE p M) rfl (ownM_bel HO3.out ((Below.refl _ _).alloc (Nat.le_refl _) _)) (some ⟨w3.heap.size, 0, none⟩) 1 [(p, dcd x)] (fun e => by cases e) rfl (Or.inr ⟨_, 0, rfl, by simp, at_one (halloc_at _ _ _ rfl)⟩) (by rw [mE_len]; simp; omega) (by simp; omega) ?_; intro v4 w4 hown4 hgrow4; have HO4 := Lib.hid hown4; have HB5 := Lib.hid (HB4.out.grown hgrow4 HB4.out.size (fun q e => (HO3.out.lt q e).1)); clear hown4 hgrow4)
        go_roundw
        case rel => exact ⟨k + 1, by omega, by go_num, HB5.out, by rw [HFS.out, if_pos trivial, mE_app]; exact HO4.out⟩
        case measure => simp [intOf]; omega
      | false =>
        go_wp2_with fail
        go_roundw
        case rel => exact ⟨k + 1, by omega, by go_num, HBR.out.trans (HB3.out.mono hsr), by rw [HFS.out, if_neg (by decide), List.append_nil]; exact HO3.out⟩
        case measure => simp [intOf]; omega
    · obtain rfl : k = K.length := by omega
      have hfl := filt_le Q K K.length
      rw [List.take_length] at HOW hfl
      obtain ⟨a2, cap2, rfl, hr2⟩ := ownM_rd HOW.out (by rw [mE_len]; omega)
      have HR2 := Lib.hid hr2
      clear hr2
      rw [mE_len]
      go_wp2_with fail
      go_ret
      exact ⟨a2, cap2, rfl, HR2.out, HBR.out⟩

end Go.Proofs.Ytiogagaclhjdaaa

namespace Go.Proofs.Ytiogagaclhjdaaa
open Go Go.RowKit Go.Shelf

theorem prodN_any {p : Int} {a b : Nat} (ha : vld p a) (hb : vld p b) (w : World) :
    Calls Try.prog 68 #[mv p (dcd a), mv p (dcd b)] w fun e w' => e = .returned (mv p (dcd (mulC p a b))) ∧ Below w.heap.size w w' := by
  have h := product_any p (dcd a) (dcd b) ha.2 hb.2 w
  rw [mv_ecd (mul_ok ha.2 hb.2)] at h
  exact h

theorem eqN_num {p : Int} {a b : Nat} (ha : vld p a) (hb : vld p b) (w : World) :
    (binOp .eql 31 (.agg #[.int .i64 p, .int .i64 (dcd a 0), .int .i64 (dcd a 1), .int .i64 (dcd a 2), .int .i64 (dcd a 3), .int .i64 (dcd a 4)]) (.agg #[.int .i64 p, .int .i64 (dcd b 0), .int .i64 (dcd b 1), .int .i64 (dcd b 2), .int .i64 (dcd b 3), .int .i64 (dcd b 4)])).run Try.prog w = .ok (.bool (decide (a = b))) w := by
  have h := runEqM p (dcd a) p (dcd b) w
  rw [dcd_cells ha hb] at h
  exact h

theorem belN_cells {wg : World} {b T B : Nat} {p : Int} {t : Nat → Int} (hbB : b < B) (h : wg.heap[b]? = some (.cells (mcells p t) T (0, 0))) :
    (∀ z, Below B wg z → z.cell? ⟨b, 0, none⟩ = some (.int .i64 p)) ∧ (∀ z, Below B wg z → z.cell? ⟨b, 1, none⟩ = some (.int .i64 (t 0))) ∧ (∀ z, Below B wg z → z.cell? ⟨b, 2, none⟩ = some (.int .i64 (t 1))) ∧
    (∀ z, Below B wg z → z.cell? ⟨b, 3, none⟩ = some (.int .i64 (t 2))) ∧ (∀ z, Below B wg z → z.cell? ⟨b, 4, none⟩ = some (.int .i64 (t 3))) ∧ (∀ z, Below B wg z → z.cell? ⟨b, 5, none⟩ = some (.int .i64 (t 4))) := by
  have r : ∀ i z, Below B wg z → z.cell? ⟨b, i, none⟩ = (mcells p t)[i]? := fun i z hz => Joins.cell_of_block ((hz.block _ hbB).trans h) i
  exact ⟨r 0, r 1, r 2, r 3, r 4, r 5⟩

set_option maxRecDepth 100000 in
theorem iback_any {p : Int} {c g : Nat} (hc : vld p c) (hg : vld p g) (w : World) :
    Calls Try.prog 75 #[mv p (dcd c), mv p (dcd g)] w fun e w' => e = .returned (.bool (bckC p c g)) ∧ Below w.heap.size w w' := by
  have hq1 := fun w => prodN_any hc hg w
  have hq2 := fun w => prodN_any (mulC_vld hc hg) hc w
  have he := eqN_num (mulC_vld (mulC_vld hc hg) hc) hc
  unfold bckC
  generalize mulC p (mulC p c g) c = q1 at *
  generalize mulC p c g = fg at *
  generalize decide (q1 = c) = B at *
  simp only [mv, mcells] at hq1 hq2 ⊢
  have HQ1 := Lib.hid hq1
  have HQ2 := Lib.hid hq2
  obtain ⟨wg, hwg⟩ : ∃ wg, wg = (w.alloc (.cells (mcells p (dcd c)) 31)).alloc (.cells (mcells p (dcd g)) 31) := ⟨_, rfl⟩
  have hgs : wg.heap.size = w.heap.size + 1 + 1 := by rw [hwg]; simp
  have hgf : wg.heap[w.heap.size]? = some (.cells (mcells p (dcd c)) 31 (0, 0)) := by rw [hwg]; exact (halloc_lt _ _ _ (by simp)).trans (halloc_at _ _ _ rfl)
  have hgg : wg.heap[w.heap.size + 1]? = some (.cells (mcells p (dcd g)) 31 (0, 0)) := by rw [hwg]; exact halloc_at _ _ _ (by simp)
  have HBG : Hid (Below w.heap.size w wg) := Lib.hid (by rw [hwg]; exact ((Below.refl _ _).alloc (Nat.le_refl _) _).alloc (by simp) _)
  obtain ⟨r0, r1, r2, r3, r4, r5⟩ := belN_cells (B := w.heap.size + 1 + 1) (by omega) hgf
  obtain ⟨s0, s1, s2, s3, s4, s5⟩ := belN_cells (B := w.heap.size + 1 + 1) (by omega) hgg
  clear hq1 hq2 hgf hgg hc hg
  go_enter Try.func75, Try.ntmps75
  go_wp2_with fail
  simp only [mcells] at hwg
  try rw [← hwg]
  clear hwg
  go_region_held3 (fun w' => Below (w.heap.size + 1 + 1) wg w') (first | (with_reducible assumption) | ((repeat' (first | (with_reducible exact Below.refl _ _) | (with_reducible refine Below.alloc ?_ ?_ _) | (with_reducible refine Below.setCell ?_ ?_ _) | (with_reducible refine Below.drew ?_) | (with_reducible refine below_drewN ?_ _) | (with_reducible refine Below.trans ?_ (Below.mono (Hid.out (by assumption)) ?_)) | omega | (simp; done) | (simp; omega))); done)) (first | (go_at_call 68; (with_reducible refine (HQ1.out _).mono ?_); rintro e w1 ⟨rfl, hb⟩; skip; obtain ⟨hc, hf⟩ := bcell hb; have hz := hb.size; have Hb := Lib.hid hb; (try simp at hz hc hf); (try (have hy := Nat.lt_of_succ_le hz)); have hz0 : wg.heap.size ≤ w1.heap.size := (by omega); (try (have hz1 : wg.heap.size < w1.heap.size := (by omega))); clear hb) | (go_at_call 68; (with_reducible refine (HQ2.out _).mono ?_); rintro e w1 ⟨rfl, hb⟩; skip; obtain ⟨hc, hf⟩ := bcell hb; have hz := hb.size; have Hb := Lib.hid hb; (try simp at hz hc hf); (try (have hy := Nat.lt_of_succ_le hz)); have hz0 : wg.heap.size ≤ w1.heap.size := (by omega); (try (have hz1 : wg.heap.size < w1.heap.size := (by omega))); clear hb))
  all_goals go_wp2_with fail
  all_goals go_ret
  all_goals
    refine ⟨rfl, ?_⟩
    (repeat' (first | (with_reducible exact Below.refl _ _) | (with_reducible refine Below.alloc ?_ ?_ _) | (with_reducible refine Below.setCell ?_ ?_ _) | (with_reducible refine Below.drew ?_) | (with_reducible refine below_drewN ?_ _) | (with_reducible refine Below.trans ?_ (Below.mono (Hid.out (by assumption)) ?_)) | omega | (simp; done) | (simp; omega)))

theorem ibring_any {p : Int} {c g : Nat} (hc : vld p c) (hg : vld p g) (w : World) :
    Calls Try.prog 104 #[mv p (dcd c), mv p (dcd g)] w fun e w' => e = .returned (.bool (bckC p g c)) ∧ Below w.heap.size w w' := by
  have HQ := Lib.hid fun w => iback_any hg hc w
  simp only [mv, mcells] at HQ ⊢
  go_enter Try.func104, Try.ntmps104
  go_wp2_with fail
  refine (HQ.out _).mono ?_
  rintro e w2 ⟨rfl, hb2⟩
  have HB2 := Lib.hid hb2
  clear hb2
  go_wp2_with fail
  go_ret
  exact ⟨rfl, (((Below.refl _ _).alloc (Nat.le_refl _) _).alloc (by simp) _).trans (HB2.out.mono (by simp; omega))⟩

set_option maxRecDepth 100000 in
theorem ireg_any {p : Int} {K : List Nat} (hn : K.length ≤ 300) {Q : Nat → Bool} (q : Int) (s : Nat → Int) (b cE : Nat) (aE : Option Addr) (mo : Option Nat) (w : World) (hm : w.heap[b]? = some (.cells #[.slice aE K.length cE, .map mo] 48 (0, 0))) (hr : InRowM w aE (mE p K))
    (hq : TellsB w p K Q 75 #[mv q s] #[]) :
    Calls Try.prog 49 #[.pointer (some ⟨b, 0, none⟩), mv q s] w fun e w' => e = .returned (.bool (K.any Q)) ∧ Below w.heap.size w w' := by
  have eg : ∀ args w, (callFunc 75 args).run Try.prog w = .ok (.enter 75 args) w := enters_of Try.func75 (by kernel_rfl) rfl
  obtain ⟨wg, hwg⟩ : ∃ wg, wg = w.alloc (.cells (mcells q s) 31) := ⟨_, rfl⟩
  have hgs : wg.heap.size = w.heap.size + 1 := by rw [hwg]; simp
  have hgf : wg.heap[w.heap.size]? = some (.cells (mcells q s) 31 (0, 0)) := by rw [hwg]; exact halloc_at _ _ _ rfl
  have hgb : Below w.heap.size w wg := by rw [hwg]; exact (Below.refl _ _).alloc (Nat.le_refl _) _
  have HBG := Lib.hid hgb
  have hh := fun (z : World) (hz : Below (w.heap.size + 1) wg z) => hasG_any hn eg aE cE z (hr.below (hgb.trans (hz.mono (Nat.le_succ _)))) (fun x hx y hy => hq x hx y ((hgb.trans (hz.mono (Nat.le_succ _))).trans (hy.mono (by have := hz.size; omega))))
  obtain ⟨r0, r1, r2, r3, r4, r5⟩ := belN_cells (B := w.heap.size + 1) (by omega) hgf
  have hbl : b < w.heap.size := (Array.getElem?_eq_some_iff.1 hm).1
  have m0 : ∀ z, Below (w.heap.size + 1) wg z → z.cell? ⟨b, 0, none⟩ = some (.slice aE K.length cE) := fun z hz => by
    have := Joins.cell_of_block ((hz.block b (by omega)).trans (bel_at hgb hm)) 0
    simpa using this
  simp only [mv, mcells] at hh ⊢
  have HH := Lib.hid hh
  clear hm hr hq hh eg hgb hgf
  go_enter Try.func49, Try.ntmps49
  go_wp2_with fail
  simp only [mcells] at hwg
  try rw [← hwg]
  clear hwg
  go_region_held3 (fun w' => Below (w.heap.size + 1) wg w') (first | (with_reducible assumption) | ((repeat' (first | (with_reducible exact Below.refl _ _) | (with_reducible refine Below.alloc ?_ ?_ _) | (with_reducible refine Below.setCell ?_ ?_ _) | (with_reducible refine Below.drew ?_) | (with_reducible refine below_drewN ?_ _) | (with_reducible refine Below.trans ?_ (Below.mono (Hid.out (by assumption)) ?_)) | omega | (simp; done) | (simp; omega))); done)) (first | (go_at_call 56; (with_reducible refine (HH.out _ (by assumption)).mono ?_); rintro e w1 ⟨rfl, hb⟩; skip; obtain ⟨hc, hf⟩ := bcell hb; have hz := hb.size; have Hb := Lib.hid hb; (try simp at hz hc hf); (try (have hy := Nat.lt_of_succ_le hz)); have hz0 : wg.heap.size ≤ w1.heap.size := (by omega); (try (have hz1 : wg.heap.size < w1.heap.size := (by omega))); clear hb))
  all_goals go_wp2_with fail
  all_goals go_ret
  all_goals
    refine ⟨rfl, ?_⟩
    (repeat' (first | (with_reducible exact Below.refl _ _) | (with_reducible refine Below.alloc ?_ ?_ _) | (with_reducible refine Below.setCell ?_ ?_ _) | (with_reducible refine Below.drew ?_) | (with_reducible refine below_drewN ?_ _) | (with_reducible refine Below.trans ?_ (Below.mono (Hid.out (by assumption)) ?_)) | omega | (simp; done) | (simp; omega)))

end Go.Proofs.Ytiogagaclhjdaaa
