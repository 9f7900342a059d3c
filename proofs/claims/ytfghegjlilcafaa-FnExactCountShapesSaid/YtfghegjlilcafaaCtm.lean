/- slices.Index and slices.Contains at maps, with as many maps as an orbit has. -/
import Derived.Test.YtfghegjlilcafaaNum
import Derived.Test.YtfghegjlilcafaaIdem0
import Derived.Lib.SliceRun
import Derived.Deep.DeepCutAuto
import Derived.Deep.RegionHeld3
namespace Go.Proofs.Ytfghegjlilcafaa
open Go Go.RowKit

theorem bel_atC {w z : World} {b : Nat} {o : Obj} (h : Below w.heap.size w z) (hb : w.heap[b]? = some o) : z.heap[b]? = some o := (h.block _ (Array.getElem?_eq_some_iff.1 hb).1).trans hb

theorem any_noneC {K : List Nat} {Q : Nat → Bool} (h : ∀ j, j < K.length → Q (K.getD j 0) = false) : K.any Q = false := by
  rw [List.any_eq_false]
  intro x hx
  obtain ⟨k, hk, rfl⟩ := List.getElem_of_mem hx
  have := h k hk
  rw [List.getD_eq_getElem?_getD, List.getElem?_eq_getElem hk] at this
  simpa using this

theorem any_oneC {K : List Nat} {Q : Nat → Bool} (k : Nat) (hk : k < K.length) (h : Q (K.getD k 0) = true) : K.any Q = true := by
  rw [List.any_eq_true]
  exact ⟨_, getD_mem hk, h⟩

/-- What slices.IndexFunc answers. -/
def IdxAtC (Q : Nat → Bool) (K : List Nat) (i : Int) : Prop := (i = -1 ∧ ∀ j, j < K.length → Q (K.getD j 0) = false) ∨ (∃ k, k < K.length ∧ i = (k : Int) ∧ Q (K.getD k 0) = true ∧ ∀ j, j < k → Q (K.getD j 0) = false)

theorem IdxAtC.any {Q : Nat → Bool} {K : List Nat} {i : Int} (h : IdxAtC Q K i) : decide (0 ≤ i) = K.any Q := by
  rcases h with ⟨rfl, h⟩ | ⟨k, hk, rfl, h, _⟩
  · rw [any_noneC h]; rfl
  · rw [any_oneC k hk h]; simp

theorem eqN_numC {p : Int} {a b : Nat} (ha : vld p a) (hb : vld p b) (w : World) :
    (binOp .eql 28 (.agg #[.int .i64 p, .int .i64 (dcd a 0), .int .i64 (dcd a 1), .int .i64 (dcd a 2), .int .i64 (dcd a 3), .int .i64 (dcd a 4)]) (.agg #[.int .i64 p, .int .i64 (dcd b 0), .int .i64 (dcd b 1), .int .i64 (dcd b 2), .int .i64 (dcd b 3), .int .i64 (dcd b 4)])).run Try.prog w = .ok (.bool (decide (a = b))) w := by
  have h := runEqM p (dcd a) p (dcd b) w
  rw [dcd_cells ha hb] at h
  exact h

theorem belN_cellsC {wg : World} {b T B : Nat} {p : Int} {t : Nat → Int} (hbB : b < B) (h : wg.heap[b]? = some (.cells (mcells p t) T (0, 0))) :
    (∀ z, Below B wg z → z.cell? ⟨b, 0, none⟩ = some (.int .i64 p)) ∧ (∀ z, Below B wg z → z.cell? ⟨b, 1, none⟩ = some (.int .i64 (t 0))) ∧ (∀ z, Below B wg z → z.cell? ⟨b, 2, none⟩ = some (.int .i64 (t 1))) ∧
    (∀ z, Below B wg z → z.cell? ⟨b, 3, none⟩ = some (.int .i64 (t 2))) ∧ (∀ z, Below B wg z → z.cell? ⟨b, 4, none⟩ = some (.int .i64 (t 3))) ∧ (∀ z, Below B wg z → z.cell? ⟨b, 5, none⟩ = some (.int .i64 (t 4))) := by
  have r : ∀ i z, Below B wg z → z.cell? ⟨b, i, none⟩ = (mcells p t)[i]? := fun i z hz => Joins.cell_of_block ((hz.block _ hbB).trans h) i
  exact ⟨r 0, r 1, r 2, r 3, r 4, r 5⟩

set_option maxRecDepth 100000 in
set_option maxHeartbeats 1000000 in
theorem idxC_any {p : Int} {K : List Nat} (hn : K.length ≤ 3125) {Q : Nat → Bool} (q : Int) (s : Nat → Int) (a : Option Addr) (cap : Nat) (w : World) (hr : InRowM w a (mE p K)) (hq : ∀ x ∈ K, ∀ w : World, (binOp .eql 28 (mv q s) (mv p (dcd x))).run Try.prog w = .ok (.bool (Q x)) w) :
    Calls Try.prog 109 #[.slice a K.length cap, mv q s] w
      fun e w' => ∃ i : Int, e = .returned (.int .i64 i) ∧ Below w.heap.size w w' ∧ IdxAtC Q K i := by
  have HR := Lib.hid hr
  have HQ := Lib.hid hq
  clear hr hq
  simp only [mv, mcells] at HQ ⊢
  go_enter Try.func109, Try.ntmps109
  go_wp2_with fail
  go_loopw [5, 8] (fun _ i wr => ∃ k : Nat, k ≤ K.length ∧ i = .int .i64 k ∧ Below w.heap.size w wr ∧ w.heap.size < wr.heap.size ∧ wr.heap[w.heap.size]? = some (.cells (mcells q s) 28 (0, 0)) ∧ ∀ j, j < k → Q (K.getD j 0) = false) (fun _ i _ => K.length - (intOf i).toNat)
  case atStart => exact ⟨0, by omega, rfl, (Below.refl _ _).alloc (Nat.le_refl _) _, by simp, halloc_at _ _ _ rfl, fun j hj => by omega⟩
  case round =>
    obtain ⟨k, hk, rfl, hb, hsz, hbx, hal⟩ := hrel
    have HBR := Lib.hid hb
    have HAL := Lib.hid hal
    have HBX := Lib.hid hbx
    have hsr := hb.size
    by_cases hkl : k < K.length
    · have hkl' : (k : Int) < (K.length : Int) := by omega
      obtain ⟨b1, o1, rfl, hl1, hat1⟩ := (HR.out.below hb).at6 k (by rw [mE_len]; exact hkl)
      rw [mE_at _ _ _ hkl] at hat1
      obtain ⟨x0, x1, x2, x3, x4, x5⟩ := hat1
      simp only [] at x0 x1 x2 x3 x4 x5
      have HIT := Lib.hid fun (e : Q (K.getD k 0) = true) => (Or.inr ⟨k, hkl, rfl, e, hal⟩ : IdxAtC Q K (k : Int))
      have hq := HQ.out _ (getD_mem hkl)
      have HST := Lib.hid fun (e : Q (K.getD k 0) = false) (j : Nat) (hj : j < k + 1) => (show Q (K.getD j 0) = false by
        by_cases h : j = k
        · rw [h]; exact e
        · exact HAL.out j (by omega))
      obtain ⟨CB, hCB⟩ : ∃ CB, CB = Q (K.getD k 0) := ⟨_, rfl⟩
      have HB := Lib.hid hCB
      rw [← hCB] at hq
      clear hCB hal hb
      generalize K.getD k 0 = x at *
      obtain ⟨r0, r1, r2, r3, r4, r5⟩ := belN_cellsC (B := wr.heap.size) hsz hbx
      have y0 : ∀ z, Below wr.heap.size wr z → z.cell? ⟨b1, _, none⟩ = _ := fun z hz => (hz.cell (p := ⟨b1, _, none⟩) hl1).trans x0
      have y1 : ∀ z, Below wr.heap.size wr z → z.cell? ⟨b1, _, none⟩ = _ := fun z hz => (hz.cell (p := ⟨b1, _, none⟩) hl1).trans x1
      have y2 : ∀ z, Below wr.heap.size wr z → z.cell? ⟨b1, _, none⟩ = _ := fun z hz => (hz.cell (p := ⟨b1, _, none⟩) hl1).trans x2
      have y3 : ∀ z, Below wr.heap.size wr z → z.cell? ⟨b1, _, none⟩ = _ := fun z hz => (hz.cell (p := ⟨b1, _, none⟩) hl1).trans x3
      have y4 : ∀ z, Below wr.heap.size wr z → z.cell? ⟨b1, _, none⟩ = _ := fun z hz => (hz.cell (p := ⟨b1, _, none⟩) hl1).trans x4
      have y5 : ∀ z, Below wr.heap.size wr z → z.cell? ⟨b1, _, none⟩ = _ := fun z hz => (hz.cell (p := ⟨b1, _, none⟩) hl1).trans x5
      clear x0 x1 x2 x3 x4 x5 hbx
      go_upto_region 4 with fail
      go_cut [16] from 11 to 16 (fun s16 wx => s16 = .bool CB ∧ Below wr.heap.size wr wx)
      case first =>
        go_region_held3 (fun w' => Below wr.heap.size wr w') (first | (with_reducible assumption) | ((repeat' (first | (with_reducible exact Below.refl _ _) | (with_reducible refine Below.alloc ?_ ?_ _) | (with_reducible refine Below.setCell ?_ ?_ _) | (with_reducible refine Below.drew ?_) | (with_reducible refine below_drewN ?_ _) | (with_reducible refine Below.trans ?_ (Below.mono (Hid.out (by assumption)) ?_)) | omega | (simp; done) | (simp; omega))); done)) (fail)
        all_goals (go_wp2_with fail)
        all_goals (go_meet)
        all_goals
          refine ⟨rfl, ?_⟩
          (repeat' (first | (with_reducible exact Below.refl _ _) | (with_reducible refine Below.alloc ?_ ?_ _) | (with_reducible refine Below.setCell ?_ ?_ _) | (with_reducible refine Below.drew ?_) | (with_reducible refine below_drewN ?_ _) | (with_reducible refine Below.trans ?_ (Below.mono (Hid.out (by assumption)) ?_)) | omega | (simp; done) | (simp; omega)))
      case rest =>
        obtain ⟨rfl, hbc⟩ := hcut
        have HBC := Lib.hid hbc
        have hzc := hbc.size
        clear hbc r0 r1 r2 r3 r4 r5 y0 y1 y2 y3 y4 y5 hq
        cases CB with
        | true =>
          go_wp2_with fail
          go_ret
          exact ⟨_, rfl, HBR.out.trans (HBC.out.mono hsr), HIT.out HB.out.symm⟩
        | false =>
          go_wp2_with fail
          go_roundw
          case rel => exact ⟨k + 1, by omega, by go_num, HBR.out.trans (HBC.out.mono hsr), by omega, bel_atC HBC.out HBX.out, HST.out HB.out.symm⟩
          case measure => simp [intOf]; omega
    · obtain rfl : k = K.length := by omega
      clear hb hbx
      go_wp2_with fail
      go_ret
      exact ⟨_, rfl, HBR.out, Or.inl ⟨rfl, HAL.out⟩⟩

set_option maxRecDepth 100000 in
theorem hasCE_any {p : Int} {K : List Nat} (hn : K.length ≤ 3125) {Q : Nat → Bool} (q : Int) (s : Nat → Int) (a : Option Addr) (cap : Nat) (w : World) (hr : InRowM w a (mE p K)) (hq : ∀ x ∈ K, ∀ w : World, (binOp .eql 28 (mv q s) (mv p (dcd x))).run Try.prog w = .ok (.bool (Q x)) w) :
    Calls Try.prog 77 #[.slice a K.length cap, mv q s] w
      fun e w' => e = .returned (.bool (K.any Q)) ∧ Below w.heap.size w w' := by
  have hb0 : Below w.heap.size w (w.alloc (.cells (mcells q s) 28)) := (Below.refl _ _).alloc (Nat.le_refl _) _
  have HQ := Lib.hid (idxC_any hn q s a cap _ (hr.below hb0) hq)
  have HB0 := Lib.hid hb0
  clear hr hq hb0
  simp only [mv, mcells] at HQ HB0 ⊢
  go_enter Try.func77, Try.ntmps77
  go_wp2_with fail
  refine HQ.out.mono ?_
  rintro e w2 ⟨i, rfl, hb2, hi⟩
  have HB2 := Lib.hid hb2
  have HI := Lib.hid hi.any
  clear hb2 hi
  go_wp2_with fail
  go_ret
  exact ⟨ret_b (by rw [← HI.out]), HB0.out.trans (HB2.out.mono (by simp))⟩

/-- Whether a list holds a map. -/
theorem hasCC_any {p : Int} {K : List Nat} {c : Nat} (hK : ∀ x ∈ K, vld p x) (hc : vld p c) (hn : K.length ≤ 3125) (a : Option Addr) (cap : Nat) (w : World) (hr : InRowM w a (mE p K)) :
    Calls Try.prog 77 #[.slice a K.length cap, mv p (dcd c)] w
      fun e w' => e = .returned (.bool (decide (c ∈ K))) ∧ Below w.heap.size w w' := by
  have h := hasCE_any hn (Q := fun x => decide (c = x)) p (dcd c) a cap w hr (fun x hx w => eqN_numC hc (hK x hx) w)
  have e : (K.any fun x => decide (c = x)) = decide (c ∈ K) := by
    rw [Bool.eq_iff_iff, List.any_eq_true, decide_eq_true_iff]
    constructor
    · rintro ⟨x, hx, h⟩
      rw [of_decide_eq_true h]; exact hx
    · intro h
      exact ⟨c, h, by simp⟩
  rw [e] at h
  exact h

end Go.Proofs.Ytfghegjlilcafaa
