/- The contracts of (Map).comesBackBy, (Map).bringsBack and (*monoid).isRegular. -/
import Derived.Test.YtpbfpogddpmpmaaDyn
import Derived.Test.YtpbfpogddpmpmaaIdl
import Derived.Deep.RegionHeld3
import Derived.Shelf.Abstract
namespace Go.Proofs.Ytpbfpogddpmpmaa
open Go Go.RowKit Go.Shelf

theorem prodN_any {p : Int} {a b : Nat} (ha : vld p a) (hb : vld p b) (w : World) :
    Calls Try.prog 68 #[mv p (dcd a), mv p (dcd b)] w fun e w' => e = .returned (mv p (dcd (mulC p a b))) ∧ Below w.heap.size w w' := by
  have h := product_any p (dcd a) (dcd b) ha.2 hb.2 w
  rw [mv_ecd (mul_ok ha.2 hb.2)] at h
  exact h

theorem eqN_num {p : Int} {a b : Nat} (ha : vld p a) (hb : vld p b) (w : World) :
    (binOp .eql 31 (.agg #[.int .i64 p, .int .i64 (dcd a 0), .int .i64 (dcd a 1), .int .i64 (dcd a 2), .int .i64 (dcd a 3), .int .i64 (dcd a 4)]) (.agg #[.int .i64 p, .int .i64 (dcd b 0), .int .i64 (dcd b 1), .int .i64 (dcd b 2), .int .i64 (dcd b 3), .int .i64 (dcd b 4)])).run Try.prog w = .ok (.bool (decide (a = b))) w := by
  have h := runEqM p (dcd a) p (dcd b) w
  rw [dcd_cells ha hb] at h
  exact h

theorem belN_cells {wg : World} {b T B : Nat} {p : Int} {t : Nat → Int} (hbB : b < B) (h : wg.heap[b]? = some (.cells (mcells p t) T (0, 0))) :
    (∀ z, Below B wg z → z.cell? ⟨b, 0, none⟩ = some (.int .i64 p)) ∧ (∀ z, Below B wg z → z.cell? ⟨b, 1, none⟩ = some (.int .i64 (t 0))) ∧ (∀ z, Below B wg z → z.cell? ⟨b, 2, none⟩ = some (.int .i64 (t 1))) ∧
    (∀ z, Below B wg z → z.cell? ⟨b, 3, none⟩ = some (.int .i64 (t 2))) ∧ (∀ z, Below B wg z → z.cell? ⟨b, 4, none⟩ = some (.int .i64 (t 3))) ∧ (∀ z, Below B wg z → z.cell? ⟨b, 5, none⟩ = some (.int .i64 (t 4))) := by
  have r : ∀ i z, Below B wg z → z.cell? ⟨b, i, none⟩ = (mcells p t)[i]? := fun i z hz => Joins.cell_of_block ((hz.block _ hbB).trans h) i
  exact ⟨r 0, r 1, r 2, r 3, r 4, r 5⟩

set_option maxRecDepth 100000 in
theorem iback_any {p : Int} {c g : Nat} (hc : vld p c) (hg : vld p g) (w : World) :
    Calls Try.prog 75 #[mv p (dcd c), mv p (dcd g)] w fun e w' => e = .returned (.bool (bckC p c g)) ∧ Below w.heap.size w w' := by
  have hq1 := fun w => prodN_any hc hg w
  have hq2 := fun w => prodN_any (mulC_vld hc hg) hc w
  have he := eqN_num (mulC_vld (mulC_vld hc hg) hc) hc
  unfold bckC
  generalize mulC p (mulC p c g) c = q1 at *
  generalize mulC p c g = fg at *
  generalize decide (q1 = c) = B at *
  simp only [mv, mcells] at hq1 hq2 ⊢
  have HQ1 := Lib.hid hq1
  have HQ2 := Lib.hid hq2
  obtain ⟨wg, hwg⟩ : ∃ wg, wg = (w.alloc (.cells (mcells p (dcd c)) 31)).alloc (.cells (mcells p (dcd g)) 31) := ⟨_, rfl⟩
  have hgs : wg.heap.size = w.heap.size + 1 + 1 := by rw [hwg]; simp
  have hgf : wg.heap[w.heap.size]? = some (.cells (mcells p (dcd c)) 31 (0, 0)) := by rw [hwg]; exact (halloc_lt _ _ _ (by simp)).trans (halloc_at _ _ _ rfl)
  have hgg : wg.heap[w.heap.size + 1]? = some (.cells (mcells p (dcd g)) 31 (0, 0)) := by rw [hwg]; exact halloc_at _ _ _ (by simp)
  have HBG : Hid (Below w.heap.size w wg) := Lib.hid (by rw [hwg]; exact ((Below.refl _ _).alloc (Nat.le_refl _) _).alloc (by simp) _)
  obtain ⟨r0, r1, r2, r3, r4, r5⟩ := belN_cells (B := w.heap.size + 1 + 1) (by omega) hgf
  obtain ⟨s0, s1, s2, s3, s4, s5⟩ := belN_cells (B := w.heap.size + 1 + 1) (by omega) hgg
  clear hq1 hq2 hgf hgg hc hg
  go_enter Try.func75, Try.ntmps75
  go_wp2_with fail
  simp only [mcells] at hwg
  try rw [← hwg]
  clear hwg
  go_region_held3 (fun w' => Below (w.heap.size + 1 + 1) wg w') (first | (with_reducible assumption) | ((repeat' (first | (with_reducible exact Below.refl _ _) | (with_reducible refine Below.alloc ?_ ?_ _) | (with_reducible refine Below.setCell ?_ ?_ _) | (with_reducible refine Below.drew ?_) | (with_reducible refine below_drewN ?_ _) | (with_reducible refine Below.trans ?_ (Below.mono (Hid.out (by assumption)) ?_)) | omega | (simp; done) | (simp; omega))); done)) (first | (go_at_call 68; (with_reducible refine (HQ1.out _).mono ?_); rintro e w1 ⟨rfl, hb⟩; skip; obtain ⟨hc, hf⟩ := bcell hb; have hz := hb.size; have Hb := Lib.hid hb; (try simp at hz hc hf); (try (have hy := Nat.lt_of_succ_le hz)); have hz0 : wg.heap.size ≤ w1.heap.size := (by omega); (try (have hz1 : wg.heap.size < w1.heap.size := (by omega))); clear hb) | (go_at_call 68; (with_reducible refine (HQ2.out _).mono ?_); rintro e w1 ⟨rfl, hb⟩; skip; obtain ⟨hc, hf⟩ := bcell hb; have hz := hb.size; have Hb := Lib.hid hb; (try simp at hz hc hf); (try (have hy := Nat.lt_of_succ_le hz)); have hz0 : wg.heap.size ≤ w1.heap.size := (by omega); (try (have hz1 : wg.heap.size < w1.heap.size := (by omega))); clear hb))
  all_goals go_wp2_with fail
  all_goals go_ret
  all_goals
    refine ⟨rfl, ?_⟩
    (repeat' (first | (with_reducible exact Below.refl _ _) | (with_reducible refine Below.alloc ?_ ?_ _) | (with_reducible refine Below.setCell ?_ ?_ _) | (with_reducible refine Below.drew ?_) | (with_reducible refine below_drewN ?_ _) | (with_reducible refine Below.trans ?_ (Below.mono (Hid.out (by assumption)) ?_)) | omega | (simp; done) | (simp; omega)))

theorem ibring_any {p : Int} {c g : Nat} (hc : vld p c) (hg : vld p g) (w : World) :
    Calls Try.prog 104 #[mv p (dcd c), mv p (dcd g)] w fun e w' => e = .returned (.bool (bckC p g c)) ∧ Below w.heap.size w w' := by
  have HQ := Lib.hid fun w => iback_any hg hc w
  simp only [mv, mcells] at HQ ⊢
  go_enter Try.func104, Try.ntmps104
  go_wp2_with fail
  refine (HQ.out _).mono ?_
  rintro e w2 ⟨rfl, hb2⟩
  have HB2 := Lib.hid hb2
  clear hb2
  go_wp2_with fail
  go_ret
  exact ⟨rfl, (((Below.refl _ _).alloc (Nat.le_refl _) _).alloc (by simp) _).trans (HB2.out.mono (by simp; omega))⟩

set_option maxRecDepth 100000 in
theorem ireg_any {p : Int} {K : List Nat} (hn : K.length ≤ 300) {Q : Nat → Bool} (q : Int) (s : Nat → Int) (b cE : Nat) (aE : Option Addr) (mo : Option Nat) (w : World) (hm : w.heap[b]? = some (.cells #[.slice aE K.length cE, .map mo] 48 (0, 0))) (hr : InRowM w aE (mE p K))
    (hq : TellsB w p K Q 75 #[mv q s] #[]) :
    Calls Try.prog 49 #[.pointer (some ⟨b, 0, none⟩), mv q s] w fun e w' => e = .returned (.bool (K.any Q)) ∧ Below w.heap.size w w' := by
  have eg : ∀ args w, (callFunc 75 args).run Try.prog w = .ok (.enter 75 args) w := enters_of Try.func75 (by kernel_rfl) rfl
  obtain ⟨wg, hwg⟩ : ∃ wg, wg = w.alloc (.cells (mcells q s) 31) := ⟨_, rfl⟩
  have hgs : wg.heap.size = w.heap.size + 1 := by rw [hwg]; simp
  have hgf : wg.heap[w.heap.size]? = some (.cells (mcells q s) 31 (0, 0)) := by rw [hwg]; exact halloc_at _ _ _ rfl
  have hgb : Below w.heap.size w wg := by rw [hwg]; exact (Below.refl _ _).alloc (Nat.le_refl _) _
  have HBG := Lib.hid hgb
  have hh := fun (z : World) (hz : Below (w.heap.size + 1) wg z) => hasG_any hn eg aE cE z (hr.below (hgb.trans (hz.mono (Nat.le_succ _)))) (fun x hx y hy => hq x hx y ((hgb.trans (hz.mono (Nat.le_succ _))).trans (hy.mono (by have := hz.size; omega))))
  obtain ⟨r0, r1, r2, r3, r4, r5⟩ := belN_cells (B := w.heap.size + 1) (by omega) hgf
  have hbl : b < w.heap.size := (Array.getElem?_eq_some_iff.1 hm).1
  have m0 : ∀ z, Below (w.heap.size + 1) wg z → z.cell? ⟨b, 0, none⟩ = some (.slice aE K.length cE) := fun z hz => by
    have := Joins.cell_of_block ((hz.block b (by omega)).trans (bel_at hgb hm)) 0
    simpa using this
  simp only [mv, mcells] at hh ⊢
  have HH := Lib.hid hh
  clear hm hr hq hh eg hgb hgf
  go_enter Try.func49, Try.ntmps49
  go_wp2_with fail
  simp only [mcells] at hwg
  try rw [← hwg]
  clear hwg
  go_region_held3 (fun w' => Below (w.heap.size + 1) wg w') (first | (with_reducible assumption) | ((repeat' (first | (with_reducible exact Below.refl _ _) | (with_reducible refine Below.alloc ?_ ?_ _) | (with_reducible refine Below.setCell ?_ ?_ _) | (with_reducible refine Below.drew ?_) | (with_reducible refine below_drewN ?_ _) | (with_reducible refine Below.trans ?_ (Below.mono (Hid.out (by assumption)) ?_)) | omega | (simp; done) | (simp; omega))); done)) (first | (go_at_call 56; (with_reducible refine (HH.out _ (by assumption)).mono ?_); rintro e w1 ⟨rfl, hb⟩; skip; obtain ⟨hc, hf⟩ := bcell hb; have hz := hb.size; have Hb := Lib.hid hb; (try simp at hz hc hf); (try (have hy := Nat.lt_of_succ_le hz)); have hz0 : wg.heap.size ≤ w1.heap.size := (by omega); (try (have hz1 : wg.heap.size < w1.heap.size := (by omega))); clear hb))
  all_goals go_wp2_with fail
  all_goals go_ret
  all_goals
    refine ⟨rfl, ?_⟩
    (repeat' (first | (with_reducible exact Below.refl _ _) | (with_reducible refine Below.alloc ?_ ?_ _) | (with_reducible refine Below.setCell ?_ ?_ _) | (with_reducible refine Below.drew ?_) | (with_reducible refine below_drewN ?_ _) | (with_reducible refine Below.trans ?_ (Below.mono (Hid.out (by assumption)) ?_)) | omega | (simp; done) | (simp; omega)))

end Go.Proofs.Ytpbfpogddpmpmaa
