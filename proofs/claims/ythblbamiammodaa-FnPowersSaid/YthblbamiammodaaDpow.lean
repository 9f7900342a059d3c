/- The contract of spec.DrawPowerOf. -/
import Derived.Test.YthblbamiammodaaDraws
namespace Go.Proofs.Ythblbamiammodaa
open Go.RowKit

/-- Within a draw that keeps some map's numbers in block b: the result's cell is not written yet. -/
structure Dj (w : World) (s : Nat) (a : Option Addr) (n c : Nat) (b : Nat) (p : Int) (t : Nat → Int) (wr : World) : Prop where
  res : wr.heap[w.heap.size]? = some (.cells (mcells 0 fun _ => 0) 26 (0, 0))
  var : wr.heap[b]? = some (.cells (mcells p t) 26 (0, 0))
  src : Src wr s a n c
  below : Below w.heap.size w wr
  hs : w.heap.size < s
  hb : s < b

variable {w wr w1 : World} {s n c b : Nat} {p : Int} {a : Option Addr} {t : Nat → Int}

theorem Dj.next (h : Dj w s a n c b p t wr) (hg : wr.grownBy w1 (some s)) (hs : Src w1 s a n c) : Dj w s a n c b p t w1 :=
  ⟨(hg.block _ (Array.getElem?_eq_some_iff.1 h.res).1 (fun e => by injection e with e; have := h.hs; omega)).trans h.res, (hg.block _ (Array.getElem?_eq_some_iff.1 h.var).1 (fun e => by injection e with e; have := h.hb; omega)).trans h.var, hs,
    h.below.grown hg h.below.size (fun k e => by cases e; exact Nat.le_of_lt h.hs), h.hs, h.hb⟩

theorem Dj.under (h : Dj w s a n c b p t wr) (hg : Below wr.heap.size wr w1) : Dj w s a n c b p t w1 :=
  ⟨(hg.block _ (Array.getElem?_eq_some_iff.1 h.res).1).trans h.res, (hg.block _ (Array.getElem?_eq_some_iff.1 h.var).1).trans h.var, h.src.below hg, h.below.trans (hg.mono h.below.size), h.hs, h.hb⟩

theorem ten_cells (w : World) (x0 x1 x2 x3 x4 x5 x6 x7 x8 x9 : Int) (T : TypeId) : ∀ i, i < 10 → ∃ x : Int, (w.alloc (.cells #[.int .i64 x0, .int .i64 x1, .int .i64 x2, .int .i64 x3, .int .i64 x4, .int .i64 x5, .int .i64 x6, .int .i64 x7, .int .i64 x8, .int .i64 x9] T)).cell? ⟨w.heap.size, i, none⟩ = some (.int .i64 x) := by
  intro i hi
  have e := Joins.cell_of_block (halloc_at w (.cells #[.int .i64 x0, .int .i64 x1, .int .i64 x2, .int .i64 x3, .int .i64 x4, .int .i64 x5, .int .i64 x6, .int .i64 x7, .int .i64 x8, .int .i64 x9] T) _ rfl) i
  rcases (by omega : i = 0 ∨ i = 1 ∨ i = 2 ∨ i = 3 ∨ i = 4 ∨ i = 5 ∨ i = 6 ∨ i = 7 ∨ i = 8 ∨ i = 9) with rfl | rfl | rfl | rfl | rfl | rfl | rfl | rfl | rfl | rfl <;> exact ⟨_, e⟩

set_option maxRecDepth 100000 in
set_option maxHeartbeats 2000000 in
theorem dPow_any (a : Option Addr) (n c : Nat) (hn : n ≤ 2000000) (w : World) (hB : Bytes w a n) :
    Calls Try.prog 5 #[.slice a n c] w fun e w' => ∃ p t k, e = .returned (.tuple #[mv p t, .int .i64 k]) ∧ Below w.heap.size w w' := by
  have hb0 : Below w.heap.size w (w.alloc (.cells (mcells 0 fun _ => 0) 26)) := (Below.refl _ _).alloc (Nat.le_refl _) _
  have HF := Lib.hid (from_any a n c hn _ (hB.below hb0))
  have HB0 := Lib.hid hb0
  clear hB hb0
  go_enter Try.func5, Try.ntmps5
  go_wp2_with fail
  refine HF.out.mono ?_
  rintro e w1 ⟨rfl, hb1, hs1⟩
  simp only [World.size_alloc] at hb1 hs1
  have hr1 : w1.heap[w.heap.size]? = some (.cells (mcells 0 fun _ => 0) 26 (0, 0)) := (hb1.block _ (Nat.lt_succ_self _)).trans (halloc_at _ _ _ rfl)
  have HR1 := Lib.hid hr1
  have HB1 : Hid (Below w.heap.size w w1) := Lib.hid (HB0.out.trans (hb1.mono (Nat.le_succ _)))
  have HS1 := Lib.hid hs1
  have hlt := hs1.lt
  clear hb1 hs1 hr1 HB0 HF
  go_wp2_with fail
  refine (spoil_any _ a n c _ HS1.out).mono ?_
  rintro e w2 ⟨p, t, rfl, hg, hs⟩
  simp only [mv, mcells]
  have HD : Hid (Dj w (w.heap.size + 1) a n c w2.heap.size p t (w2.alloc (.cells (mcells p t) 26))) := Lib.hid (by
    have hr2 : w2.heap[w.heap.size]? = some (.cells (mcells 0 fun _ => 0) 26 (0, 0)) := (hg.block _ (Array.getElem?_eq_some_iff.1 HR1.out).1 (fun e => by injection e with e; omega)).trans HR1.out
    have hb2 : Below w.heap.size w w2 := HB1.out.grown hg HB1.out.size (fun k e => by cases e; exact Nat.le_succ _)
    have hal : Below w2.heap.size w2 (w2.alloc (.cells (mcells p t) 26)) := (Below.refl _ _).alloc (Nat.le_refl _) _
    exact ⟨(hal.block _ (Array.getElem?_eq_some_iff.1 hr2).1).trans hr2, halloc_at _ _ _ rfl, hs.below hal, hb2.trans (hal.mono hb2.size), Nat.lt_succ_self _, hs.lt⟩)
  have hlt2 : w.heap.size + 1 < w2.heap.size := hs.lt
  clear hg hs HR1 HB1 HS1 hlt
  go_wp2_with fail
  have HDd : Dj w (w.heap.size + 1) a n c w2.heap.size p t (w2.alloc (.cells (mcells p t) 26)).drew := Dj.under HD.out (Below.drew (Below.refl _ _))
  have r0 : ∀ x, Dj w (w.heap.size + 1) a n c w2.heap.size p t x → x.cell? ⟨w2.heap.size, 0, none⟩ = some (.int .i64 p) := fun x h => (blk6 h.var).1
  have r1 : ∀ x, Dj w (w.heap.size + 1) a n c w2.heap.size p t x → x.cell? ⟨w2.heap.size, 1, none⟩ = some (.int .i64 (t 0)) := fun x h => (blk6 h.var).2.1
  have r2 : ∀ x, Dj w (w.heap.size + 1) a n c w2.heap.size p t x → x.cell? ⟨w2.heap.size, 2, none⟩ = some (.int .i64 (t 1)) := fun x h => (blk6 h.var).2.2.1
  have r3 : ∀ x, Dj w (w.heap.size + 1) a n c w2.heap.size p t x → x.cell? ⟨w2.heap.size, 3, none⟩ = some (.int .i64 (t 2)) := fun x h => (blk6 h.var).2.2.2.1
  have r4 : ∀ x, Dj w (w.heap.size + 1) a n c w2.heap.size p t x → x.cell? ⟨w2.heap.size, 4, none⟩ = some (.int .i64 (t 3)) := fun x h => (blk6 h.var).2.2.2.2.1
  have r5 : ∀ x, Dj w (w.heap.size + 1) a n c w2.heap.size p t x → x.cell? ⟨w2.heap.size, 5, none⟩ = some (.int .i64 (t 4)) := fun x h => (blk6 h.var).2.2.2.2.2
  have q0 : ∀ x, Dj w (w.heap.size + 1) a n c w2.heap.size p t x → x.cell? ⟨w.heap.size, 0, none⟩ = some (.int .i64 0) := fun x h => (blk6 h.res).1
  have q1 : ∀ x, Dj w (w.heap.size + 1) a n c w2.heap.size p t x → x.cell? ⟨w.heap.size, 1, none⟩ = some (.int .i64 0) := fun x h => (blk6 h.res).2.1
  have q2 : ∀ x, Dj w (w.heap.size + 1) a n c w2.heap.size p t x → x.cell? ⟨w.heap.size, 2, none⟩ = some (.int .i64 0) := fun x h => (blk6 h.res).2.2.1
  have q3 : ∀ x, Dj w (w.heap.size + 1) a n c w2.heap.size p t x → x.cell? ⟨w.heap.size, 3, none⟩ = some (.int .i64 0) := fun x h => (blk6 h.res).2.2.2.1
  have q4 : ∀ x, Dj w (w.heap.size + 1) a n c w2.heap.size p t x → x.cell? ⟨w.heap.size, 4, none⟩ = some (.int .i64 0) := fun x h => (blk6 h.res).2.2.2.2.1
  have q5 : ∀ x, Dj w (w.heap.size + 1) a n c w2.heap.size p t x → x.cell? ⟨w.heap.size, 5, none⟩ = some (.int .i64 0) := fun x h => (blk6 h.res).2.2.2.2.2
  have qf : ∀ x, Dj w (w.heap.size + 1) a n c w2.heap.size p t x → ∀ i, x.frozen? ⟨w.heap.size, i, none⟩ = false := fun x h i => blk_free h.res i
  go_region_law (first
    | (go_simp; go_at_call 37; refine (next_any _ a n c 1000 _ (Dj.src (w := w) (b := w2.heap.size) (p := p) (t := t) HDd)).mono ?_; rintro e w5 ⟨y, rfl, hy0, hy1, hg, hs⟩; have HN : Dj w (w.heap.size + 1) a n c w2.heap.size p t w5 := Dj.next HDd hg hs; have hl5 : w2.heap.size < w5.heap.size := (Array.getElem?_eq_some_iff.1 HN.var).1; clear hg hs hy0 hy1)
    | (go_simp; go_at_call 36; refine (pick_some _ a n c _ 10 10 (by omega) (by omega) _ (Dj.src (w := w) (b := w2.heap.size) (p := p) (t := t) (Dj.under HN ((Below.refl _ _).alloc (Nat.le_refl _) _))) (by omega) (by exact ten_cells _ _ _ _ _ _ _ _ _ _ _ _)).mono ?_; rintro e w6 ⟨X, rfl, hg, hs⟩; have HP : Dj w (w.heap.size + 1) a n c w2.heap.size p t w6 := Dj.next (Dj.under HN ((Below.refl _ _).alloc (Nat.le_refl _) _)) hg hs; clear hg hs))
  all_goals
    obtain ⟨y0, y1, y2, y3, y4, y5⟩ := blk6 HP.res
    have HB6 := Lib.hid HP.below
    clear r0 r1 r2 r3 r4 r5 q0 q1 q2 q3 q4 q5 qf HDd HN HP
    go_wp2_with fail
    refine bodyPost_ret (v := .tuple #[mv p t, .int .i64 X]) (by simp [results, Try.results5, go_sem, y0, y1, y2, y3, y4, y5]) rfl ⟨p, t, X, rfl, ?_⟩
    (repeat' (first | (with_reducible exact Below.refl _ _) | (with_reducible refine Below.alloc ?_ ?_ _) | (with_reducible refine Below.setCell ?_ ?_ _) | (with_reducible refine Below.drew ?_) | (with_reducible refine below_drewN ?_ _) | (with_reducible refine Below.trans ?_ (Below.mono (Hid.out (by assumption)) ?_)) | omega | (simp; done) | (simp; omega)))

end Go.Proofs.Ythblbamiammodaa
