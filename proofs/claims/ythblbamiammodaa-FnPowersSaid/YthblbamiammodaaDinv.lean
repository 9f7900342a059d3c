/- The contract of spec.DrawInverseOf. -/
import Derived.Test.YthblbamiammodaaDraws
namespace Go.Proofs.Ythblbamiammodaa
open Go.RowKit

/-- Within a draw that keeps a map of its own in block b: the result's cell is not written yet. -/
structure Di (w : World) (s : Nat) (a : Option Addr) (n c : Nat) (b : Nat) (m : Nat) (t : Nat → Int) (wr : World) : Prop where
  res : wr.heap[w.heap.size]? = some (.cells (mcells 0 fun _ => 0) 26 (0, 0))
  var : wr.heap[b]? = some (.cells (mcells m t) 26 (0, 0))
  src : Src wr s a n c
  below : Below w.heap.size w wr
  hs : w.heap.size < s
  hb : s < b

variable {w wr w1 : World} {s n c b m : Nat} {a : Option Addr} {t : Nat → Int}

theorem Di.next (h : Di w s a n c b m t wr) (hg : wr.grownBy w1 (some s)) (hs : Src w1 s a n c) : Di w s a n c b m t w1 :=
  ⟨(hg.block _ (Array.getElem?_eq_some_iff.1 h.res).1 (fun e => by injection e with e; have := h.hs; omega)).trans h.res, (hg.block _ (Array.getElem?_eq_some_iff.1 h.var).1 (fun e => by injection e with e; have := h.hb; omega)).trans h.var, hs,
    h.below.grown hg h.below.size (fun k e => by cases e; exact Nat.le_of_lt h.hs), h.hs, h.hb⟩

theorem Di.under (h : Di w s a n c b m t wr) (hg : Below wr.heap.size wr w1) : Di w s a n c b m t w1 :=
  ⟨(hg.block _ (Array.getElem?_eq_some_iff.1 h.res).1).trans h.res, (hg.block _ (Array.getElem?_eq_some_iff.1 h.var).1).trans h.var, h.src.below hg, h.below.trans (hg.mono h.below.size), h.hs, h.hb⟩

theorem Di.whole {q : Nat} (h : Di w s a n c b m t wr) (r : Nat → Int) :
    Di w s a n c b q r ((((((wr.setCell ⟨b, 0, none⟩ (.int .i64 q)).setCell ⟨b, 1, none⟩ (.int .i64 (r 0))).setCell ⟨b, 2, none⟩ (.int .i64 (r 1))).setCell ⟨b, 3, none⟩ (.int .i64 (r 2))).setCell ⟨b, 4, none⟩ (.int .i64 (r 3))).setCell ⟨b, 5, none⟩ (.int .i64 (r 4))) :=
  ⟨((grown_six wr b _ _ _ _ _ _).block _ (Array.getElem?_eq_some_iff.1 h.res).1 (fun e => by injection e with e; have := h.hs; have := h.hb; omega)).trans h.res,
    Joins.block_setCell (Joins.block_setCell (Joins.block_setCell (Joins.block_setCell (Joins.block_setCell (Joins.block_setCell h.var _) _) _) _) _) _,
    h.src.grown (grown_six _ _ _ _ _ _ _ _) h.hb, h.below.grown (grown_six _ _ _ _ _ _ _ _) h.below.size (fun k e => by cases e; have := h.hs; have := h.hb; omega), h.hs, h.hb⟩

set_option maxRecDepth 100000 in
set_option maxHeartbeats 2000000 in
theorem dInv_any (a : Option Addr) (n c : Nat) (hn : n ≤ 2000000) (w : World) (hB : Bytes w a n) :
    Calls Try.prog 19 #[.slice a n c] w (RetSome w) := by
  have hb0 : Below w.heap.size w (w.alloc (.cells (mcells 0 fun _ => 0) 26)) := (Below.refl _ _).alloc (Nat.le_refl _) _
  have HF := Lib.hid (from_any a n c hn _ (hB.below hb0))
  have HB0 := Lib.hid hb0
  clear hB hb0
  go_enter Try.func19, Try.ntmps19
  go_wp2_with fail
  refine HF.out.mono ?_
  rintro e w1 ⟨rfl, hb1, hs1⟩
  simp only [World.size_alloc] at hb1 hs1
  have hr1 : w1.heap[w.heap.size]? = some (.cells (mcells 0 fun _ => 0) 26 (0, 0)) := (hb1.block _ (Nat.lt_succ_self _)).trans (halloc_at _ _ _ rfl)
  have HR1 := Lib.hid hr1
  have HB1 : Hid (Below w.heap.size w w1) := Lib.hid (HB0.out.trans (hb1.mono (Nat.le_succ _)))
  have HS1 := Lib.hid hs1
  have hlt := hs1.lt
  clear hb1 hs1 hr1 HB0 HF
  go_wp2_with fail
  refine (draw_any _ a n c _ HS1.out).mono ?_
  rintro e w2 ⟨m, hm, t, rfl, hg, hs⟩
  simp only [mv, mcells]
  have HD : Hid (Di w (w.heap.size + 1) a n c w2.heap.size m t (w2.alloc (.cells (mcells m t) 26))) := Lib.hid (by
    have hr2 : w2.heap[w.heap.size]? = some (.cells (mcells 0 fun _ => 0) 26 (0, 0)) := (hg.block _ (Array.getElem?_eq_some_iff.1 HR1.out).1 (fun e => by injection e with e; omega)).trans HR1.out
    have hb2 : Below w.heap.size w w2 := HB1.out.grown hg HB1.out.size (fun k e => by cases e; exact Nat.le_succ _)
    have hal : Below w2.heap.size w2 (w2.alloc (.cells (mcells m t) 26)) := (Below.refl _ _).alloc (Nat.le_refl _) _
    exact ⟨(hal.block _ (Array.getElem?_eq_some_iff.1 hr2).1).trans hr2, halloc_at _ _ _ rfl, hs.below hal, hb2.trans (hal.mono hb2.size), Nat.lt_succ_self _, hs.lt⟩)
  clear hg hs HR1 HB1 HS1 hlt
  go_wp2_with fail
  refine (next_any _ a n c 3 _ HD.out.src).mono ?_
  rintro e w3 ⟨y, rfl, hy0, hy1, hg, hs⟩
  have HD3 := Lib.hid (HD.out.next hg hs)
  clear hg hs HD hy1
  obtain ⟨z0, z1, z2, z3, z4, z5⟩ := blk6 HD3.out.var
  by_cases hy : 0 < y
  · go_wp2_with fail
    refine (order_any _ a n c m hm.2 _ HD3.out.src).mono ?_
    rintro e w4 ⟨v, L, rfl, hL, hown, hg, hs⟩
    subst hL
    have HD4 := Lib.hid (HD3.out.next hg hs)
    obtain ⟨aa, cap, rfl, hrd⟩ := own_rd hown (by omega)
    have hin : InRow w4 aa L := by
      rcases hrd.2 with h | ⟨g, rfl, _, hg2, hc⟩
      · exact Or.inl h
      · exact Or.inr ⟨g, 0, rfl, hg2, fun i hi => by rw [Nat.zero_add]; exact (hc i hi).1⟩
    have HIN := Lib.hid hin
    clear hg hs HD3 hown hin hrd z0 z1 z2 z3 z4 z5
    go_wp2_with fail
    refine (made_any L (by omega) (by omega) _ _ w4 HIN.out).mono ?_
    rintro e w5 ⟨rfl, hb⟩
    simp only [mv, mcells]
    have HD5 := Lib.hid (HD4.out.under hb)
    obtain ⟨z0, z1, z2, z3, z4, z5⟩ := blk6 HD5.out.var
    have hfr := blk_free HD5.out.var
    have HD6 := Lib.hid (HD5.out.whole (q := L.length) (tL L))
    clear hb HD4 HIN
    go_wp2_with fail
    refine (bad_any _ a n c L.length (tL L) _ HD6.out.src).mono ?_
    rintro e w6 ⟨p, u, rfl, hg, hs⟩
    simp only [mv, mcells]
    have HD7 := Lib.hid (HD6.out.next hg hs)
    obtain ⟨y0, y1, y2, y3, y4, y5⟩ := blk6 HD7.out.res
    have hfr2 := blk_free HD7.out.res
    have HB7 := Lib.hid HD7.out.below
    clear hg hs HD5 HD6 z0 z1 z2 z3 z4 z5 hfr HD7
    go_wp2_with fail
    refine bodyPost_ret (v := mv p u) (by simp [results, Try.results19, go_sem, y0, y1, y2, y3, y4, y5]) rfl ⟨p, u, rfl, ?_⟩
    (repeat' (first | (with_reducible exact Below.refl _ _) | (with_reducible refine Below.alloc ?_ ?_ _) | (with_reducible refine Below.setCell ?_ ?_ _) | (with_reducible refine Below.drew ?_) | (with_reducible refine below_drewN ?_ _) | (with_reducible refine Below.trans ?_ (Below.mono (Hid.out (by assumption)) ?_)) | omega | (simp; done) | (simp; omega)))
  · go_wp2_with fail
    refine (bad_any _ a n c m t _ HD3.out.src).mono ?_
    rintro e w6 ⟨p, u, rfl, hg, hs⟩
    simp only [mv, mcells]
    have HD7 := Lib.hid (HD3.out.next hg hs)
    obtain ⟨y0, y1, y2, y3, y4, y5⟩ := blk6 HD7.out.res
    have hfr2 := blk_free HD7.out.res
    have HB7 := Lib.hid HD7.out.below
    clear hg hs HD3 z0 z1 z2 z3 z4 z5 HD7
    go_wp2_with fail
    refine bodyPost_ret (v := mv p u) (by simp [results, Try.results19, go_sem, y0, y1, y2, y3, y4, y5]) rfl ⟨p, u, rfl, ?_⟩
    (repeat' (first | (with_reducible exact Below.refl _ _) | (with_reducible refine Below.alloc ?_ ?_ _) | (with_reducible refine Below.setCell ?_ ?_ _) | (with_reducible refine Below.drew ?_) | (with_reducible refine below_drewN ?_ _) | (with_reducible refine Below.trans ?_ (Below.mono (Hid.out (by assumption)) ?_)) | omega | (simp; done) | (simp; omega)))

end Go.Proofs.Ythblbamiammodaa
