/- The contract of spec.DrawRenumberMap. -/
import Derived.Test.YthblbamiammodaaDraws
namespace Go.Proofs.Ythblbamiammodaa
open Go.RowKit

/-- Within a draw of two maps: the results' cells are not written yet, the first map lies in block b. -/
structure D1 (w : World) (s : Nat) (a : Option Addr) (n c : Nat) (b : Nat) (p : Int) (t : Nat → Int) (wr : World) : Prop where
  res0 : wr.heap[w.heap.size]? = some (.cells (mcells 0 fun _ => 0) 26 (0, 0))
  res1 : wr.heap[w.heap.size + 1]? = some (.cells (mcells 0 fun _ => 0) 26 (0, 0))
  var : wr.heap[b]? = some (.cells (mcells p t) 26 (0, 0))
  src : Src wr s a n c
  below : Below w.heap.size w wr
  hs : w.heap.size + 1 < s
  hb : s < b

/-- The second map lies in block d. -/
structure D2 (w : World) (s : Nat) (a : Option Addr) (n c : Nat) (b : Nat) (p : Int) (t : Nat → Int) (d : Nat) (q : Int) (u : Nat → Int) (wr : World) : Prop extends D1 w s a n c b p t wr where
  two : wr.heap[d]? = some (.cells (mcells q u) 26 (0, 0))
  hd : b < d

variable {w wr w1 : World} {s n c b d : Nat} {p q : Int} {a : Option Addr} {t u : Nat → Int}

theorem D1.next (h : D1 w s a n c b p t wr) (hg : wr.grownBy w1 (some s)) (hs : Src w1 s a n c) : D1 w s a n c b p t w1 :=
  ⟨(hg.block _ (Array.getElem?_eq_some_iff.1 h.res0).1 (fun e => by injection e with e; have := h.hs; omega)).trans h.res0, (hg.block _ (Array.getElem?_eq_some_iff.1 h.res1).1 (fun e => by injection e with e; have := h.hs; omega)).trans h.res1,
    (hg.block _ (Array.getElem?_eq_some_iff.1 h.var).1 (fun e => by injection e with e; have := h.hb; omega)).trans h.var, hs,
    h.below.grown hg h.below.size (fun k e => by cases e; exact Nat.le_of_lt (Nat.lt_of_succ_lt h.hs)), h.hs, h.hb⟩

theorem D1.under (h : D1 w s a n c b p t wr) (hg : Below wr.heap.size wr w1) : D1 w s a n c b p t w1 :=
  ⟨(hg.block _ (Array.getElem?_eq_some_iff.1 h.res0).1).trans h.res0, (hg.block _ (Array.getElem?_eq_some_iff.1 h.res1).1).trans h.res1, (hg.block _ (Array.getElem?_eq_some_iff.1 h.var).1).trans h.var, h.src.below hg, h.below.trans (hg.mono h.below.size), h.hs, h.hb⟩

theorem D2.next (h : D2 w s a n c b p t d q u wr) (hg : wr.grownBy w1 (some s)) (hs : Src w1 s a n c) : D2 w s a n c b p t d q u w1 :=
  ⟨h.toD1.next hg hs, (hg.block _ (Array.getElem?_eq_some_iff.1 h.two).1 (fun e => by injection e with e; have := h.hb; have := h.hd; omega)).trans h.two, h.hd⟩

theorem D2.under (h : D2 w s a n c b p t d q u wr) (hg : Below wr.heap.size wr w1) : D2 w s a n c b p t d q u w1 :=
  ⟨h.toD1.under hg, (hg.block _ (Array.getElem?_eq_some_iff.1 h.two).1).trans h.two, h.hd⟩

theorem D2.whole (h : D2 w s a n c b p t d q u wr) (q' : Int) (r : Nat → Int) :
    D2 w s a n c b p t d q' r ((((((wr.setCell ⟨d, 0, none⟩ (.int .i64 q')).setCell ⟨d, 1, none⟩ (.int .i64 (r 0))).setCell ⟨d, 2, none⟩ (.int .i64 (r 1))).setCell ⟨d, 3, none⟩ (.int .i64 (r 2))).setCell ⟨d, 4, none⟩ (.int .i64 (r 3))).setCell ⟨d, 5, none⟩ (.int .i64 (r 4))) :=
  ⟨⟨((grown_six wr d _ _ _ _ _ _).block _ (Array.getElem?_eq_some_iff.1 h.res0).1 (fun e => by injection e with e; have := h.hs; have := h.hb; have := h.hd; omega)).trans h.res0,
    ((grown_six wr d _ _ _ _ _ _).block _ (Array.getElem?_eq_some_iff.1 h.res1).1 (fun e => by injection e with e; have := h.hs; have := h.hb; have := h.hd; omega)).trans h.res1,
    ((grown_six wr d _ _ _ _ _ _).block _ (Array.getElem?_eq_some_iff.1 h.var).1 (fun e => by injection e with e; have := h.hd; omega)).trans h.var,
    h.src.grown (grown_six _ _ _ _ _ _ _ _) (Nat.lt_trans h.hb h.hd), h.below.grown (grown_six _ _ _ _ _ _ _ _) h.below.size (fun k e => by cases e; have := h.hs; have := h.hb; have := h.hd; omega), h.hs, h.hb⟩,
    Joins.block_setCell (Joins.block_setCell (Joins.block_setCell (Joins.block_setCell (Joins.block_setCell (Joins.block_setCell h.two _) _) _) _) _) _, h.hd⟩

/-- The last step of the draw: both maps are perhaps spoilt, and handed back. -/
def DrEnd (w : World) (e : Ending) (w' : World) : Prop := ∃ p t q u, e = .returned (.tuple #[mv p t, mv q u]) ∧ Below w.heap.size w w'

set_option maxRecDepth 100000 in
set_option maxHeartbeats 4000000 in
theorem dRen_any (a : Option Addr) (n c : Nat) (hn : n ≤ 2000000) (w : World) (hB : Bytes w a n) :
    Calls Try.prog 23 #[.slice a n c] w (DrEnd w) := by
  have hb0 : Below w.heap.size w ((w.alloc (.cells (mcells 0 fun _ => 0) 26)).alloc (.cells (mcells 0 fun _ => 0) 26)) := ((Below.refl _ _).alloc (Nat.le_refl _) _).alloc (by simp) _
  have HF := Lib.hid (from_any a n c hn _ (hB.below hb0))
  have HB0 := Lib.hid hb0
  clear hB hb0
  go_enter Try.func23, Try.ntmps23
  go_wp2_with fail
  refine HF.out.mono ?_
  rintro e w1 ⟨rfl, hb1, hs1⟩
  simp only [World.size_alloc] at hb1 hs1
  have hr0 : w1.heap[w.heap.size]? = some (.cells (mcells 0 fun _ => 0) 26 (0, 0)) := (hb1.block _ (by omega)).trans ((halloc_lt _ _ _ (by simp)).trans (halloc_at _ _ _ rfl))
  have hr1 : w1.heap[w.heap.size + 1]? = some (.cells (mcells 0 fun _ => 0) 26 (0, 0)) := (hb1.block _ (by omega)).trans (halloc_at _ _ _ (by simp))
  have HR0 := Lib.hid hr0
  have HR1 := Lib.hid hr1
  have HB1 : Hid (Below w.heap.size w w1) := Lib.hid (HB0.out.trans (hb1.mono (by omega)))
  have HS1 := Lib.hid hs1
  have hlt := hs1.lt
  clear hb1 hs1 hr0 hr1 HB0 HF
  go_wp2_with fail
  refine (draw_any _ a n c _ HS1.out).mono ?_
  rintro e w2 ⟨m, hm, t, rfl, hg, hs⟩
  simp only [mv, mcells]
  have HD : Hid (D1 w (w.heap.size + 1 + 1) a n c w2.heap.size m t (w2.alloc (.cells (mcells m t) 26))) := Lib.hid (by
    have hr0 : w2.heap[w.heap.size]? = some (.cells (mcells 0 fun _ => 0) 26 (0, 0)) := (hg.block _ (Array.getElem?_eq_some_iff.1 HR0.out).1 (fun e => by injection e with e; omega)).trans HR0.out
    have hr1 : w2.heap[w.heap.size + 1]? = some (.cells (mcells 0 fun _ => 0) 26 (0, 0)) := (hg.block _ (Array.getElem?_eq_some_iff.1 HR1.out).1 (fun e => by injection e with e; omega)).trans HR1.out
    have hb2 : Below w.heap.size w w2 := HB1.out.grown hg HB1.out.size (fun k e => by cases e; omega)
    have hal : Below w2.heap.size w2 (w2.alloc (.cells (mcells m t) 26)) := (Below.refl _ _).alloc (Nat.le_refl _) _
    exact ⟨(hal.block _ (Array.getElem?_eq_some_iff.1 hr0).1).trans hr0, (hal.block _ (Array.getElem?_eq_some_iff.1 hr1).1).trans hr1, halloc_at _ _ _ rfl, hs.below hal, hb2.trans (hal.mono hb2.size), Nat.lt_succ_self _, hs.lt⟩)
  have hlt2 : w.heap.size + 1 + 1 < w2.heap.size := hs.lt
  clear hg hs HR0 HR1 HB1 HS1 hlt
  go_wp2_with fail
  refine (order_any _ a n c m hm.2 _ HD.out.src).mono ?_
  rintro e w4 ⟨v, L, rfl, hL, hown, hg, hs⟩
  subst hL
  have HD4 := Lib.hid (HD.out.next hg hs)
  obtain ⟨aa, cap, rfl, hrd⟩ := own_rd hown (by omega)
  have hin : InRow w4 aa L := by
    rcases hrd.2 with h | ⟨g, rfl, _, hg2, hc⟩
    · exact Or.inl h
    · exact Or.inr ⟨g, 0, rfl, hg2, fun i hi => by rw [Nat.zero_add]; exact (hc i hi).1⟩
  have HIN := Lib.hid hin
  clear hg hs HD hown hin hrd
  go_wp2_with fail
  refine (made_any L hm.1 hm.2 _ _ w4 HIN.out).mono ?_
  rintro e w5 ⟨rfl, hb⟩
  simp only [mv, mcells]
  have HD5 : Hid (D2 w (w.heap.size + 1 + 1) a n c w2.heap.size L.length t w5.heap.size L.length (tL L) (w5.alloc (.cells (mcells L.length (tL L)) 26))) := Lib.hid (by
    have h5 := HD4.out.under hb
    exact ⟨h5.under ((Below.refl _ _).alloc (Nat.le_refl _) _), halloc_at _ _ _ rfl, (Array.getElem?_eq_some_iff.1 h5.var).1⟩)
  have hl5 : w2.heap.size < w5.heap.size := HD5.out.hd
  clear hb HD4 HIN
  go_wp2_with fail
  refine (next_any _ a n c 8 _ HD5.out.src).mono ?_
  rintro e w6 ⟨y, rfl, hy0, hy1, hg, hs⟩
  have HD6 := Lib.hid (HD5.out.next hg hs)
  clear hg hs HD5 hy1
  generalize hdd : w5.heap.size = d at *
  clear hdd
  by_cases hy : y = 0
  · subst hy
    go_wp2_with fail
    refine (draw_any _ a n c _ HD6.out.src).mono ?_
    rintro e w7 ⟨m2, hm2, t2, rfl, hg, hs⟩
    simp only [mv, mcells]
    have HD7 := Lib.hid (HD6.out.next hg hs)
    obtain ⟨z0, z1, z2, z3, z4, z5⟩ := blk6 HD7.out.two
    have hfr := blk_free HD7.out.two
    have HD8 := Lib.hid (HD7.out.whole m2 t2)
    clear hg hs HD6
    go_wp2_with fail
    clear z0 z1 z2 z3 z4 z5 hfr HD7
    have ra0 : ∀ x, D2 w (w.heap.size + 1 + 1) a n c w2.heap.size L.length t d ((m2 : Nat)) (t2) x → x.cell? ⟨w2.heap.size, 0, none⟩ = some (.int .i64 (L.length : Nat)) := fun x h => (blk6 h.var).1
    have ra1 : ∀ x, D2 w (w.heap.size + 1 + 1) a n c w2.heap.size L.length t d ((m2 : Nat)) (t2) x → x.cell? ⟨w2.heap.size, 1, none⟩ = some (.int .i64 (t 0)) := fun x h => (blk6 h.var).2.1
    have ra2 : ∀ x, D2 w (w.heap.size + 1 + 1) a n c w2.heap.size L.length t d ((m2 : Nat)) (t2) x → x.cell? ⟨w2.heap.size, 2, none⟩ = some (.int .i64 (t 1)) := fun x h => (blk6 h.var).2.2.1
    have ra3 : ∀ x, D2 w (w.heap.size + 1 + 1) a n c w2.heap.size L.length t d ((m2 : Nat)) (t2) x → x.cell? ⟨w2.heap.size, 3, none⟩ = some (.int .i64 (t 2)) := fun x h => (blk6 h.var).2.2.2.1
    have ra4 : ∀ x, D2 w (w.heap.size + 1 + 1) a n c w2.heap.size L.length t d ((m2 : Nat)) (t2) x → x.cell? ⟨w2.heap.size, 4, none⟩ = some (.int .i64 (t 3)) := fun x h => (blk6 h.var).2.2.2.2.1
    have ra5 : ∀ x, D2 w (w.heap.size + 1 + 1) a n c w2.heap.size L.length t d ((m2 : Nat)) (t2) x → x.cell? ⟨w2.heap.size, 5, none⟩ = some (.int .i64 (t 4)) := fun x h => (blk6 h.var).2.2.2.2.2
    have rb0 : ∀ x, D2 w (w.heap.size + 1 + 1) a n c w2.heap.size L.length t d ((m2 : Nat)) (t2) x → x.cell? ⟨d, 0, none⟩ = some (.int .i64 ((m2 : Nat))) := fun x h => (blk6 h.two).1
    have rb1 : ∀ x, D2 w (w.heap.size + 1 + 1) a n c w2.heap.size L.length t d ((m2 : Nat)) (t2) x → x.cell? ⟨d, 1, none⟩ = some (.int .i64 ((t2) 0)) := fun x h => (blk6 h.two).2.1
    have rb2 : ∀ x, D2 w (w.heap.size + 1 + 1) a n c w2.heap.size L.length t d ((m2 : Nat)) (t2) x → x.cell? ⟨d, 2, none⟩ = some (.int .i64 ((t2) 1)) := fun x h => (blk6 h.two).2.2.1
    have rb3 : ∀ x, D2 w (w.heap.size + 1 + 1) a n c w2.heap.size L.length t d ((m2 : Nat)) (t2) x → x.cell? ⟨d, 3, none⟩ = some (.int .i64 ((t2) 2)) := fun x h => (blk6 h.two).2.2.2.1
    have rb4 : ∀ x, D2 w (w.heap.size + 1 + 1) a n c w2.heap.size L.length t d ((m2 : Nat)) (t2) x → x.cell? ⟨d, 4, none⟩ = some (.int .i64 ((t2) 3)) := fun x h => (blk6 h.two).2.2.2.2.1
    have rb5 : ∀ x, D2 w (w.heap.size + 1 + 1) a n c w2.heap.size L.length t d ((m2 : Nat)) (t2) x → x.cell? ⟨d, 5, none⟩ = some (.int .i64 ((t2) 4)) := fun x h => (blk6 h.two).2.2.2.2.2
    have qa0 : ∀ x, D2 w (w.heap.size + 1 + 1) a n c w2.heap.size L.length t d ((m2 : Nat)) (t2) x → x.cell? ⟨w.heap.size, 0, none⟩ = some (.int .i64 0) := fun x h => (blk6 h.res0).1
    have qa1 : ∀ x, D2 w (w.heap.size + 1 + 1) a n c w2.heap.size L.length t d ((m2 : Nat)) (t2) x → x.cell? ⟨w.heap.size, 1, none⟩ = some (.int .i64 0) := fun x h => (blk6 h.res0).2.1
    have qa2 : ∀ x, D2 w (w.heap.size + 1 + 1) a n c w2.heap.size L.length t d ((m2 : Nat)) (t2) x → x.cell? ⟨w.heap.size, 2, none⟩ = some (.int .i64 0) := fun x h => (blk6 h.res0).2.2.1
    have qa3 : ∀ x, D2 w (w.heap.size + 1 + 1) a n c w2.heap.size L.length t d ((m2 : Nat)) (t2) x → x.cell? ⟨w.heap.size, 3, none⟩ = some (.int .i64 0) := fun x h => (blk6 h.res0).2.2.2.1
    have qa4 : ∀ x, D2 w (w.heap.size + 1 + 1) a n c w2.heap.size L.length t d ((m2 : Nat)) (t2) x → x.cell? ⟨w.heap.size, 4, none⟩ = some (.int .i64 0) := fun x h => (blk6 h.res0).2.2.2.2.1
    have qa5 : ∀ x, D2 w (w.heap.size + 1 + 1) a n c w2.heap.size L.length t d ((m2 : Nat)) (t2) x → x.cell? ⟨w.heap.size, 5, none⟩ = some (.int .i64 0) := fun x h => (blk6 h.res0).2.2.2.2.2
    have qb0 : ∀ x, D2 w (w.heap.size + 1 + 1) a n c w2.heap.size L.length t d ((m2 : Nat)) (t2) x → x.cell? ⟨w.heap.size + 1, 0, none⟩ = some (.int .i64 0) := fun x h => (blk6 h.res1).1
    have qb1 : ∀ x, D2 w (w.heap.size + 1 + 1) a n c w2.heap.size L.length t d ((m2 : Nat)) (t2) x → x.cell? ⟨w.heap.size + 1, 1, none⟩ = some (.int .i64 0) := fun x h => (blk6 h.res1).2.1
    have qb2 : ∀ x, D2 w (w.heap.size + 1 + 1) a n c w2.heap.size L.length t d ((m2 : Nat)) (t2) x → x.cell? ⟨w.heap.size + 1, 2, none⟩ = some (.int .i64 0) := fun x h => (blk6 h.res1).2.2.1
    have qb3 : ∀ x, D2 w (w.heap.size + 1 + 1) a n c w2.heap.size L.length t d ((m2 : Nat)) (t2) x → x.cell? ⟨w.heap.size + 1, 3, none⟩ = some (.int .i64 0) := fun x h => (blk6 h.res1).2.2.2.1
    have qb4 : ∀ x, D2 w (w.heap.size + 1 + 1) a n c w2.heap.size L.length t d ((m2 : Nat)) (t2) x → x.cell? ⟨w.heap.size + 1, 4, none⟩ = some (.int .i64 0) := fun x h => (blk6 h.res1).2.2.2.2.1
    have qb5 : ∀ x, D2 w (w.heap.size + 1 + 1) a n c w2.heap.size L.length t d ((m2 : Nat)) (t2) x → x.cell? ⟨w.heap.size + 1, 5, none⟩ = some (.int .i64 0) := fun x h => (blk6 h.res1).2.2.2.2.2
    have qf : ∀ x, D2 w (w.heap.size + 1 + 1) a n c w2.heap.size L.length t d ((m2 : Nat)) (t2) x → ∀ i, x.frozen? ⟨w.heap.size, i, none⟩ = false := fun x h i => blk_free h.res0 i
    have qg : ∀ x, D2 w (w.heap.size + 1 + 1) a n c w2.heap.size L.length t d ((m2 : Nat)) (t2) x → ∀ i, x.frozen? ⟨w.heap.size + 1, i, none⟩ = false := fun x h i => blk_free h.res1 i
    have HDd := D2.under HD8.out (Below.drew (Below.refl _ _))
    go_region_law (first
      | (go_simp; go_at_call 55; refine (bad_any _ a n c _ _ _ HN.src).mono ?_; rintro e w9 ⟨P2, T2, rfl, hg, hs⟩; simp only [mv, mcells]; have HP := HN.next hg hs; clear hg hs)
      | (go_simp; go_at_call 55; refine (bad_any _ a n c _ _ _ HDd.src).mono ?_; rintro e w8 ⟨P1, T1, rfl, hg, hs⟩; simp only [mv, mcells]; have HN := HDd.next hg hs; clear hg hs))
    all_goals
      obtain ⟨y0, y1, y2, y3, y4, y5⟩ := blk6 HP.res0
      obtain ⟨v0, v1, v2, v3, v4, v5⟩ := blk6 HP.res1
      have HB9 := Lib.hid HP.below
      clear ra0 ra1 ra2 ra3 ra4 ra5 rb0 rb1 rb2 rb3 rb4 rb5 qa0 qa1 qa2 qa3 qa4 qa5 qb0 qb1 qb2 qb3 qb4 qb5 qf qg HDd HN HP
      go_wp2_with fail
      refine bodyPost_ret (v := .tuple #[mv P1 T1, mv P2 T2]) (by simp [results, Try.results23, go_sem, y0, y1, y2, y3, y4, y5, v0, v1, v2, v3, v4, v5]) rfl ⟨P1, T1, P2, T2, rfl, ?_⟩
      (repeat' (first | (with_reducible exact Below.refl _ _) | (with_reducible refine Below.alloc ?_ ?_ _) | (with_reducible refine Below.setCell ?_ ?_ _) | (with_reducible refine Below.drew ?_) | (with_reducible refine below_drewN ?_ _) | (with_reducible refine Below.trans ?_ (Below.mono (Hid.out (by assumption)) ?_)) | omega | (simp; done) | (simp; omega)))
  · have hy' : (y == 0) = false := by simpa using hy
    go_wp2_with fail
    have ra0 : ∀ x, D2 w (w.heap.size + 1 + 1) a n c w2.heap.size L.length t d ((L.length : Nat)) (tL L) x → x.cell? ⟨w2.heap.size, 0, none⟩ = some (.int .i64 (L.length : Nat)) := fun x h => (blk6 h.var).1
    have ra1 : ∀ x, D2 w (w.heap.size + 1 + 1) a n c w2.heap.size L.length t d ((L.length : Nat)) (tL L) x → x.cell? ⟨w2.heap.size, 1, none⟩ = some (.int .i64 (t 0)) := fun x h => (blk6 h.var).2.1
    have ra2 : ∀ x, D2 w (w.heap.size + 1 + 1) a n c w2.heap.size L.length t d ((L.length : Nat)) (tL L) x → x.cell? ⟨w2.heap.size, 2, none⟩ = some (.int .i64 (t 1)) := fun x h => (blk6 h.var).2.2.1
    have ra3 : ∀ x, D2 w (w.heap.size + 1 + 1) a n c w2.heap.size L.length t d ((L.length : Nat)) (tL L) x → x.cell? ⟨w2.heap.size, 3, none⟩ = some (.int .i64 (t 2)) := fun x h => (blk6 h.var).2.2.2.1
    have ra4 : ∀ x, D2 w (w.heap.size + 1 + 1) a n c w2.heap.size L.length t d ((L.length : Nat)) (tL L) x → x.cell? ⟨w2.heap.size, 4, none⟩ = some (.int .i64 (t 3)) := fun x h => (blk6 h.var).2.2.2.2.1
    have ra5 : ∀ x, D2 w (w.heap.size + 1 + 1) a n c w2.heap.size L.length t d ((L.length : Nat)) (tL L) x → x.cell? ⟨w2.heap.size, 5, none⟩ = some (.int .i64 (t 4)) := fun x h => (blk6 h.var).2.2.2.2.2
    have rb0 : ∀ x, D2 w (w.heap.size + 1 + 1) a n c w2.heap.size L.length t d ((L.length : Nat)) (tL L) x → x.cell? ⟨d, 0, none⟩ = some (.int .i64 ((L.length : Nat))) := fun x h => (blk6 h.two).1
    have rb1 : ∀ x, D2 w (w.heap.size + 1 + 1) a n c w2.heap.size L.length t d ((L.length : Nat)) (tL L) x → x.cell? ⟨d, 1, none⟩ = some (.int .i64 ((tL L) 0)) := fun x h => (blk6 h.two).2.1
    have rb2 : ∀ x, D2 w (w.heap.size + 1 + 1) a n c w2.heap.size L.length t d ((L.length : Nat)) (tL L) x → x.cell? ⟨d, 2, none⟩ = some (.int .i64 ((tL L) 1)) := fun x h => (blk6 h.two).2.2.1
    have rb3 : ∀ x, D2 w (w.heap.size + 1 + 1) a n c w2.heap.size L.length t d ((L.length : Nat)) (tL L) x → x.cell? ⟨d, 3, none⟩ = some (.int .i64 ((tL L) 2)) := fun x h => (blk6 h.two).2.2.2.1
    have rb4 : ∀ x, D2 w (w.heap.size + 1 + 1) a n c w2.heap.size L.length t d ((L.length : Nat)) (tL L) x → x.cell? ⟨d, 4, none⟩ = some (.int .i64 ((tL L) 3)) := fun x h => (blk6 h.two).2.2.2.2.1
    have rb5 : ∀ x, D2 w (w.heap.size + 1 + 1) a n c w2.heap.size L.length t d ((L.length : Nat)) (tL L) x → x.cell? ⟨d, 5, none⟩ = some (.int .i64 ((tL L) 4)) := fun x h => (blk6 h.two).2.2.2.2.2
    have qa0 : ∀ x, D2 w (w.heap.size + 1 + 1) a n c w2.heap.size L.length t d ((L.length : Nat)) (tL L) x → x.cell? ⟨w.heap.size, 0, none⟩ = some (.int .i64 0) := fun x h => (blk6 h.res0).1
    have qa1 : ∀ x, D2 w (w.heap.size + 1 + 1) a n c w2.heap.size L.length t d ((L.length : Nat)) (tL L) x → x.cell? ⟨w.heap.size, 1, none⟩ = some (.int .i64 0) := fun x h => (blk6 h.res0).2.1
    have qa2 : ∀ x, D2 w (w.heap.size + 1 + 1) a n c w2.heap.size L.length t d ((L.length : Nat)) (tL L) x → x.cell? ⟨w.heap.size, 2, none⟩ = some (.int .i64 0) := fun x h => (blk6 h.res0).2.2.1
    have qa3 : ∀ x, D2 w (w.heap.size + 1 + 1) a n c w2.heap.size L.length t d ((L.length : Nat)) (tL L) x → x.cell? ⟨w.heap.size, 3, none⟩ = some (.int .i64 0) := fun x h => (blk6 h.res0).2.2.2.1
    have qa4 : ∀ x, D2 w (w.heap.size + 1 + 1) a n c w2.heap.size L.length t d ((L.length : Nat)) (tL L) x → x.cell? ⟨w.heap.size, 4, none⟩ = some (.int .i64 0) := fun x h => (blk6 h.res0).2.2.2.2.1
    have qa5 : ∀ x, D2 w (w.heap.size + 1 + 1) a n c w2.heap.size L.length t d ((L.length : Nat)) (tL L) x → x.cell? ⟨w.heap.size, 5, none⟩ = some (.int .i64 0) := fun x h => (blk6 h.res0).2.2.2.2.2
    have qb0 : ∀ x, D2 w (w.heap.size + 1 + 1) a n c w2.heap.size L.length t d ((L.length : Nat)) (tL L) x → x.cell? ⟨w.heap.size + 1, 0, none⟩ = some (.int .i64 0) := fun x h => (blk6 h.res1).1
    have qb1 : ∀ x, D2 w (w.heap.size + 1 + 1) a n c w2.heap.size L.length t d ((L.length : Nat)) (tL L) x → x.cell? ⟨w.heap.size + 1, 1, none⟩ = some (.int .i64 0) := fun x h => (blk6 h.res1).2.1
    have qb2 : ∀ x, D2 w (w.heap.size + 1 + 1) a n c w2.heap.size L.length t d ((L.length : Nat)) (tL L) x → x.cell? ⟨w.heap.size + 1, 2, none⟩ = some (.int .i64 0) := fun x h => (blk6 h.res1).2.2.1
    have qb3 : ∀ x, D2 w (w.heap.size + 1 + 1) a n c w2.heap.size L.length t d ((L.length : Nat)) (tL L) x → x.cell? ⟨w.heap.size + 1, 3, none⟩ = some (.int .i64 0) := fun x h => (blk6 h.res1).2.2.2.1
    have qb4 : ∀ x, D2 w (w.heap.size + 1 + 1) a n c w2.heap.size L.length t d ((L.length : Nat)) (tL L) x → x.cell? ⟨w.heap.size + 1, 4, none⟩ = some (.int .i64 0) := fun x h => (blk6 h.res1).2.2.2.2.1
    have qb5 : ∀ x, D2 w (w.heap.size + 1 + 1) a n c w2.heap.size L.length t d ((L.length : Nat)) (tL L) x → x.cell? ⟨w.heap.size + 1, 5, none⟩ = some (.int .i64 0) := fun x h => (blk6 h.res1).2.2.2.2.2
    have qf : ∀ x, D2 w (w.heap.size + 1 + 1) a n c w2.heap.size L.length t d ((L.length : Nat)) (tL L) x → ∀ i, x.frozen? ⟨w.heap.size, i, none⟩ = false := fun x h i => blk_free h.res0 i
    have qg : ∀ x, D2 w (w.heap.size + 1 + 1) a n c w2.heap.size L.length t d ((L.length : Nat)) (tL L) x → ∀ i, x.frozen? ⟨w.heap.size + 1, i, none⟩ = false := fun x h i => blk_free h.res1 i
    have HDd := D2.under HD6.out (Below.drew (Below.refl _ _))
    go_region_law (first
      | (go_simp; go_at_call 55; refine (bad_any _ a n c _ _ _ HN.src).mono ?_; rintro e w9 ⟨P2, T2, rfl, hg, hs⟩; simp only [mv, mcells]; have HP := HN.next hg hs; clear hg hs)
      | (go_simp; go_at_call 55; refine (bad_any _ a n c _ _ _ HDd.src).mono ?_; rintro e w8 ⟨P1, T1, rfl, hg, hs⟩; simp only [mv, mcells]; have HN := HDd.next hg hs; clear hg hs))
    all_goals
      obtain ⟨y0, y1, y2, y3, y4, y5⟩ := blk6 HP.res0
      obtain ⟨v0, v1, v2, v3, v4, v5⟩ := blk6 HP.res1
      have HB9 := Lib.hid HP.below
      clear ra0 ra1 ra2 ra3 ra4 ra5 rb0 rb1 rb2 rb3 rb4 rb5 qa0 qa1 qa2 qa3 qa4 qa5 qb0 qb1 qb2 qb3 qb4 qb5 qf qg HDd HN HP
      go_wp2_with fail
      refine bodyPost_ret (v := .tuple #[mv P1 T1, mv P2 T2]) (by simp [results, Try.results23, go_sem, y0, y1, y2, y3, y4, y5, v0, v1, v2, v3, v4, v5]) rfl ⟨P1, T1, P2, T2, rfl, ?_⟩
      (repeat' (first | (with_reducible exact Below.refl _ _) | (with_reducible refine Below.alloc ?_ ?_ _) | (with_reducible refine Below.setCell ?_ ?_ _) | (with_reducible refine Below.drew ?_) | (with_reducible refine below_drewN ?_ _) | (with_reducible refine Below.trans ?_ (Below.mono (Hid.out (by assumption)) ?_)) | omega | (simp; done) | (simp; omega)))

end Go.Proofs.Ythblbamiammodaa
