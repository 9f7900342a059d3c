/- The draws of maps: the contract of spec.l01DrawOf, over that of spec.l01DrawOrder. The contract of spec.l01DrawOrder. The contracts of spec.l01Draw, spec.l01Bad and spec.l01Spoil. The contracts of spec.l01Bad and spec.l01Spoil. The contract of spec.l01Spoil, and of the draws that are it alone. -/
import Derived.Test.YthblbamiammodaaSrc
import Derived.Test.YthblbamiammodaaSl
import Derived.Test.YthblbamiammodaaOwn
import Derived.Test.YthblbamiammodaaPow
import Derived.Deep.RegionLaw
import Derived.Maps.AppendAt
import Derived.Deep.Onto
import Derived.Deep.RegionHeld3
namespace Go.Proofs.Ythblbamiammodaa
open Go.RowKit

/-- What spec.l01DrawOrder leaves: a list of m numbers of its own. -/
def OrderC : Prop := ∀ (s : Nat) (a : Option Addr) (n c m : Nat), m ≤ 5 → ∀ w : World, Src w s a n c →
    Calls Try.prog 54 #[.pointer (some ⟨s, 0, none⟩), .int .i64 m] w fun e w' => ∃ v L, e = .returned v ∧ L.length = m ∧ Own w' w.heap.size v L ∧ w.grownBy w' (some s) ∧ Src w' s a n c

/-- Between two steps of a draw: the result's cell is not written yet, the map that is drawn lies behind it. -/
structure St (w : World) (s : Nat) (a : Option Addr) (n c m : Nat) (t : Nat → Int) (wr : World) : Prop where
  res : wr.heap[w.heap.size]? = some (.cells (mcells 0 fun _ => 0) 26 (0, 0))
  out : wr.heap[w.heap.size + 1]? = some (.cells (mcells m t) 26 (0, 0))
  src : Src wr s a n c
  grown : w.grownBy wr (some s)

/-- What lies below w's end stays, but for block s; r lies above, or is s. -/
theorem grown_above {w wr w' : World} {s r : Nat} (h : w.grownBy wr (some s)) (hg : wr.grownBy w' (some r)) (hr : w.heap.size ≤ r ∨ r = s) : w.grownBy w' (some s) :=
  ⟨hg.os.trans h.os, hg.tape.trans h.tape, hg.output.trans h.output, Nat.le_trans h.size hg.size, fun k hk hne => (hg.block k (Nat.lt_of_lt_of_le hk h.size) (fun e => by
    cases e
    rcases hr with hr | hr
    · omega
    · exact hne (by rw [hr]))).trans (h.block k hk hne)⟩

theorem grown_below {w wr w' : World} {s : Nat} (h : w.grownBy wr (some s)) (hg : Below wr.heap.size wr w') : w.grownBy w' (some s) :=
  ⟨hg.os.trans h.os, hg.tape.trans h.tape, hg.output.trans h.output, Nat.le_trans h.size hg.size, fun k hk hne => (hg.block k (Nat.lt_of_lt_of_le hk h.size)).trans (h.block k hk hne)⟩

variable {w wr w1 : World} {s n c m : Nat} {a : Option Addr} {t : Nat → Int}

theorem St.next (h : St w s a n c m t wr) (hlt : s < w.heap.size) (hg : wr.grownBy w1 (some s)) (hs : Src w1 s a n c) : St w s a n c m t w1 :=
  ⟨(hg.block _ (Array.getElem?_eq_some_iff.1 h.res).1 (fun e => by injection e with e; omega)).trans h.res, (hg.block _ (Array.getElem?_eq_some_iff.1 h.out).1 (fun e => by injection e with e; omega)).trans h.out, hs, h.grown.trans hg⟩

theorem St.below (h : St w s a n c m t wr) (hg : Below wr.heap.size wr w1) : St w s a n c m t w1 :=
  ⟨(hg.block _ (Array.getElem?_eq_some_iff.1 h.res).1).trans h.res, (hg.block _ (Array.getElem?_eq_some_iff.1 h.out).1).trans h.out, h.src.below hg, grown_below h.grown hg⟩

theorem St.set (h : St w s a n c m t wr) (hlt : s < w.heap.size) (k : Nat) (hk : k < 5) (x : Int) : St w s a n c m (upd t k x) (wr.setCell ⟨w.heap.size + 1, 1 + k, none⟩ (.int .i64 x)) :=
  ⟨(hset_ne _ _ _ _ (by simp)).trans h.res, blk_set h.out k hk x, h.src.grown (grown_set _ _ _ _) (by omega), grown_above h.grown (grown_set _ _ _ _) (Or.inl (by omega))⟩

theorem grown_six (w : World) (b : Nat) (x0 x1 x2 x3 x4 x5 : Value) : w.grownBy ((((((w.setCell ⟨b, 0, none⟩ x0).setCell ⟨b, 1, none⟩ x1).setCell ⟨b, 2, none⟩ x2).setCell ⟨b, 3, none⟩ x3).setCell ⟨b, 4, none⟩ x4).setCell ⟨b, 5, none⟩ x5) (some b) :=
  (((((grown_set _ _ _ _).trans (grown_set _ _ _ _)).trans (grown_set _ _ _ _)).trans (grown_set _ _ _ _)).trans (grown_set _ _ _ _)).trans (grown_set _ _ _ _)

theorem St.whole (h : St w s a n c m t wr) (hlt : s < w.heap.size) (r : Nat → Int) :
    St w s a n c m r ((((((wr.setCell ⟨w.heap.size + 1, 0, none⟩ (.int .i64 m)).setCell ⟨w.heap.size + 1, 1, none⟩ (.int .i64 (r 0))).setCell ⟨w.heap.size + 1, 2, none⟩ (.int .i64 (r 1))).setCell ⟨w.heap.size + 1, 3, none⟩ (.int .i64 (r 2))).setCell ⟨w.heap.size + 1, 4, none⟩ (.int .i64 (r 3))).setCell ⟨w.heap.size + 1, 5, none⟩ (.int .i64 (r 4))) :=
  ⟨((grown_six wr (w.heap.size + 1) _ _ _ _ _ _).block _ (Array.getElem?_eq_some_iff.1 h.res).1 (fun e => by injection e with e; omega)).trans h.res,
    Joins.block_setCell (Joins.block_setCell (Joins.block_setCell (Joins.block_setCell (Joins.block_setCell (Joins.block_setCell h.out _) _) _) _) _) _,
    h.src.grown (grown_six _ _ _ _ _ _ _ _) (by omega), grown_above h.grown (grown_six _ _ _ _ _ _ _ _) (Or.inl (by omega))⟩

theorem St.fin (h : St w s a n c m t wr) (hlt : s < w.heap.size) (x0 x1 x2 x3 x4 x5 : Value) :
    w.grownBy ((((((wr.setCell ⟨w.heap.size, 0, none⟩ x0).setCell ⟨w.heap.size, 1, none⟩ x1).setCell ⟨w.heap.size, 2, none⟩ x2).setCell ⟨w.heap.size, 3, none⟩ x3).setCell ⟨w.heap.size, 4, none⟩ x4).setCell ⟨w.heap.size, 5, none⟩ x5) (some s) ∧
      Src ((((((wr.setCell ⟨w.heap.size, 0, none⟩ x0).setCell ⟨w.heap.size, 1, none⟩ x1).setCell ⟨w.heap.size, 2, none⟩ x2).setCell ⟨w.heap.size, 3, none⟩ x3).setCell ⟨w.heap.size, 4, none⟩ x4).setCell ⟨w.heap.size, 5, none⟩ x5) s a n c :=
  ⟨grown_above h.grown (grown_six _ _ _ _ _ _ _ _) (Or.inl (Nat.le_refl _)), h.src.grown (grown_six _ _ _ _ _ _ _ _) hlt⟩

theorem St.start (hS : Src w s a n c) : St w s a n c m (fun _ => 0) ((w.alloc (.cells (mcells 0 fun _ => 0) 26)).alloc (.cells (mcells m fun _ => 0) 26)) := by
  have hb : Below w.heap.size w ((w.alloc (.cells (mcells 0 fun _ => 0) 26)).alloc (.cells (mcells m fun _ => 0) 26)) := ((Below.refl _ _).alloc (Nat.le_refl _) _).alloc (by simp) _
  exact ⟨(halloc_lt _ _ _ (by simp)).trans (halloc_at _ _ _ rfl), halloc_at _ _ _ (by simp), hS.below hb, grown_below (World.grownBy.refl _ _) hb⟩

/-- A map of m points is left, and the source has gone on. -/
def RetDraw (s : Nat) (a : Option Addr) (n c m : Nat) (w : World) (e : Ending) (w' : World) : Prop := ∃ t, e = .returned (mv m t) ∧ w.grownBy w' (some s) ∧ Src w' s a n c

set_option maxRecDepth 100000 in
set_option maxHeartbeats 2000000 in
theorem drawOf_any (HO : OrderC) (s : Nat) (a : Option Addr) (n c m : Nat) (h1 : 1 ≤ m) (h5 : m ≤ 5) (w : World) (hS : Src w s a n c) :
    Calls Try.prog 74 #[.pointer (some ⟨s, 0, none⟩), .int .i64 m] w (RetDraw s a n c m w) := by
  have hlt := hS.lt
  have HO := Lib.hid HO
  have HT0 := Lib.hid (St.start (m := m) hS)
  have h1' : (1 : Int) ≤ (m : Int) := by omega
  have h5' : (m : Int) ≤ 5 := by omega
  clear hS
  go_enter Try.func74, Try.ntmps74
  go_wp2_with fail
  refine (next_any s a n c 6 _ HT0.out.src).mono ?_
  rintro e w1 ⟨x, rfl, hx0, hx1, hg, hs⟩
  have HT := Lib.hid (HT0.out.next hlt hg hs)
  clear hg hs HT0
  by_cases c0 : x = 0
  · subst c0
    go_wp2_with fail
    refine (HO.out s a n c m h5 _ HT.out.src).mono ?_
    rintro e w2 ⟨v, L, rfl, hL, hown, hg, hs⟩
    subst hL
    have HT2 := Lib.hid (HT.out.next hlt hg hs)
    obtain ⟨aa, cap, rfl, hrd⟩ := own_rd hown (by omega)
    have hin : InRow w2 aa L := by
      rcases hrd.2 with h | ⟨g, rfl, _, hg2, hc⟩
      · exact Or.inl h
      · exact Or.inr ⟨g, 0, rfl, hg2, fun i hi => by rw [Nat.zero_add]; exact (hc i hi).1⟩
    have HIN := Lib.hid hin
    clear hg hs HT hown hin hrd
    go_wp2_with fail
    refine (made_any L h1 h5 _ _ w2 HIN.out).mono ?_
    rintro e w3 ⟨rfl, hb⟩
    simp only [mv, mcells]
    have HT3 := Lib.hid (HT2.out.below hb)
    obtain ⟨y0, y1, y2, y3, y4, y5⟩ := blk6 HT3.out.res
    have hfr := blk_free HT3.out.res
    clear hb HT2
    go_wp2_with fail
    refine bodyPost_ret (v := mv L.length (tL L)) (by simp [results, Try.results74, go_sem, y0, y1, y2, y3, y4, y5]) rfl ⟨tL L, rfl, HT3.out.fin hlt _ _ _ _ _ _⟩
  have c0' : (x == 0) = false := by simpa using c0
  by_cases c1 : x = 1
  · subst c1
    go_wp2_with fail
    refine (sid_any m h1' h5' _).mono ?_
    rintro e w2 ⟨rfl, hb⟩
    simp only [mv, mcells]
    have HT2 := Lib.hid (HT.out.below hb)
    obtain ⟨y0, y1, y2, y3, y4, y5⟩ := blk6 HT2.out.out
    have hfr := blk_free HT2.out.out
    have HT3 := Lib.hid (HT2.out.whole hlt (idn m))
    clear hb HT
    go_wp2_with fail
    refine (next_any s a n c m _ HT3.out.src).mono ?_
    rintro e w3 ⟨y, rfl, hy0, hy1, hg, hs⟩
    have HT4 := Lib.hid (HT3.out.next hlt hg hs)
    obtain ⟨q, rfl⟩ := Int.eq_ofNat_of_zero_le hy0
    have hqm : q < m := by have := hy1 h1'; omega
    have hq5 : (q : Int) < 5 := by omega
    clear hg hs HT2 HT3 y0 y1 y2 y3 y4 y5 hfr hy0 hy1
    go_wp2_with fail
    go_loopw [7] (fun i wr => ∃ (k : Nat) (t : Nat → Int), k ≤ m ∧ i = .int .i64 k ∧ St w s a n c m t wr) (fun i _ => m - (intOf i).toNat)
    case atStart => exact ⟨0, _, by omega, rfl, HT4.out⟩
    case round =>
      obtain ⟨k, t, hk, rfl, hst⟩ := hrel
      have HST := Lib.hid hst
      by_cases hkm : k < m
      · have hkm' : (k : Int) < (m : Int) := by omega
        have hk5 : (k : Int) < 5 := by omega
        clear hst
        go_wp2_with fail
        refine (next_any s a n c 2 _ HST.out.src).mono ?_
        rintro e w4 ⟨y, rfl, hy0, hy1, hg, hs⟩
        have HT5 := Lib.hid (HST.out.next hlt hg hs)
        have hok := blk_at HT5.out.out k (by omega)
        have hfr := blk_free HT5.out.out (1 + k)
        clear hg hs HST
        by_cases d : y = 0
        · subst d
          go_wp2_with fail
          go_roundw
          case rel => exact ⟨k + 1, _, hkm, by go_num, HT5.out.set hlt k (by omega) q⟩
          case measure => simp [intOf]; omega
        · have d' : (y == 0) = false := by simpa using d
          go_wp2_with fail
          go_roundw
          case rel => exact ⟨k + 1, _, hkm, by go_num, HT5.out⟩
          case measure => simp [intOf]; omega
      · obtain rfl : k = m := by omega
        have hok := blk_at hst.out q (by omega)
        have hfr := blk_free hst.out (1 + q)
        have HT5 := Lib.hid (hst.set hlt q (by omega) q)
        obtain ⟨y0, y1, y2, y3, y4, y5⟩ := blk6 HT5.out.res
        obtain ⟨z0, z1, z2, z3, z4, z5⟩ := blk6 HT5.out.out
        have hfr2 := blk_free HT5.out.res
        clear hst
        go_wp2_with fail
        refine bodyPost_ret (v := mv k (upd t q q)) (by simp [results, Try.results74, go_sem, y0, y1, y2, y3, y4, y5]) rfl ⟨_, rfl, HT5.out.fin hlt _ _ _ _ _ _⟩
  have c1' : (x == 1) = false := by simpa using c1
  by_cases c2 : x = 2
  · subst c2
    go_wp2_with fail
    refine (next_any s a n c m _ HT.out.src).mono ?_
    rintro e w2 ⟨A2, rfl, hy0, hy1, hg, hs⟩
    have HT2 := Lib.hid (HT.out.next hlt hg hs)
    clear hg hs hy0 hy1 HT
    go_wp2_with fail
    refine (next_any s a n c m _ HT2.out.src).mono ?_
    rintro e w3 ⟨B2, rfl, hy0, hy1, hg, hs⟩
    have HT3 := Lib.hid (HT2.out.next hlt hg hs)
    clear hg hs hy0 hy1 HT2
    go_wp2_with fail
    go_loopw [10] (fun i wr => ∃ (k : Nat) (t : Nat → Int), k ≤ m ∧ i = .int .i64 k ∧ St w s a n c m t wr) (fun i _ => m - (intOf i).toNat)
    case atStart => exact ⟨0, _, by omega, rfl, HT3.out⟩
    case round =>
      obtain ⟨k, t, hk, rfl, hst⟩ := hrel
      have HST := Lib.hid hst
      by_cases hkm : k < m
      · have hkm' : (k : Int) < (m : Int) := by omega
        have hk5 : (k : Int) < 5 := by omega
        have HSA := Lib.hid (hst.below (w1 := wr.alloc (.cells #[.int .i64 A2, .int .i64 B2] 2)) ((Below.refl _ _).alloc (Nat.le_refl _) _))
        have hsr := hst.src.lt
        clear hst
        go_wp2_with fail
        refine (pick_any s a n c wr.heap.size 2 2 (fun i => if i = 0 then A2 else B2) (by omega) (by omega) _ HSA.out.src (by omega) ?_).mono ?_
        · intro i hi
          have e := Joins.cell_of_block (halloc_at wr (.cells #[.int .i64 A2, .int .i64 B2] 2) _ rfl) i
          rcases (by omega : i = 0 ∨ i = 1) with rfl | rfl <;> exact e
        rintro e w4 ⟨j, hj, rfl, hg, hs⟩
        have HT5 := Lib.hid (HSA.out.next hlt hg hs)
        have hok := blk_at HT5.out.out k (by omega)
        have hfr := blk_free HT5.out.out (1 + k)
        generalize (if j = 0 then A2 else B2) = X at *
        clear hg hs HST HSA
        go_wp2_with fail
        go_roundw
        case rel => exact ⟨k + 1, _, hkm, by go_num, HT5.out.set hlt k (by omega) X⟩
        case measure => simp [intOf]; omega
      · obtain rfl : k = m := by omega
        obtain ⟨y0, y1, y2, y3, y4, y5⟩ := blk6 hst.res
        obtain ⟨z0, z1, z2, z3, z4, z5⟩ := blk6 hst.out
        have hfr := blk_free hst.res
        clear hst
        go_wp2_with fail
        refine bodyPost_ret (v := mv k t) (by simp [results, Try.results74, go_sem, y0, y1, y2, y3, y4, y5]) rfl ⟨t, rfl, HST.out.fin hlt _ _ _ _ _ _⟩
  · have c2' : (x == 2) = false := by simpa using c2
    go_wp2_with fail
    go_loopw [11] (fun i wr => ∃ (k : Nat) (t : Nat → Int), k ≤ m ∧ i = .int .i64 k ∧ St w s a n c m t wr) (fun i _ => m - (intOf i).toNat)
    case atStart => exact ⟨0, _, by omega, rfl, HT.out⟩
    case round =>
      obtain ⟨k, t, hk, rfl, hst⟩ := hrel
      have HST := Lib.hid hst
      by_cases hkm : k < m
      · have hkm' : (k : Int) < (m : Int) := by omega
        have hk5 : (k : Int) < 5 := by omega
        clear hst
        go_wp2_with fail
        refine (next_any s a n c m _ HST.out.src).mono ?_
        rintro e w3 ⟨y, rfl, hy0, hy1, hg, hs⟩
        have HT3 := Lib.hid (HST.out.next hlt hg hs)
        have hok := blk_at HT3.out.out k (by omega)
        have hfr := blk_free HT3.out.out (1 + k)
        clear hg hs HST
        go_wp2_with fail
        go_roundw
        case rel => exact ⟨k + 1, _, hkm, by go_num, HT3.out.set hlt k (by omega) y⟩
        case measure => simp [intOf]; omega
      · obtain rfl : k = m := by omega
        obtain ⟨y0, y1, y2, y3, y4, y5⟩ := blk6 hst.res
        obtain ⟨z0, z1, z2, z3, z4, z5⟩ := blk6 hst.out
        have hfr := blk_free hst.res
        clear hst
        go_wp2_with fail
        refine bodyPost_ret (v := mv k t) (by simp [results, Try.results74, go_sem, y0, y1, y2, y3, y4, y5]) rfl ⟨t, rfl, HST.out.fin hlt _ _ _ _ _ _⟩

end Go.Proofs.Ythblbamiammodaa

namespace Go.Proofs.Ythblbamiammodaa
open Go.RowKit

set_option maxRecDepth 100000 in
set_option maxHeartbeats 2000000 in
theorem order_any : OrderC := fun s a n c m h5 w hS => by
  have hlt := hS.lt
  have HS := Lib.hid hS
  have h5' : (m : Int) ≤ 5 := by omega
  obtain ⟨i0, hi, hz0, hz1, hz2⟩ := info_parts info_int
  clear hS
  go_enter Try.func54, Try.ntmps54
  go_wp2_with fail
  go_loopw [5, 6, 7] (fun v i _ wr => ∃ (k : Nat) (L : List Int) (g cap : Nat), k ≤ m ∧ i = .int .i64 k ∧ v = .slice (some ⟨g, 0, none⟩) k cap ∧ L.length = k ∧ k ≤ cap ∧ cap ≤ maxLen ∧ Own wr w.heap.size v L ∧ w.grownBy wr (some s) ∧ Src wr s a n c) (fun _ i _ _ => m - (intOf i).toNat)
  case atStart =>
    have hb : Below w.heap.size w (w.alloc (.cells #[] 2)) := (Below.refl _ _).alloc (Nat.le_refl _) _
    exact ⟨0, [], _, 0, by omega, rfl, rfl, rfl, Nat.le_refl _, Nat.zero_le _, own_empty w _ (Nat.le_refl _), grown_below (World.grownBy.refl _ _) hb, HS.out.below hb⟩
  case round =>
    obtain ⟨k, L, g, cap, hk, rfl, rfl, hL, hkc, hcm, hown, hgr, hsr⟩ := hrel
    have hgB := (hown.lt g rfl).1
    by_cases hkm : k < m
    · have hkm' : (k : Int) < (m : Int) := by omega
      have HSR := Lib.hid hsr
      have HO := Lib.hid hown
      have HG := Lib.hid hgr
      clear hown hgr hsr
      go_wp2_with fail
      refine (next_any s a n c _ _ HSR.out).mono ?_
      rintro e wq ⟨y, rfl, hy0, hy1, hg, hs⟩
      obtain ⟨q, rfl⟩ := Int.eq_ofNat_of_zero_le hy0
      have hqk : q ≤ k := by have := hy1 (by omega); omega
      have HOQ : Hid (Own wq w.heap.size (.slice (some ⟨g, 0, none⟩) k cap) L) := Lib.hid (World.ownsRow.kept HO.out hg (Or.inr (fun e => by have e' : g = s := (by simpa [Value.ownBlock] using e); omega)))
      have HGQ := Lib.hid (HG.out.trans hg)
      have HSQ := Lib.hid hs
      have hgq : g < wq.heap.size := (HOQ.out.lt g rfl).2
      clear hg hs hy0 hy1 HO HG HSR
      obtain ⟨a1, cap1, e1, hrd⟩ := own_rd HOQ.out (by omega)
      injection e1 with e1 ek ec
      subst e1
      clear ek ec
      have hcs : ∀ i, i < L.length → wq.cell? ⟨g, i, none⟩ = some (.int .i64 (L.getD i 0)) := by
        intro i hi
        rcases hrd.2 with h | ⟨g1, eg, _, _, hc⟩
        · rw [h] at hi; simp at hi
        · cases eg; exact (hc i hi).1
      have HOWN : Hid (∀ x, Below wq.heap.size wq x → Calls Try.prog 75 #[.slice (some ⟨g, 0, none⟩) q cap] x (RetOwn x.heap.size (L.take q) x)) := Lib.hid fun x hx =>
        own_any g 0 q cap (L.take q) (by simp; omega) (by omega) x (by have := hx.size; omega) fun i hi => by
          rw [Nat.zero_add, hx.cell (p := ⟨g, i, none⟩) hgq, hcs i (by omega)]
          simp [List.getD_eq_getElem?_getD, hi]
      have HNEW : Hid (∀ x, Below wq.heap.size wq x → ∀ j u, ((L.drop q).map (Value.int .i64))[j]? = some u → x.cell? ((⟨g, q, none⟩ : Addr).add j) = some u) := Lib.hid fun x hx => cells_list fun i hi => by
        rw [hx.cell (p := ⟨g, q + i, none⟩) hgq, hcs (q + i) (by simp at hi; omega)]
        simp [List.getD_eq_getElem?_getD, List.getElem?_drop]
      obtain ⟨o, hoo, HNE⟩ : ∃ o, (if cap = q then (some ⟨g, 0, none⟩ : Option Addr) else some ⟨g, q, none⟩) = some ⟨g, o, none⟩ ∧ Hid (∀ x, Below wq.heap.size wq x → ∀ j u, ((L.drop q).map (Value.int .i64))[j]? = some u → x.cell? ((⟨g, o, none⟩ : Addr).add j) = some u) := by
        by_cases e : cap = q
        · refine ⟨0, if_pos e, Lib.hid fun x hx j u hj => ?_⟩
          rw [List.drop_of_length_le (by omega)] at hj
          simp at hj
        · exact ⟨q, if_neg e, HNEW⟩
      clear hcs hrd HNEW
      have hqk' : (q : Int) ≤ (k : Int) := by omega
      have hqc : (q : Int) ≤ (cap : Int) := by omega
      have hkc' : (k : Int) ≤ (cap : Int) := by omega
      go_wp2_with fail
      go_region_law (first
        | (go_simp; go_at_call 75; refine (HOWN.out _ (by (repeat' (first | (with_reducible exact Below.refl _ _) | (with_reducible refine Below.alloc ?_ ?_ _) | (with_reducible refine Below.setCell ?_ ?_ _) | (with_reducible refine Below.drew ?_) | (with_reducible refine below_drewN ?_ _) | (with_reducible refine Below.trans ?_ (Below.mono (Hid.out (by assumption)) ?_)) | omega | (simp; done) | (simp; omega))))).mono ?_; rintro e w2 ⟨v1, rfl, hown1, hb1⟩; have HO1 := Lib.hid hown1; have Hb1 := Lib.hid hb1; have hsw : wq.heap.size ≤ w2.heap.size := Nat.le_trans (by first | exact Nat.le_refl _ | (simp; done)) hb1.size; clear hown1 hb1)
        | (refine step_append_own rfl (.tmp 21) (.tmp 23) 34 rfl wq.heap.size 2 i0 (.int .i64 0) 1 8 Try.underlying34 hi hz0 hz1 hz2 rfl (by decide) v1 (L.take q).length ((L.take q).map (Value.int .i64)) rfl ((World.ownsRow.mono HO1.out (Nat.le_refl _)).alloc _) ⟨w2.heap.size, 0, none⟩ 1 1 [Value.int .i64 (k : Int)] rfl rfl (cell_one_new _ _ _) (ints_oneCell .i64 [(k : Int)]) (by simp; unfold maxLen; omega) (by simp; omega) (Nat.le_trans hsw (by simp)) ?_; intro v2 w3 hown2 hgrow2; have HO2 := Lib.hid hown2; have HB2 : Hid (Below wq.heap.size wq w3) := Lib.hid (Below.grown (w := w2.alloc (.cells #[.int .i64 k] 2)) (by (repeat' (first | (with_reducible exact Below.refl _ _) | (with_reducible refine Below.alloc ?_ ?_ _) | (with_reducible refine Below.setCell ?_ ?_ _) | (with_reducible refine Below.drew ?_) | (with_reducible refine below_drewN ?_ _) | (with_reducible refine Below.trans ?_ (Below.mono (Hid.out (by assumption)) ?_)) | omega | (simp; done) | (simp; omega)))) hgrow2 (Nat.le_trans hsw (by simp)) (fun r e => ((World.ownsRow.mono HO1.out (Nat.le_refl wq.heap.size)).lt r e).1)); clear hown2 hgrow2)
        | (refine step_append_own rfl (.tmp 24) (.tmp 27) 34 rfl wq.heap.size 2 i0 (.int .i64 0) 1 8 Try.underlying34 hi hz0 hz1 hz2 rfl (by decide) v2 ((L.take q).length + 1) ((L.take q).map (Value.int .i64) ++ [Value.int .i64 (k : Int)]) rfl HO2.out ⟨g, o, none⟩ (k - q) (cap - q) ((L.drop q).map (Value.int .i64)) (by first | rfl | exact congrArg (fun z => Value.slice z (k - q) (cap - q)) hoo) (by simp; omega) (HNE.out _ HB2.out) (ints_oneCell .i64 (L.drop q)) (by simp; unfold maxLen; omega) (by simp; omega) HB2.out.size ?_; intro v3 w4 hown3 hgrow3; have HO3 := Lib.hid hown3; have HB3 : Hid (Below wq.heap.size wq w4) := Lib.hid (HB2.out.grown hgrow3 HB2.out.size (fun r e => (HO2.out.lt r e).1)); clear hown3 hgrow3)
        | (refine step_append_own rfl (.tmp 21) (.tmp 23) 34 rfl wq.heap.size 2 i0 (.int .i64 0) 1 8 Try.underlying34 hi hz0 hz1 hz2 rfl (by decide) v1 (L.take q).length ((L.take q).map (Value.int .i64)) rfl (World.ownsRow.mono HO1.out (by simp)) ⟨wq.heap.size, 0, none⟩ 1 1 [Value.int .i64 (k : Int)] rfl rfl (cell_one_below Hb1.out (by simp)) (ints_oneCell .i64 [(k : Int)]) (by simp; unfold maxLen; omega) (by simp; omega) hsw ?_; intro v2 w3 hown2 hgrow2; have HO2 := Lib.hid hown2; have HB2 : Hid (Below wq.heap.size wq w3) := Lib.hid (Below.grown (w := w2) (by (repeat' (first | (with_reducible exact Below.refl _ _) | (with_reducible refine Below.alloc ?_ ?_ _) | (with_reducible refine Below.setCell ?_ ?_ _) | (with_reducible refine Below.drew ?_) | (with_reducible refine below_drewN ?_ _) | (with_reducible refine Below.trans ?_ (Below.mono (Hid.out (by assumption)) ?_)) | omega | (simp; done) | (simp; omega)))) hgrow2 hsw (fun r e => ((World.ownsRow.mono (base' := wq.heap.size) HO1.out (by simp)).lt r e).1)); clear hown2 hgrow2))
      all_goals
        have hnum : (L.take q).length + 1 + (k - q) = k + 1 := by simp; omega
        have hlen3 : (L.take q ++ (k : Int) :: L.drop q).length = k + 1 := by simp; omega
        have HOW : Hid (Own w4 w.heap.size v3 (L.take q ++ (k : Int) :: L.drop q)) := Lib.hid (by
          have h := World.ownsRow.mono (base' := w.heap.size) HO3.out (HGQ.out.size)
          rw [hnum] at h
          unfold Own
          rw [hlen3]
          simpa using h)
        have HSH : Hid (∃ g3 cap3, v3 = .slice (some ⟨g3, 0, none⟩) (k + 1) cap3 ∧ k + 1 ≤ cap3 ∧ cap3 ≤ maxLen) := Lib.hid (by
          rcases HO3.out.2 with ⟨_, h0⟩ | ⟨g3, cap3, cur, h1, _, _, hn3, hcap3, _⟩
          · omega
          · rw [hnum] at h1 hn3
            exact ⟨g3, cap3, h1, hn3, hcap3⟩)
        clear hnum
        go_wp2_with fail
        go_roundw
        case rel =>
          obtain ⟨g3, cap3, e3, e4, e5⟩ := HSH.out
          exact ⟨k + 1, _, g3, cap3, hkm, by go_num, e3, hlen3, e4, e5, HOW.out, grown_below HGQ.out HB3.out, HSQ.out.below HB3.out⟩
        case measure => simp [intOf]; omega
    · obtain rfl : k = m := by omega
      have HO := Lib.hid hown
      have HG := Lib.hid hgr
      have HSR := Lib.hid hsr
      clear hown hgr hsr
      go_wp2_with fail
      go_ret
      exact ⟨_, L, rfl, hL, HO.out, HG.out, HSR.out⟩

end Go.Proofs.Ythblbamiammodaa

namespace Go.Proofs.Ythblbamiammodaa
open Go.RowKit

/-- Between two steps of a draw: the result's cell is not written yet. -/
structure Rs (w : World) (s : Nat) (a : Option Addr) (n c : Nat) (wr : World) : Prop where
  res : wr.heap[w.heap.size]? = some (.cells (mcells 0 fun _ => 0) 26 (0, 0))
  src : Src wr s a n c
  grown : w.grownBy wr (some s)

variable {w wr w1 : World} {s n c : Nat} {a : Option Addr}

theorem Rs.next (h : Rs w s a n c wr) (hlt : s < w.heap.size) (hg : wr.grownBy w1 (some s)) (hs : Src w1 s a n c) : Rs w s a n c w1 :=
  ⟨(hg.block _ (Array.getElem?_eq_some_iff.1 h.res).1 (fun e => by injection e with e; omega)).trans h.res, hs, h.grown.trans hg⟩

theorem Rs.below (h : Rs w s a n c wr) (hg : Below wr.heap.size wr w1) : Rs w s a n c w1 :=
  ⟨(hg.block _ (Array.getElem?_eq_some_iff.1 h.res).1).trans h.res, h.src.below hg, grown_below h.grown hg⟩

theorem Rs.fin (h : Rs w s a n c wr) (hlt : s < w.heap.size) (x0 x1 x2 x3 x4 x5 : Value) :
    w.grownBy ((((((wr.setCell ⟨w.heap.size, 0, none⟩ x0).setCell ⟨w.heap.size, 1, none⟩ x1).setCell ⟨w.heap.size, 2, none⟩ x2).setCell ⟨w.heap.size, 3, none⟩ x3).setCell ⟨w.heap.size, 4, none⟩ x4).setCell ⟨w.heap.size, 5, none⟩ x5) (some s) ∧
      Src ((((((wr.setCell ⟨w.heap.size, 0, none⟩ x0).setCell ⟨w.heap.size, 1, none⟩ x1).setCell ⟨w.heap.size, 2, none⟩ x2).setCell ⟨w.heap.size, 3, none⟩ x3).setCell ⟨w.heap.size, 4, none⟩ x4).setCell ⟨w.heap.size, 5, none⟩ x5) s a n c :=
  ⟨grown_above h.grown (grown_six _ _ _ _ _ _ _ _) (Or.inl (Nat.le_refl _)), h.src.grown (grown_six _ _ _ _ _ _ _ _) hlt⟩

theorem Rs.start (hS : Src w s a n c) : Rs w s a n c (w.alloc (.cells (mcells 0 fun _ => 0) 26)) := by
  have hb : Below w.heap.size w (w.alloc (.cells (mcells 0 fun _ => 0) 26)) := (Below.refl _ _).alloc (Nat.le_refl _) _
  exact ⟨halloc_at _ _ _ rfl, hS.below hb, grown_below (World.grownBy.refl _ _) hb⟩

/-- Some map's six numbers are left, and the source has gone on. -/
def RetMap (s : Nat) (a : Option Addr) (n c : Nat) (w : World) (e : Ending) (w' : World) : Prop := ∃ p t, e = .returned (mv p t) ∧ w.grownBy w' (some s) ∧ Src w' s a n c

set_option maxRecDepth 100000 in
set_option maxHeartbeats 2000000 in
theorem draw_any (s : Nat) (a : Option Addr) (n c : Nat) (w : World) (hS : Src w s a n c) :
    Calls Try.prog 52 #[.pointer (some ⟨s, 0, none⟩)] w fun e w' => ∃ m : Nat, (1 ≤ m ∧ m ≤ 5) ∧ RetDraw s a n c m w e w' := by
  have hlt := hS.lt
  have HR := Lib.hid ((Rs.start hS).below (w1 := (w.alloc (.cells (mcells 0 fun _ => 0) 26)).alloc (.cells #[.int .i64 1, .int .i64 2, .int .i64 3, .int .i64 3, .int .i64 4, .int .i64 4, .int .i64 5, .int .i64 5] 2)) ((Below.refl _ _).alloc (Nat.le_refl _) _))
  clear hS
  go_enter Try.func52, Try.ntmps52
  go_wp2_with fail
  refine (pick_any s a n c (w.heap.size + 1) 8 8 (fun i => (([1, 2, 3, 3, 4, 4, 5, 5] : List Nat).getD i 0 : Nat)) (by omega) (by omega) _ HR.out.src (by omega) ?_).mono ?_
  · intro i hi
    have e := Joins.cell_of_block (halloc_at (w.alloc (.cells (mcells 0 fun _ => 0) 26)) (.cells #[.int .i64 1, .int .i64 2, .int .i64 3, .int .i64 3, .int .i64 4, .int .i64 4, .int .i64 5, .int .i64 5] 2) (w.heap.size + 1) (by simp)) i
    rcases (by omega : i = 0 ∨ i = 1 ∨ i = 2 ∨ i = 3 ∨ i = 4 ∨ i = 5 ∨ i = 6 ∨ i = 7) with rfl | rfl | rfl | rfl | rfl | rfl | rfl | rfl <;> exact e
  rintro e w1 ⟨i, hi, rfl, hg, hs⟩
  have HR1 := Lib.hid (HR.out.next hlt hg hs)
  have hm : 1 ≤ ([1, 2, 3, 3, 4, 4, 5, 5] : List Nat).getD i 0 ∧ ([1, 2, 3, 3, 4, 4, 5, 5] : List Nat).getD i 0 ≤ 5 := by
    rcases (by omega : i = 0 ∨ i = 1 ∨ i = 2 ∨ i = 3 ∨ i = 4 ∨ i = 5 ∨ i = 6 ∨ i = 7) with rfl | rfl | rfl | rfl | rfl | rfl | rfl | rfl <;> decide
  generalize ([1, 2, 3, 3, 4, 4, 5, 5] : List Nat).getD i 0 = m at *
  clear hg hs HR
  go_wp2_with fail
  refine (drawOf_any order_any s a n c m hm.1 hm.2 w1 HR1.out.src).mono ?_
  rintro e w2 ⟨t, rfl, hg, hs⟩
  simp only [mv, mcells]
  have HR2 := Lib.hid (HR1.out.next hlt hg hs)
  obtain ⟨y0, y1, y2, y3, y4, y5⟩ := blk6 HR2.out.res
  have hfr := blk_free HR2.out.res
  clear hg hs HR1
  go_wp2_with fail
  refine bodyPost_ret (v := mv m t) (by simp [results, Try.results52, go_sem, y0, y1, y2, y3, y4, y5]) rfl ⟨m, hm, t, rfl, HR2.out.fin hlt _ _ _ _ _ _⟩

/-- Between two steps of spec.l01Bad: the map lies in its box, the result's cell behind it is not written yet. -/
structure Sb (w : World) (s : Nat) (a : Option Addr) (n c : Nat) (p : Int) (t : Nat → Int) (wr : World) : Prop where
  box : wr.heap[w.heap.size]? = some (.cells (mcells p t) 26 (0, 0))
  res : wr.heap[w.heap.size + 1]? = some (.cells (mcells 0 fun _ => 0) 26 (0, 0))
  src : Src wr s a n c
  grown : w.grownBy wr (some s)

theorem Sb.next {p : Int} {t : Nat → Int} (h : Sb w s a n c p t wr) (hlt : s < w.heap.size) (hg : wr.grownBy w1 (some s)) (hs : Src w1 s a n c) : Sb w s a n c p t w1 :=
  ⟨(hg.block _ (Array.getElem?_eq_some_iff.1 h.box).1 (fun e => by injection e with e; omega)).trans h.box, (hg.block _ (Array.getElem?_eq_some_iff.1 h.res).1 (fun e => by injection e with e; omega)).trans h.res, hs, h.grown.trans hg⟩

theorem Sb.below {p : Int} {t : Nat → Int} (h : Sb w s a n c p t wr) (hg : Below wr.heap.size wr w1) : Sb w s a n c p t w1 :=
  ⟨(hg.block _ (Array.getElem?_eq_some_iff.1 h.box).1).trans h.box, (hg.block _ (Array.getElem?_eq_some_iff.1 h.res).1).trans h.res, h.src.below hg, grown_below h.grown hg⟩

theorem Sb.set {p : Int} {t : Nat → Int} (h : Sb w s a n c p t wr) (hlt : s < w.heap.size) (k : Nat) (hk : k < 5) (x : Int) : Sb w s a n c p (upd t k x) (wr.setCell ⟨w.heap.size, 1 + k, none⟩ (.int .i64 x)) :=
  ⟨blk_set h.box k hk x, (hset_ne _ _ _ _ (by simp)).trans h.res, h.src.grown (grown_set _ _ _ _) hlt, grown_above h.grown (grown_set _ _ _ _) (Or.inl (Nat.le_refl _))⟩

theorem Sb.pts {p : Int} {t : Nat → Int} (h : Sb w s a n c p t wr) (hlt : s < w.heap.size) (x : Int) : Sb w s a n c x t (wr.setCell ⟨w.heap.size, 0, none⟩ (.int .i64 x)) :=
  ⟨Joins.block_setCell h.box _, (hset_ne _ _ _ _ (by simp)).trans h.res, h.src.grown (grown_set _ _ _ _) hlt, grown_above h.grown (grown_set _ _ _ _) (Or.inl (Nat.le_refl _))⟩

theorem Sb.fin {p : Int} {t : Nat → Int} (h : Sb w s a n c p t wr) (hlt : s < w.heap.size) (x0 x1 x2 x3 x4 x5 : Value) :
    w.grownBy ((((((wr.setCell ⟨w.heap.size + 1, 0, none⟩ x0).setCell ⟨w.heap.size + 1, 1, none⟩ x1).setCell ⟨w.heap.size + 1, 2, none⟩ x2).setCell ⟨w.heap.size + 1, 3, none⟩ x3).setCell ⟨w.heap.size + 1, 4, none⟩ x4).setCell ⟨w.heap.size + 1, 5, none⟩ x5) (some s) ∧
      Src ((((((wr.setCell ⟨w.heap.size + 1, 0, none⟩ x0).setCell ⟨w.heap.size + 1, 1, none⟩ x1).setCell ⟨w.heap.size + 1, 2, none⟩ x2).setCell ⟨w.heap.size + 1, 3, none⟩ x3).setCell ⟨w.heap.size + 1, 4, none⟩ x4).setCell ⟨w.heap.size + 1, 5, none⟩ x5) s a n c :=
  ⟨grown_above h.grown (grown_six _ _ _ _ _ _ _ _) (Or.inl (Nat.le_succ _)), h.src.grown (grown_six _ _ _ _ _ _ _ _) (Nat.lt_succ_of_lt hlt)⟩

theorem Sb.start {p : Int} {t : Nat → Int} (hS : Src w s a n c) : Sb w s a n c p t ((w.alloc (.cells (mcells p t) 26)).alloc (.cells (mcells 0 fun _ => 0) 26)) := by
  have hb : Below w.heap.size w ((w.alloc (.cells (mcells p t) 26)).alloc (.cells (mcells 0 fun _ => 0) 26)) := ((Below.refl _ _).alloc (Nat.le_refl _) _).alloc (by simp) _
  exact ⟨(halloc_lt _ _ _ (by simp)).trans (halloc_at _ _ _ rfl), halloc_at _ _ _ (by simp), hS.below hb, grown_below (World.grownBy.refl _ _) hb⟩

end Go.Proofs.Ythblbamiammodaa

namespace Go.Proofs.Ythblbamiammodaa
open Go.RowKit

theorem pick_some (s : Nat) (a : Option Addr) (n c : Nat) (q L cap : Nat) (h1 : 1 ≤ L) (h2 : L ≤ 1000) (w : World) (hS : Src w s a n c) (hq : q ≠ s) (hxs : ∀ i, i < L → ∃ x : Int, w.cell? ⟨q, i, none⟩ = some (.int .i64 x)) :
    Calls Try.prog 36 #[.pointer (some ⟨s, 0, none⟩), .slice (some ⟨q, 0, none⟩) L cap] w fun e w' => ∃ x : Int, e = .returned (.int .i64 x) ∧ w.grownBy w' (some s) ∧ Src w' s a n c := by
  have hx : ∃ xs : Nat → Int, ∀ i, i < L → w.cell? ⟨q, i, none⟩ = some (.int .i64 (xs i)) :=
    ⟨fun i => if h : i < L then Classical.choose (hxs i h) else 0, fun i hi => by simp only [dif_pos hi]; exact Classical.choose_spec (hxs i hi)⟩
  obtain ⟨xs, hx⟩ := hx
  refine (pick_any s a n c q L cap xs h1 h2 w hS hq hx).mono ?_
  rintro e w' ⟨i, _, rfl, hg, hs⟩
  exact ⟨xs i, rfl, hg, hs⟩

theorem three_cells (w : World) (x0 x1 x2 : Int) (T : TypeId) : ∀ i, i < 3 → ∃ x : Int, (w.alloc (.cells #[.int .i64 x0, .int .i64 x1, .int .i64 x2] T)).cell? ⟨w.heap.size, i, none⟩ = some (.int .i64 x) := by
  intro i hi
  have e := Joins.cell_of_block (halloc_at w (.cells #[.int .i64 x0, .int .i64 x1, .int .i64 x2] T) _ rfl) i
  rcases (by omega : i = 0 ∨ i = 1 ∨ i = 2) with rfl | rfl | rfl <;> exact ⟨_, e⟩

theorem three_drew (w : World) (x0 x1 x2 : Int) (T : TypeId) : ∀ i, i < 3 → ∃ x : Int, (w.alloc (.cells #[.int .i64 x0, .int .i64 x1, .int .i64 x2] T)).drew.cell? ⟨w.heap.size, i, none⟩ = some (.int .i64 x) := three_cells w x0 x1 x2 T

theorem three_grown {w w' : World} {s : Nat} {x0 x1 x2 : Int} {T : TypeId} (hg : (w.alloc (.cells #[.int .i64 x0, .int .i64 x1, .int .i64 x2] T)).drew.grownBy w' (some s)) (hs : w.heap.size ≠ s) : ∀ i, i < 3 → ∃ x : Int, w'.cell? ⟨w.heap.size, i, none⟩ = some (.int .i64 x) := fun i hi => by
  obtain ⟨x, h⟩ := three_drew w x0 x1 x2 T i hi
  exact ⟨x, grown_cell hg hs h⟩

set_option maxRecDepth 100000 in
set_option maxHeartbeats 2000000 in
theorem bad_any (s : Nat) (a : Option Addr) (n c : Nat) (p : Int) (t : Nat → Int) (w : World) (hS : Src w s a n c) :
    Calls Try.prog 55 #[.pointer (some ⟨s, 0, none⟩), mv p t] w (RetMap s a n c w) := by
  have hlt := hS.lt
  have HB := Lib.hid (Sb.start (p := p) (t := t) hS)
  clear hS
  simp only [mv, mcells]
  go_enter Try.func55, Try.ntmps55
  go_wp2_with fail
  refine (next_any s a n c 40 _ HB.out.src).mono ?_
  rintro e w1 ⟨x, rfl, hx0, hx1, hg, hs⟩
  have HB1 := Lib.hid (HB.out.next hlt hg hs)
  have hlt1 : s < w1.heap.size := HB1.out.src.lt
  clear hg hs HB hx1
  by_cases c0 : x = 0
  · subst c0
    obtain ⟨z0, z1, z2, z3, z4, z5⟩ := blk6 HB1.out.box
    go_wp2_with fail
    refine (pick_some s a n c w1.heap.size 4 4 (by omega) (by omega) _ (HB1.out.src.below ((Below.refl _ _).alloc (Nat.le_refl _) _)) (by omega) ?_).mono ?_
    · intro i hi
      rcases (by omega : i = 0 ∨ i = 1 ∨ i = 2 ∨ i = 3) with rfl | rfl | rfl | rfl
      · exact ⟨_, Joins.cell_of_block (halloc_at _ _ _ rfl) 0⟩
      · exact ⟨_, Joins.cell_of_block (halloc_at _ _ _ rfl) 1⟩
      · exact ⟨_, Joins.cell_of_block (halloc_at _ _ _ rfl) 2⟩
      · exact ⟨_, Joins.cell_of_block (halloc_at _ _ _ rfl) 3⟩
    rintro e w2 ⟨X, rfl, hg, hs⟩
    have HB2 := Lib.hid ((HB1.out.below ((Below.refl _ _).alloc (Nat.le_refl _) _)).next hlt hg hs)
    have HB3 := Lib.hid (HB2.out.pts hlt X)
    clear hg hs HB1 z0 z1 z2 z3 z4 z5
    obtain ⟨z0, z1, z2, z3, z4, z5⟩ := blk6 HB2.out.box
    obtain ⟨y0, y1, y2, y3, y4, y5⟩ := blk6 HB2.out.res
    have hfr := blk_free HB2.out.res
    have hfr2 := blk_free HB2.out.box
    go_wp2_with fail
    refine bodyPost_ret (v := mv X t) (by simp [results, Try.results55, go_sem, y0, y1, y2, y3, y4, y5]) rfl ⟨X, t, rfl, HB3.out.fin hlt _ _ _ _ _ _⟩
  have c0' : (x == 0) = false := by simpa using c0
  by_cases c1 : x = 1
  · subst c1
    have r0 : ∀ x, Sb w s a n c p t x → x.cell? ⟨w.heap.size, 0, none⟩ = some (.int .i64 p) := fun x h => (blk6 h.box).1
    go_wp2_with fail
    have HBd : Sb w s a n c p t w1.drew := Sb.below HB1.out (Below.drew (Below.refl _ _))
    have z0 := (blk6 HB1.out.box).1
    have hzl : w.heap.size < w1.heap.size := (Array.getElem?_eq_some_iff.1 HB1.out.box).1
    go_region_law (first
      | (go_simp; go_at_call 37; refine (next_any s a n c 5 _ (Sb.src (w := w) (p := p) (t := t) (by first | (with_reducible assumption) | exact Sb.below (by assumption) ((Below.refl _ _).alloc (Nat.le_refl _) _) | exact Sb.below HB1.out (Below.drew ((Below.refl _ _).alloc (Nat.le_refl _) _))))).mono ?_; rintro e w3 ⟨y, rfl, hy0, hy1, hg, hs⟩; obtain ⟨q, rfl⟩ := Int.eq_ofNat_of_zero_le hy0; have hq5 : (q : Int) < 5 := hy1 (by omega); have HN : Sb w s a n c p t w3 := Sb.next (by first | (with_reducible assumption) | exact Sb.below (by assumption) ((Below.refl _ _).alloc (Nat.le_refl _) _) | exact Sb.below HB1.out (Below.drew ((Below.refl _ _).alloc (Nat.le_refl _) _))) hlt hg hs; have hlt3 : s < w3.heap.size := HN.src.lt; have hzl3 : w.heap.size < w3.heap.size := (Array.getElem?_eq_some_iff.1 HN.box).1; have HG := Lib.hid hg; have hok : ∀ x, Sb w s a n c p t x → x.cell? ⟨w.heap.size, 1 + q, none⟩ = some (.int .i64 (t q)) := fun x h => blk_at h.box q (by omega); have hfr : ∀ x, Sb w s a n c p t x → x.frozen? ⟨w.heap.size, 1 + q, none⟩ = false := fun x h => blk_free h.box _; clear hg hs hy0 hy1)
      | (go_simp; go_at_call 36; refine (pick_some s a n c _ 3 3 (by omega) (by omega) _ (Sb.src (w := w) (p := p) (t := t) (by first | (with_reducible assumption) | exact Sb.below (by assumption) ((Below.refl _ _).alloc (Nat.le_refl _) _) | exact Sb.below HB1.out (Below.drew ((Below.refl _ _).alloc (Nat.le_refl _) _)))) (by omega) (by first | exact three_cells _ _ _ _ _ | exact three_drew _ _ _ _ _ | exact three_grown HG.out (by omega))).mono ?_; rintro e w4 ⟨X, rfl, hg, hs⟩; have HP : Sb w s a n c p t w4 := Sb.next (by first | (with_reducible assumption) | exact Sb.below (by assumption) ((Below.refl _ _).alloc (Nat.le_refl _) _) | exact Sb.below HB1.out (Below.drew ((Below.refl _ _).alloc (Nat.le_refl _) _))) hlt hg hs; clear hg hs))
    all_goals first
      | (have HQ := Lib.hid (HP.set hlt q (by omega) X)
         obtain ⟨v0, v1, v2, v3, v4, v5⟩ := blk6 HQ.out.box
         obtain ⟨y0, y1, y2, y3, y4, y5⟩ := blk6 HQ.out.res
         have hfr2 := blk_free HQ.out.res
         clear hok hfr r0 z0 HBd
         go_wp2_with fail
         refine bodyPost_ret (v := mv p (upd t q X)) (by simp [results, Try.results55, go_sem, y0, y1, y2, y3, y4, y5]) rfl ⟨p, upd t q X, rfl, HQ.out.fin hlt _ _ _ _ _ _⟩)
      | (have HQ := Lib.hid (HN.set hlt q (by omega) X)
         obtain ⟨v0, v1, v2, v3, v4, v5⟩ := blk6 HQ.out.box
         obtain ⟨y0, y1, y2, y3, y4, y5⟩ := blk6 HQ.out.res
         have hfr2 := blk_free HQ.out.res
         clear hok hfr r0 z0 HBd
         go_wp2_with fail
         refine bodyPost_ret (v := mv p (upd t q X)) (by simp [results, Try.results55, go_sem, y0, y1, y2, y3, y4, y5]) rfl ⟨p, upd t q X, rfl, HQ.out.fin hlt _ _ _ _ _ _⟩)
  · have c1' : (x == 1) = false := by simpa using c1
    obtain ⟨z0, z1, z2, z3, z4, z5⟩ := blk6 HB1.out.box
    obtain ⟨y0, y1, y2, y3, y4, y5⟩ := blk6 HB1.out.res
    have hfr := blk_free HB1.out.res
    go_wp2_with fail
    refine bodyPost_ret (v := mv p t) (by simp [results, Try.results55, go_sem, y0, y1, y2, y3, y4, y5]) rfl ⟨p, t, rfl, HB1.out.fin hlt _ _ _ _ _ _⟩

end Go.Proofs.Ythblbamiammodaa

namespace Go.Proofs.Ythblbamiammodaa
open Go.RowKit

set_option maxRecDepth 100000 in
set_option maxHeartbeats 2000000 in
theorem spoil_any (s : Nat) (a : Option Addr) (n c : Nat) (w : World) (hS : Src w s a n c) :
    Calls Try.prog 35 #[.pointer (some ⟨s, 0, none⟩)] w (RetMap s a n c w) := by
  have hlt := hS.lt
  have HR := Lib.hid (Rs.start hS)
  clear hS
  go_enter Try.func35, Try.ntmps35
  go_wp2_with fail
  refine (draw_any s a n c _ HR.out.src).mono ?_
  rintro e w1 ⟨m, hm, t, rfl, hg, hs⟩
  have HR1 := Lib.hid (HR.out.next hlt hg hs)
  simp only [mv, mcells]
  clear hg hs HR
  go_wp2_with fail
  refine (bad_any s a n c m t w1 HR1.out.src).mono ?_
  rintro e w2 ⟨p, u, rfl, hg, hs⟩
  have HR2 := Lib.hid (HR1.out.next hlt hg hs)
  simp only [mv, mcells]
  obtain ⟨y0, y1, y2, y3, y4, y5⟩ := blk6 HR2.out.res
  have hfr := blk_free HR2.out.res
  clear hg hs HR1
  go_wp2_with fail
  refine bodyPost_ret (v := mv p u) (by simp [results, Try.results35, go_sem, y0, y1, y2, y3, y4, y5]) rfl ⟨p, u, rfl, HR2.out.fin hlt _ _ _ _ _ _⟩

/-- A draw leaves some map's six numbers. -/
def RetSome (w : World) (e : Ending) (w' : World) : Prop := ∃ p t, e = .returned (mv p t) ∧ Below w.heap.size w w'

set_option maxRecDepth 100000 in
set_option maxHeartbeats 2000000 in
theorem dIp_any (a : Option Addr) (n c : Nat) (hn : n ≤ 2000000) (w : World) (hB : Bytes w a n) :
    Calls Try.prog 10 #[.slice a n c] w (RetSome w) := by
  have hb0 : Below w.heap.size w (w.alloc (.cells (mcells 0 fun _ => 0) 26)) := (Below.refl _ _).alloc (Nat.le_refl _) _
  have HF := Lib.hid (from_any a n c hn _ (hB.below hb0))
  have HB0 := Lib.hid hb0
  clear hB hb0
  go_enter Try.func10, Try.ntmps10
  go_wp2_with fail
  refine HF.out.mono ?_
  rintro e w1 ⟨rfl, hb1, hs1⟩
  simp only [World.size_alloc] at hb1 hs1
  have HB1 := Lib.hid hb1
  have HS1 := Lib.hid hs1
  clear hb1 hs1
  go_wp2_with fail
  refine (spoil_any _ a n c _ HS1.out).mono ?_
  rintro e w2 ⟨p, u, rfl, hg, hs⟩
  simp only [mv, mcells]
  have hr1 : w1.heap[w.heap.size]? = some (.cells (mcells 0 fun _ => 0) 26 (0, 0)) := (HB1.out.block _ (Nat.lt_succ_self _)).trans (halloc_at _ _ _ rfl)
  have HR2 : Hid (w2.heap[w.heap.size]? = some (.cells (mcells 0 fun _ => 0) 26 (0, 0))) := Lib.hid ((hg.block _ (Array.getElem?_eq_some_iff.1 hr1).1 (fun e => by injection e with e; omega)).trans hr1)
  have HB2 : Hid (Below w.heap.size w w2) := Lib.hid ((HB0.out.trans (HB1.out.mono (Nat.le_succ _))).grown hg (HB0.out.trans (HB1.out.mono (Nat.le_succ _))).size (fun k e => by cases e; exact Nat.le_succ _))
  obtain ⟨y0, y1, y2, y3, y4, y5⟩ := blk6 HR2.out
  have hfr := blk_free HR2.out
  clear hg hs hr1 HB1 HS1 HB0 HF
  go_wp2_with fail
  refine bodyPost_ret (v := mv p u) (by simp [results, Try.results10, go_sem, y0, y1, y2, y3, y4, y5]) rfl ⟨p, u, rfl, ?_⟩
  (repeat' (first | (with_reducible exact Below.refl _ _) | (with_reducible refine Below.alloc ?_ ?_ _) | (with_reducible refine Below.setCell ?_ ?_ _) | (with_reducible refine Below.drew ?_) | (with_reducible refine below_drewN ?_ _) | (with_reducible refine Below.trans ?_ (Below.mono (Hid.out (by assumption)) ?_)) | omega | (simp; done) | (simp; omega)))

set_option maxRecDepth 100000 in
set_option maxHeartbeats 2000000 in
theorem dKer_any (a : Option Addr) (n c : Nat) (hn : n ≤ 2000000) (w : World) (hB : Bytes w a n) :
    Calls Try.prog 26 #[.slice a n c] w (RetSome w) := by
  have hb0 : Below w.heap.size w (w.alloc (.cells (mcells 0 fun _ => 0) 26)) := (Below.refl _ _).alloc (Nat.le_refl _) _
  have HF := Lib.hid (from_any a n c hn _ (hB.below hb0))
  have HB0 := Lib.hid hb0
  clear hB hb0
  go_enter Try.func26, Try.ntmps26
  go_wp2_with fail
  refine HF.out.mono ?_
  rintro e w1 ⟨rfl, hb1, hs1⟩
  simp only [World.size_alloc] at hb1 hs1
  have HB1 := Lib.hid hb1
  have HS1 := Lib.hid hs1
  clear hb1 hs1
  go_wp2_with fail
  refine (spoil_any _ a n c _ HS1.out).mono ?_
  rintro e w2 ⟨p, u, rfl, hg, hs⟩
  simp only [mv, mcells]
  have hr1 : w1.heap[w.heap.size]? = some (.cells (mcells 0 fun _ => 0) 26 (0, 0)) := (HB1.out.block _ (Nat.lt_succ_self _)).trans (halloc_at _ _ _ rfl)
  have HR2 : Hid (w2.heap[w.heap.size]? = some (.cells (mcells 0 fun _ => 0) 26 (0, 0))) := Lib.hid ((hg.block _ (Array.getElem?_eq_some_iff.1 hr1).1 (fun e => by injection e with e; omega)).trans hr1)
  have HB2 : Hid (Below w.heap.size w w2) := Lib.hid ((HB0.out.trans (HB1.out.mono (Nat.le_succ _))).grown hg (HB0.out.trans (HB1.out.mono (Nat.le_succ _))).size (fun k e => by cases e; exact Nat.le_succ _))
  obtain ⟨y0, y1, y2, y3, y4, y5⟩ := blk6 HR2.out
  have hfr := blk_free HR2.out
  clear hg hs hr1 HB1 HS1 HB0 HF
  go_wp2_with fail
  refine bodyPost_ret (v := mv p u) (by simp [results, Try.results26, go_sem, y0, y1, y2, y3, y4, y5]) rfl ⟨p, u, rfl, ?_⟩
  (repeat' (first | (with_reducible exact Below.refl _ _) | (with_reducible refine Below.alloc ?_ ?_ _) | (with_reducible refine Below.setCell ?_ ?_ _) | (with_reducible refine Below.drew ?_) | (with_reducible refine below_drewN ?_ _) | (with_reducible refine Below.trans ?_ (Below.mono (Hid.out (by assumption)) ?_)) | omega | (simp; done) | (simp; omega)))

set_option maxRecDepth 100000 in
set_option maxHeartbeats 2000000 in
theorem dFix_any (a : Option Addr) (n c : Nat) (hn : n ≤ 2000000) (w : World) (hB : Bytes w a n) :
    Calls Try.prog 30 #[.slice a n c] w (RetSome w) := by
  have hb0 : Below w.heap.size w (w.alloc (.cells (mcells 0 fun _ => 0) 26)) := (Below.refl _ _).alloc (Nat.le_refl _) _
  have HF := Lib.hid (from_any a n c hn _ (hB.below hb0))
  have HB0 := Lib.hid hb0
  clear hB hb0
  go_enter Try.func30, Try.ntmps30
  go_wp2_with fail
  refine HF.out.mono ?_
  rintro e w1 ⟨rfl, hb1, hs1⟩
  simp only [World.size_alloc] at hb1 hs1
  have HB1 := Lib.hid hb1
  have HS1 := Lib.hid hs1
  clear hb1 hs1
  go_wp2_with fail
  refine (spoil_any _ a n c _ HS1.out).mono ?_
  rintro e w2 ⟨p, u, rfl, hg, hs⟩
  simp only [mv, mcells]
  have hr1 : w1.heap[w.heap.size]? = some (.cells (mcells 0 fun _ => 0) 26 (0, 0)) := (HB1.out.block _ (Nat.lt_succ_self _)).trans (halloc_at _ _ _ rfl)
  have HR2 : Hid (w2.heap[w.heap.size]? = some (.cells (mcells 0 fun _ => 0) 26 (0, 0))) := Lib.hid ((hg.block _ (Array.getElem?_eq_some_iff.1 hr1).1 (fun e => by injection e with e; omega)).trans hr1)
  have HB2 : Hid (Below w.heap.size w w2) := Lib.hid ((HB0.out.trans (HB1.out.mono (Nat.le_succ _))).grown hg (HB0.out.trans (HB1.out.mono (Nat.le_succ _))).size (fun k e => by cases e; exact Nat.le_succ _))
  obtain ⟨y0, y1, y2, y3, y4, y5⟩ := blk6 HR2.out
  have hfr := blk_free HR2.out
  clear hg hs hr1 HB1 HS1 HB0 HF
  go_wp2_with fail
  refine bodyPost_ret (v := mv p u) (by simp [results, Try.results30, go_sem, y0, y1, y2, y3, y4, y5]) rfl ⟨p, u, rfl, ?_⟩
  (repeat' (first | (with_reducible exact Below.refl _ _) | (with_reducible refine Below.alloc ?_ ?_ _) | (with_reducible refine Below.setCell ?_ ?_ _) | (with_reducible refine Below.drew ?_) | (with_reducible refine below_drewN ?_ _) | (with_reducible refine Below.trans ?_ (Below.mono (Hid.out (by assumption)) ?_)) | omega | (simp; done) | (simp; omega)))

set_option maxRecDepth 100000 in
set_option maxHeartbeats 2000000 in
theorem dIsi_any (a : Option Addr) (n c : Nat) (hn : n ≤ 2000000) (w : World) (hB : Bytes w a n) :
    Calls Try.prog 32 #[.slice a n c] w (RetSome w) := by
  have hb0 : Below w.heap.size w (w.alloc (.cells (mcells 0 fun _ => 0) 26)) := (Below.refl _ _).alloc (Nat.le_refl _) _
  have HF := Lib.hid (from_any a n c hn _ (hB.below hb0))
  have HB0 := Lib.hid hb0
  clear hB hb0
  go_enter Try.func32, Try.ntmps32
  go_wp2_with fail
  refine HF.out.mono ?_
  rintro e w1 ⟨rfl, hb1, hs1⟩
  simp only [World.size_alloc] at hb1 hs1
  have HB1 := Lib.hid hb1
  have HS1 := Lib.hid hs1
  clear hb1 hs1
  go_wp2_with fail
  refine (spoil_any _ a n c _ HS1.out).mono ?_
  rintro e w2 ⟨p, u, rfl, hg, hs⟩
  simp only [mv, mcells]
  have hr1 : w1.heap[w.heap.size]? = some (.cells (mcells 0 fun _ => 0) 26 (0, 0)) := (HB1.out.block _ (Nat.lt_succ_self _)).trans (halloc_at _ _ _ rfl)
  have HR2 : Hid (w2.heap[w.heap.size]? = some (.cells (mcells 0 fun _ => 0) 26 (0, 0))) := Lib.hid ((hg.block _ (Array.getElem?_eq_some_iff.1 hr1).1 (fun e => by injection e with e; omega)).trans hr1)
  have HB2 : Hid (Below w.heap.size w w2) := Lib.hid ((HB0.out.trans (HB1.out.mono (Nat.le_succ _))).grown hg (HB0.out.trans (HB1.out.mono (Nat.le_succ _))).size (fun k e => by cases e; exact Nat.le_succ _))
  obtain ⟨y0, y1, y2, y3, y4, y5⟩ := blk6 HR2.out
  have hfr := blk_free HR2.out
  clear hg hs hr1 HB1 HS1 HB0 HF
  go_wp2_with fail
  refine bodyPost_ret (v := mv p u) (by simp [results, Try.results32, go_sem, y0, y1, y2, y3, y4, y5]) rfl ⟨p, u, rfl, ?_⟩
  (repeat' (first | (with_reducible exact Below.refl _ _) | (with_reducible refine Below.alloc ?_ ?_ _) | (with_reducible refine Below.setCell ?_ ?_ _) | (with_reducible refine Below.drew ?_) | (with_reducible refine below_drewN ?_ _) | (with_reducible refine Below.trans ?_ (Below.mono (Hid.out (by assumption)) ?_)) | omega | (simp; done) | (simp; omega)))

end Go.Proofs.Ythblbamiammodaa
