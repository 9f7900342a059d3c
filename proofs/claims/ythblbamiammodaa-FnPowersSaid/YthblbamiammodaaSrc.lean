/- The source of the draws: the contracts of spec.l01Next and spec.l01Pick. The contract of spec.l01From. -/
import Derived.Test.YthblbamiammodaaBase
import Derived.StillTailTactics
namespace Go.Proofs.Ythblbamiammodaa
open Go.RowKit

/-- A code that can be read: n bytes at an address. -/
def Bytes (w : World) (a : Option Addr) (n : Nat) : Prop :=
  n = 0 ∨ ∃ b off, a = some ⟨b, off, none⟩ ∧ b < w.heap.size ∧ ∀ i, i < n → ∃ x : Int, w.cell? ⟨b, off + i, none⟩ = some (.int .u8 x) ∧ 0 ≤ x ∧ x ≤ 255

/-- The source lies at block s, with a code of n bytes at a. -/
def Src (w : World) (s : Nat) (a : Option Addr) (n c : Nat) : Prop :=
  n ≤ 2000000 ∧ Bytes w a n ∧ (0 < n → ∀ q, a = some q → q.block < s) ∧ ∃ (k : Nat) (h : Int), k ≤ n ∧ w.heap[s]? = some (.cells #[.slice a n c, .int .i64 k, .int .u64 h] 65 (0, 0))

theorem and_bd (y : Int) : 0 ≤ bits .and .u64 y 16777215 ∧ bits .and .u64 y 16777215 ≤ 16777215 := by
  have h : (BitVec.ofInt 64 y &&& BitVec.ofInt 64 16777215).toNat ≤ 16777215 := by
    rw [BitVec.toNat_and]; exact Nat.le_trans Nat.and_le_right (by decide)
  have e : bits .and .u64 y 16777215 = IntKind.u64.wrap ((BitVec.ofInt 64 y &&& BitVec.ofInt 64 16777215).toNat : Int) := rfl
  rw [e]
  generalize (BitVec.ofInt 64 y &&& BitVec.ofInt 64 16777215).toNat = N at *
  rw [show IntKind.u64.wrap (N : Int) = (N : Int) from IntWalk.u64_in _ (by omega)]
  omega

theorem grown_set (w : World) (b i : Nat) (v : Value) : w.grownBy (w.setCell ⟨b, i, none⟩ v) (some b) :=
  ⟨rfl, rfl, rfl, by simp [World.setCell], fun k _ hk => hset_ne _ _ _ _ (fun e => hk (by rw [e]))⟩

theorem grown_drewN {w w' : World} {r : Option Nat} (h : w.grownBy w' r) (n : Nat) : w.grownBy (w'.drewN n) r := ⟨h.os, h.tape, h.output, h.size, h.block⟩

theorem Bytes.grown {w w' : World} {s : Nat} {a : Option Addr} {n : Nat} (h : Bytes w a n) (hg : w.grownBy w' (some s)) (hne : 0 < n → ∀ q, a = some q → q.block ≠ s) : Bytes w' a n := by
  by_cases h0 : n = 0
  · exact Or.inl h0
  rcases h with h | ⟨b, off, e, hb, hc⟩
  · exact Or.inl h
  · have hk := hg.block b hb (fun e2 => by cases e2; exact hne (by omega) _ e rfl)
    refine Or.inr ⟨b, off, e, by have := hg.size; omega, fun i hi => ?_⟩
    obtain ⟨x, h1, h2⟩ := hc i hi
    exact ⟨x, (World.cell?_of_block (a := ⟨b, off + i, none⟩) hk).trans h1, h2⟩

set_option maxHeartbeats 1000000 in
theorem next_any (s : Nat) (a : Option Addr) (n c : Nat) (m : Int) (w : World) (hS : Src w s a n c) :
    Calls Try.prog 37 #[.pointer (some ⟨s, 0, none⟩), .int .i64 m] w fun e w' => ∃ x : Int, e = .returned (.int .i64 x) ∧ 0 ≤ x ∧ (1 ≤ m → x < m) ∧ w.grownBy w' (some s) ∧ Src w' s a n c := by
  obtain ⟨hn, hby, hne, k, h, hk, hb⟩ := hS
  have HS : Hid (Src w s a n c) := Lib.hid ⟨hn, hby, hne, k, h, hk, hb⟩
  by_cases hm : m < 1
  · go_enter Try.func37, Try.ntmps37
    go_wp2_with fail
    go_ret
    exact ⟨0, rfl, by omega, by omega, World.grownBy.refl w _, HS.out⟩
  · have e0 := Joins.cell_of_block hb 0
    have e1 := Joins.cell_of_block hb 1
    have e2 := Joins.cell_of_block hb 2
    have hfr := blk_free hb
    simp only [List.getElem?_toArray, List.getElem?_cons_zero, List.getElem?_cons_succ] at e0 e1 e2
    have HB := Lib.hid hb
    have HBY := Lib.hid hby
    clear hb hby
    go_enter Try.func37, Try.ntmps37
    go_wp2_with fail
    obtain ⟨hX0, hX1⟩ := and_bd (IntKind.u64.wrap (IntKind.u64.wrap (h * 6364136223846793005) + 1442695040888963407) / 8589934592)
    generalize bits BinOp.and IntKind.u64 (IntKind.u64.wrap (IntKind.u64.wrap (h * 6364136223846793005) + 1442695040888963407) / 8589934592) 16777215 = X at *
    generalize IntKind.u64.wrap (IntKind.u64.wrap (h * 6364136223846793005) + 1442695040888963407) = H2 at *
    have hX : wrap64 X = X := by first | (rw [← IntKind.wrap_i64]; exact IntWalk.i64_in _ (by omega)) | (unfold wrap64; omega)
    rw [hX]
    clear hX
    by_cases hkn : k < n
    · have hkn' : (k : Int) < (n : Int) := by omega
      obtain ⟨b, off, rfl, hbl, hcs⟩ := HBY.out.resolve_left (by omega)
      obtain ⟨x, hcx, hx0, hx1⟩ := hcs k hkn
      have hbs : b ≠ s := Nat.ne_of_lt (hne (by omega) _ rfl)
      have hcy : (w.setCell ⟨s, 2, none⟩ (.int .u64 H2)).cell? ⟨b, off + k, none⟩ = some (.int .u8 x) := (World.cell?_of_block (a := ⟨b, off + k, none⟩) (hset_ne _ _ _ _ hbs)).trans hcx
      have hadd : IntKind.i64.wrap (X + x) = X + x := IntWalk.i64_in _ (by omega)
      have hadk : IntKind.i64.wrap ((k : Int) + 1) = (k : Int) + 1 := IntWalk.i64_in _ (by omega)
      go_quiet (fail)
      go_wp2_with fail
      go_quiet (fail)
      go_wp2_with fail
      go_ret
      have HX := Lib.hid (Int.emod_nonneg (X + x) (show m ≠ 0 by omega))
      have HX2 := Lib.hid (Int.emod_lt_of_pos (X + x) (show 0 < m by omega))
      refine ⟨_, rfl, HX.out, fun _ => HX2.out, ?_, ?_⟩
      · exact (grown_drewN (grown_set w s 2 _) _).trans (grown_set _ s 1 _)
      · refine ⟨hn, ?_, hne, k + 1, H2, hkn, Joins.block_setCell (w := (w.setCell ⟨s, 2, none⟩ (.int .u64 H2)).drewN _) (Joins.block_setCell HB.out _) _⟩
        exact HBY.out.grown ((grown_drewN (grown_set w s 2 _) _).trans (grown_set _ s 1 _)) (fun h0 q e => Nat.ne_of_lt (hne h0 q e))
    · obtain rfl : k = n := by omega
      go_quiet (fail)
      go_wp2_with fail
      go_ret
      refine ⟨_, rfl, Int.emod_nonneg _ (by omega), fun _ => Int.emod_lt_of_pos _ (by omega), grown_drewN (grown_set w s 2 _) _, hn, ?_, hne, k, H2, Nat.le_refl _, (Joins.block_setCell HB.out _ : (w.setCell ⟨s, 2, none⟩ (.int .u64 H2)).heap[s]? = _)⟩
      exact HBY.out.grown (grown_drewN (grown_set w s 2 _) _) (fun h0 q e => Nat.ne_of_lt (hne h0 q e))
theorem grown_cell {w w' : World} {s : Nat} (hg : w.grownBy w' (some s)) {b i : Nat} {v : Value} (hb : b ≠ s) (h : w.cell? ⟨b, i, none⟩ = some v) : w'.cell? ⟨b, i, none⟩ = some v :=
  (World.cell?_of_block (a := ⟨b, i, none⟩) (hg.block b (World.block_lt_of_cell? w _ h) (fun e => hb (by cases e; rfl)))).trans h

theorem Src.lt {w : World} {s n c : Nat} {a : Option Addr} (h : Src w s a n c) : s < w.heap.size := by
  obtain ⟨_, _, _, k, x, _, hb⟩ := h
  exact (Array.getElem?_eq_some_iff.1 hb).1

theorem Src.grown {w w' : World} {s n c r : Nat} {a : Option Addr} (h : Src w s a n c) (hg : w.grownBy w' (some r)) (hr : s < r) : Src w' s a n c := by
  have hlt := h.lt
  obtain ⟨h1, h2, h3, k, x, hk, hb⟩ := h
  exact ⟨h1, h2.grown hg (fun h0 q e => by have := h3 h0 q e; omega), h3, k, x, hk, (hg.block s hlt (fun e => by cases e; omega)).trans hb⟩

theorem Bytes.below {w w' : World} {a : Option Addr} {n : Nat} (h : Bytes w a n) (hg : Below w.heap.size w w') : Bytes w' a n := by
  rcases h with h | ⟨b, off, e, hb, hc⟩
  · exact Or.inl h
  · refine Or.inr ⟨b, off, e, by have := hg.size; omega, fun i hi => ?_⟩
    obtain ⟨x, h1, h2⟩ := hc i hi
    exact ⟨x, (hg.cell (p := ⟨b, off + i, none⟩) hb).trans h1, h2⟩

theorem Src.below {w w' : World} {s n c : Nat} {a : Option Addr} (h : Src w s a n c) (hg : Below w.heap.size w w') : Src w' s a n c := by
  have hlt := h.lt
  obtain ⟨h1, h2, h3, k, x, hk, hb⟩ := h
  exact ⟨h1, h2.below hg, h3, k, x, hk, (hg.block s hlt).trans hb⟩

set_option maxHeartbeats 1000000 in
theorem pick_any (s : Nat) (a : Option Addr) (n c : Nat) (q L cap : Nat) (xs : Nat → Int) (h1 : 1 ≤ L) (h2 : L ≤ 1000) (w : World) (hS : Src w s a n c) (hq : q ≠ s) (hxs : ∀ i, i < L → w.cell? ⟨q, i, none⟩ = some (.int .i64 (xs i))) :
    Calls Try.prog 36 #[.pointer (some ⟨s, 0, none⟩), .slice (some ⟨q, 0, none⟩) L cap] w fun e w' => ∃ i, i < L ∧ e = .returned (.int .i64 (xs i)) ∧ w.grownBy w' (some s) ∧ Src w' s a n c := by
  have HN := Lib.hid (next_any s a n c (L : Int) w hS)
  have HX := Lib.hid hxs
  clear hxs hS
  go_enter Try.func36, Try.ntmps36
  go_wp2_with fail
  refine HN.out.mono ?_
  rintro e w1 ⟨x, rfl, hx0, hx1, hg, hs⟩
  obtain ⟨i, rfl⟩ := Int.eq_ofNat_of_zero_le hx0
  have hi : i < L := by have := hx1 (by omega); omega
  have hi' : (i : Int) < (L : Int) := by omega
  have hc := grown_cell hg hq (HX.out i hi)
  have HG := Lib.hid hg
  have HS := Lib.hid hs
  clear hg hs hx1
  go_wp2_with fail
  go_ret
  exact ⟨i, hi, rfl, HG.out, HS.out⟩

end Go.Proofs.Ythblbamiammodaa

namespace Go.Proofs.Ythblbamiammodaa
open Go.RowKit

set_option maxRecDepth 100000 in
set_option maxHeartbeats 1000000 in
theorem from_any (a : Option Addr) (n c : Nat) (hn : n ≤ 2000000) (w : World) (hB : Bytes w a n) :
    Calls Try.prog 34 #[.slice a n c] w fun e w' => e = .returned (.pointer (some ⟨w.heap.size, 0, none⟩)) ∧ Below w.heap.size w w' ∧ Src w' w.heap.size a n c := by
  have HB := Lib.hid hB
  have HA : Hid (0 < n → ∀ q, a = some q → q.block < w.heap.size) := Lib.hid fun h0 q e => by
    rcases hB with h | ⟨b, off, e', hb, _⟩
    · omega
    · rw [e'] at e; cases e; exact hb
  clear hB
  go_enter Try.func34, Try.ntmps34
  go_wp2_with fail
  go_loopw [4] (fun i wr => ∃ (k : Nat) (h : Int), k ≤ n ∧ i = .int .i64 k ∧ Below w.heap.size w wr ∧ wr.heap[w.heap.size]? = some (.cells #[.slice a n c, .int .i64 0, .int .u64 h] 65 (0, 0))) (fun i _ => n - (intOf i).toNat)
  case atStart =>
    exact ⟨0, _, by omega, rfl, (Below.refl _ _).alloc (Nat.le_refl _) _, halloc_at _ _ _ rfl⟩
  case round =>
    obtain ⟨k, h, hk, rfl, hb, b0⟩ := hrel
    have Hb := Lib.hid hb
    have B0 := Lib.hid b0
    have hsz := hb.size
    have hlt : w.heap.size < wr.heap.size := (Array.getElem?_eq_some_iff.1 b0).1
    by_cases hkn : k < n
    · have hkn' : (k : Int) < (n : Int) := by omega
      by_cases hk4 : k < 4096
      · have hk4' : (k : Int) < 4096 := by omega
        obtain ⟨b, off, rfl, hbl, hcs⟩ := HB.out.resolve_left (by omega)
        obtain ⟨x, hcx, hx0, hx1⟩ := hcs k hkn
        have hcy := (hb.cell (p := ⟨b, off + k, none⟩) hbl).trans hcx
        have e2 := Joins.cell_of_block b0 2
        have hfr := blk_free b0
        have hbs : b ≠ w.heap.size := by omega
        simp only [List.getElem?_toArray, List.getElem?_cons_zero, List.getElem?_cons_succ] at e2
        clear hb b0 hcs hcx
        go_wp2_with fail
        go_still_tail 15, (by kernel_rfl)
        go_wp2_with fail
        refine ⟨⟨k + 1, _, hkn, by go_num, ?_, (Joins.block_setCell B0.out _ : (wr.setCell ⟨w.heap.size, 2, none⟩ _).heap[w.heap.size]? = _)⟩, ?_⟩
        · (repeat' (first | (with_reducible exact Below.refl _ _) | (with_reducible refine Below.alloc ?_ ?_ _) | (with_reducible refine Below.setCell ?_ ?_ _) | (with_reducible refine Below.drew ?_) | (with_reducible refine below_drewN ?_ _) | (with_reducible refine Below.trans ?_ (Below.mono (Hid.out (by assumption)) ?_)) | omega | (simp; done) | (simp; omega)))
        · simp only [intOf]; omega
      · have hk4' : ¬ (k : Int) < 4096 := by omega
        clear hb b0
        go_wp2_with fail
        go_ret
        exact ⟨rfl, Hb.out, hn, HB.out.below Hb.out, HA.out, 0, h, by omega, B0.out⟩
    · obtain rfl : k = n := by omega
      clear hb b0
      go_wp2_with fail
      go_ret
      exact ⟨rfl, Hb.out, hn, HB.out.below Hb.out, HA.out, 0, h, by omega, B0.out⟩

end Go.Proofs.Ythblbamiammodaa
