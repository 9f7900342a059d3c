/- Sets of points told without Go: five truth values, their digits in base 2, their ascending list. The contract of (pointSet).ascending: the ascending list of a set, in new memory. Lists in memory: what they hold, and the contracts of laws.eqInt64S, laws.markInt64S and laws.heldInt64S. The contract of laws.toInt64S: a copy of a list that came in. The contracts of spec.l01Made and spec.MapOf. -/
import Derived.Test.YthblbamiammodaaBase
namespace Go.Proofs.Ythblbamiammodaa
open Go.RowKit

def bi (b : Bool) (x : Int) : Int := if b then x else 0
def mask (b : Nat → Bool) : Int := bi (b 0) 1 + bi (b 1) 2 + bi (b 2) 4 + bi (b 3) 8 + bi (b 4) 16
def setB (b : Nat → Bool) (j : Nat) : Nat → Bool := fun i => if i = j then true else b i
def ascK (b : Nat → Bool) (k : Nat) : List Int := ((List.range k).filter b).map Int.ofNat
def asc (b : Nat → Bool) : List Int := ascK b 5
/-- The points to which the first k points are led. -/
def imgK (t : Nat → Int) (k : Nat) : Nat → Bool := fun j => (List.range k).any fun i => t i == (j : Int)
def imgB (p : Int) (t : Nat → Int) : Nat → Bool := imgK t p.toNat
theorem ascK_succ (b : Nat → Bool) (k : Nat) : ascK b (k + 1) = if b k = true then ascK b k ++ [(k : Int)] else ascK b k := by
  unfold ascK
  rw [List.range_succ, List.filter_append, List.map_append]
  by_cases h : b k = true <;> simp [h]
theorem ascK_len (b : Nat → Bool) (k : Nat) : (ascK b k).length ≤ k := by
  unfold ascK
  have := List.length_filter_le b (List.range k)
  simp at this ⊢
  exact this
theorem imgK_succ (t : Nat → Int) (k : Nat) (h0 : 0 ≤ t k) : setB (imgK t k) (t k).toNat = imgK t (k + 1) := by
  funext j
  unfold setB imgK
  rw [List.range_succ, List.any_append]
  by_cases h : j = (t k).toNat
  · rw [if_pos h]; subst h; simp; right; omega
  · rw [if_neg h]
    have : (t k == (j : Int)) = false := by simp; omega
    simp [this]
def cells5 (b : Nat → Bool) : Array Value := #[.bool (b 0), .bool (b 1), .bool (b 2), .bool (b 3), .bool (b 4)]
theorem cells5_at (b : Nat → Bool) (k : Nat) (hk : k < 5) : (cells5 b)[k]? = some (.bool (b k)) := by
  rcases (by omega : k = 0 ∨ k = 1 ∨ k = 2 ∨ k = 3 ∨ k = 4) with rfl | rfl | rfl | rfl | rfl <;> rfl
theorem cells5_set (b : Nat → Bool) (k : Nat) (hk : k < 5) : (cells5 b).setIfInBounds k (.bool true) = cells5 (setB b k) := by
  rcases (by omega : k = 0 ∨ k = 1 ∨ k = 2 ∨ k = 3 ∨ k = 4) with rfl | rfl | rfl | rfl | rfl <;> rfl
theorem cells5_put (b : Nat → Bool) (k : Nat) (hk : k < 5) (x : Bool) : (cells5 b).setIfInBounds k (.bool x) = cells5 (fun i => if i = k then x else b i) := by
  rcases (by omega : k = 0 ∨ k = 1 ∨ k = 2 ∨ k = 3 ∨ k = 4) with rfl | rfl | rfl | rfl | rfl <;> rfl
theorem blk5 {w : World} {b T : Nat} {fr : Nat × Nat} {s : Nat → Bool} (h : w.heap[b]? = some (.cells (cells5 s) T fr)) :
    w.cell? ⟨b, 0, none⟩ = some (.bool (s 0)) ∧ w.cell? ⟨b, 1, none⟩ = some (.bool (s 1)) ∧ w.cell? ⟨b, 2, none⟩ = some (.bool (s 2)) ∧ w.cell? ⟨b, 3, none⟩ = some (.bool (s 3)) ∧ w.cell? ⟨b, 4, none⟩ = some (.bool (s 4)) :=
  ⟨Joins.cell_of_block h 0, Joins.cell_of_block h 1, Joins.cell_of_block h 2, Joins.cell_of_block h 3, Joins.cell_of_block h 4⟩
theorem blk5_at {w : World} {b T : Nat} {fr : Nat × Nat} {s : Nat → Bool} (h : w.heap[b]? = some (.cells (cells5 s) T fr)) (k : Nat) (hk : k < 5) : w.cell? ⟨b, k, none⟩ = some (.bool (s k)) :=
  (Joins.cell_of_block h k).trans (cells5_at s k hk)
theorem blk5_set {w : World} {b T : Nat} {fr : Nat × Nat} {s : Nat → Bool} (h : w.heap[b]? = some (.cells (cells5 s) T fr)) (k : Nat) (hk : k < 5) :
    (w.setCell ⟨b, k, none⟩ (.bool true)).heap[b]? = some (.cells (cells5 (setB s k)) T fr) := by
  rw [Joins.block_setCell h, cells5_set s k hk]
theorem mask_bd (b : Nat → Bool) : 0 ≤ mask b ∧ mask b ≤ 31 := by
  unfold mask bi
  cases b 0 <;> cases b 1 <;> cases b 2 <;> cases b 3 <;> cases b 4 <;> decide
/-- A list that a call made: it is told by its numbers. -/
def Own (w : World) (base : Nat) (v : Value) (L : List Int) : Prop := w.ownsRow base 2 1 v L.length (L.map (Value.int .i64))
theorem own_shape {w : World} {base : Nat} {v : Value} {L : List Int} (h : Own w base v L) : (v = .slice none 0 0 ∧ L = []) ∨ ∃ g cap, v = .slice (some ⟨g, 0, none⟩) L.length cap ∧ base ≤ g ∧ g < w.heap.size := by
  rcases h.2 with ⟨h1, h2⟩ | ⟨g, cap, cur, h1, h2, h3, _⟩
  · exact Or.inl ⟨h1, List.length_eq_zero_iff.1 h2⟩
  · exact Or.inr ⟨g, cap, h1, h2, (Array.getElem?_eq_some_iff.1 h3).1⟩
theorem info_int : (Try.prog.info? 2).map (fun i => (i.zero, i.size, i.bytes)) = some (some (.int .i64 0), 1, 8) := by kernel_rfl

end Go.Proofs.Ythblbamiammodaa

namespace Go.Proofs.Ythblbamiammodaa
open Go.RowKit

/-- The call returns a list of its own. -/
def RetOwn (B : Nat) (L : List Int) (w : World) (e : Ending) (w' : World) : Prop := ∃ v, e = .returned v ∧ Own w' B v L ∧ Below w.heap.size w w'

theorem idx5b (s : Nat → Bool) (k : Nat) (hk : k < 5) (w : World) :
    (Instr.index 74 (.agg #[.bool (s 0), .bool (s 1), .bool (s 2), .bool (s 3), .bool (s 4)]) (.int .i64 (k : Int))).run Try.prog w = .ok (.bool (s k)) w := by
  rcases (by omega : k = 0 ∨ k = 1 ∨ k = 2 ∨ k = 3 ∨ k = 4) with rfl | rfl | rfl | rfl | rfl <;> kernel_rfl

set_option maxHeartbeats 1000000 in
theorem asc_any (s : Nat → Bool) (w : World) :
    Calls Try.prog 70 #[.agg (cells5 s)] w (RetOwn w.heap.size (asc s) w) := by
  obtain ⟨i0, hi, hz0, hz1, hz2⟩ := info_parts info_int
  simp only [cells5]
  go_enter Try.func70, Try.ntmps70
  go_wp2_with fail
  go_loopw [3, 4, 5, 7] (fun v _ _ i wr => ∃ k : Nat, k ≤ 5 ∧ i = .int .i64 k ∧ wr.ownsRow (w.heap.size + 1) 2 1 v (ascK s k).length ((ascK s k).map (Value.int .i64)) ∧ Below (w.heap.size + 1) (w.alloc (.cells (cells5 s) 74)) wr) (fun _ _ _ i _ => 5 - (intOf i).toNat)
  case atStart => exact ⟨0, by omega, rfl, World.ownsRow_nil _ _ _ _, Below.refl _ _⟩
  case round =>
    obtain ⟨k, hk, rfl, hown, hb⟩ := hrel
    have Hb := Lib.hid hb
    have hsz := hb.size
    simp at hsz
    clear hb
    by_cases hk5 : k < 5
    · have hk5' : (k : Int) < 5 := by omega
      have hix := idx5b s k hk5
      have hlen := ascK_len s k
      cases hs : s k
      · have hown' : Hid (wr.ownsRow (w.heap.size + 1) 2 1 u3 (ascK s (k + 1)).length ((ascK s (k + 1)).map (Value.int .i64))) := by rw [ascK_succ, if_neg (by rw [hs]; exact Bool.false_ne_true)]; exact hown
        clear hown
        rw [hs] at hix
        clear hs
        go_wp2_with fail
        go_roundw
        case rel => exact ⟨k + 1, by omega, by go_num, hown'.out, Hb.out⟩
        case measure => simp [intOf]; omega
      · have hst := hs
        have Hst := Lib.hid hst
        rw [hs] at hix
        clear hs hst
        go_wp2_with (at_builtin; refine wpList_append_own _ rfl _ _ 34 rfl (w.heap.size + 1) 2 i0 (.int .i64 0) 1 8 Try.underlying34 hi hz0 hz1 hz2 rfl (by decide) _ _ _ rfl (hown.alloc _) ⟨wr.heap.size, 0, none⟩ 1 1 [.int .i64 k] rfl rfl ?c1 ?c2 ?c3 ?c4 ?c5 ?_)
        case c1 =>
          intro j u hj
          match j, hj with
          | 0, hj => simp at hj; subst hj; simp [Addr.add]
        case c2 => intro u hu; simp at hu; subst hu; rfl
        case c3 => unfold maxLen; omega
        case c4 => omega
        case c5 => simp; omega
        intro v' w1 hown' hgrow _
        have hown2 : Hid (w1.ownsRow (w.heap.size + 1) 2 1 v' (ascK s (k + 1)).length ((ascK s (k + 1)).map (Value.int .i64))) := by
          refine Lib.hid ?_
          rw [ascK_succ, if_pos Hst.out]; simpa using hown'
        have hb2 : Hid (Below (w.heap.size + 1) (w.alloc (.cells (cells5 s) 74)) w1) :=
          (Hb.out.alloc (by omega) _).grown hgrow (by simp; omega) (fun b hbk => by
            rcases hown.2 with ⟨hv, _⟩ | ⟨g, cap, cur, hv, hg, _⟩
            · rw [hv] at hbk; cases hbk
            · rw [hv] at hbk; cases hbk; exact hg)
        clear hown' hgrow hown
        go_wp2_with fail
        go_roundw
        case rel => exact ⟨k + 1, by omega, by go_num, hown2.out, hb2.out⟩
        case measure => simp [intOf]; omega
    · obtain rfl : k = 5 := by omega
      have Hown := Lib.hid hown
      clear hown
      go_wp2_with fail
      go_ret
      exact ⟨_, rfl, Joins.ownsRow_le Hown.out (by omega), bel_new Hb.out (by omega)⟩

end Go.Proofs.Ythblbamiammodaa

namespace Go.Proofs.Ythblbamiammodaa
open Go.RowKit

/-- The address leads to a row from block B on that holds the numbers of L and may be written. -/
def Rd (w : World) (B : Nat) (a : Option Addr) (L : List Int) : Prop :=
  L.length ≤ 2000000 ∧ (L = [] ∨ ∃ g, a = some ⟨g, 0, none⟩ ∧ B ≤ g ∧ g < w.heap.size ∧ ∀ i, i < L.length → w.cell? ⟨g, i, none⟩ = some (.int .i64 (L.getD i 0)) ∧ w.frozen? ⟨g, i, none⟩ = false)

theorem Rd.below {w w' : World} {B : Nat} {a : Option Addr} {L : List Int} (h : Rd w B a L) (hb : Below w.heap.size w w') : Rd w' B a L := by
  refine ⟨h.1, ?_⟩
  rcases h.2 with h0 | ⟨g, ha, hB, hg, hc⟩
  · exact Or.inl h0
  · refine Or.inr ⟨g, ha, hB, by have := hb.size; omega, fun i hi => ?_⟩
    rw [hb.cell (p := ⟨g, i, none⟩) hg, hb.frozen (p := ⟨g, i, none⟩) hg]
    exact hc i hi

theorem Rd.mono {w : World} {B B' : Nat} {a : Option Addr} {L : List Int} (h : Rd w B a L) (hB : B' ≤ B) : Rd w B' a L := by
  refine ⟨h.1, ?_⟩
  rcases h.2 with h0 | ⟨g, ha, hb, hg, hc⟩
  · exact Or.inl h0
  · exact Or.inr ⟨g, ha, Nat.le_trans hB hb, hg, hc⟩

/-- Of the world nothing has turned but the block that begins at a. -/
structure But (w w' : World) (a : Option Addr) : Prop where
  os : w'.os = w.os
  tape : w'.tape = w.tape
  output : w'.output = w.output
  size : w'.heap.size = w.heap.size
  block : ∀ b, a ≠ some ⟨b, 0, none⟩ → w'.heap[b]? = w.heap[b]?

theorem But.refl (w : World) (a : Option Addr) : But w w a := ⟨rfl, rfl, rfl, rfl, fun _ _ => rfl⟩

/-- A row beyond the block that has turned is read as before. -/
theorem Rd.but {w w' : World} {B g : Nat} {a : Option Addr} {L : List Int} (h : Rd w B a L) (hb : But w w' (some ⟨g, 0, none⟩)) (hg : g < B) : Rd w' B a L := by
  refine ⟨h.1, ?_⟩
  rcases h.2 with h0 | ⟨k, ha, hB, hk, hc⟩
  · exact Or.inl h0
  · refine Or.inr ⟨k, ha, hB, by rw [hb.size]; exact hk, fun i hi => ?_⟩
    have e := hb.block k (by intro e; injection e with e; injection e with e; omega)
    have h1 := hc i hi
    unfold World.cell? World.frozen? at h1 ⊢
    rw [e]
    exact h1

theorem But.below {w w' : World} {B : Nat} {a : Option Addr} {L M : List Int} (h : But w w' a) (hr : Rd w B a L) (_ : M.length = L.length) (hL : L = [] → w' = w) : Below B w w' := by
  rcases hr.2 with h0 | ⟨g, ha, hB, _, _⟩
  · rw [hL h0]; exact Below.refl _ _
  · exact ⟨h.os, h.tape, h.output, Nat.le_of_eq h.size.symm, fun b hb => h.block b (by rw [ha]; intro e; injection e with e; injection e with e; omega)⟩

theorem set_getD (L : List Int) (k i : Nat) (x : Int) (hk : k < L.length) : (L.set k x).getD i 0 = if i = k then x else L.getD i 0 := by
  by_cases h : i = k
  · subst h; simp [hk]
  · rw [if_neg h]; simp [Ne.symm h]



/-- The marks that markInt64S writes. -/
def mk (n : Nat) (k0 : Int) : List Int := (List.range n).map fun (i : Nat) => k0 + (i : Int)

theorem mk_len (n : Nat) (k0 : Int) : (mk n k0).length = n := by simp [mk]

theorem mk_getD (n : Nat) (k0 : Int) (i : Nat) (h : i < n) : (mk n k0).getD i 0 = k0 + i := by
  simp [mk, h]

/-- What markInt64S leaves: the marks in the row, all else as it was. -/
def Marked (w : World) (B : Nat) (a : Option Addr) (L : List Int) (k0 : Int) (e : Ending) (w' : World) : Prop :=
  e = .returned (.int .i64 (k0 + L.length)) ∧ Rd w' B a (mk L.length k0) ∧ But w w' a ∧ Below B w w'





/-- The call returns a list of its own and a code. -/
def RetRow (B : Nat) (L : List Int) (c : Int) (w : World) (e : Ending) (w' : World) : Prop :=
  ∃ a cap, e = .returned (.tuple #[.slice a L.length cap, .int .i64 c]) ∧ Rd w' B a L ∧ Below w.heap.size w w'

theorem own_rd {w : World} {B : Nat} {v : Value} {L : List Int} (h : Own w B v L) (hL : L.length ≤ 2000000) : ∃ a cap, v = .slice a L.length cap ∧ Rd w B a L := by
  have h2 := h.2
  rcases h2 with ⟨h1, h0⟩ | ⟨g, cap, cur, h1, hB, hg, hn, hcap, hsz, htk⟩
  · have := List.length_eq_zero_iff.1 h0
    subst this
    exact ⟨none, 0, h1, hL, Or.inl rfl⟩
  · refine ⟨_, cap, h1, hL, Or.inr ⟨g, rfl, hB, (Array.getElem?_eq_some_iff.1 hg).1, fun i hi => ⟨?_, Joins.unfrozen_of_block hg i⟩⟩⟩
    rw [Joins.cell_of_block hg i]
    have e : cur.toList[i]? = (L.map (Value.int .i64))[i]? := by
      rw [← htk, List.getElem?_take, if_pos (by omega)]
    rw [← Array.getElem?_toList, e, List.getElem?_map, List.getElem?_eq_getElem hi]
    simp [hi]

theorem own_empty (w : World) (base : Nat) (h : base ≤ w.heap.size) : (w.alloc (.cells #[] 2)).ownsRow base 2 1 (.slice (some ⟨w.heap.size, 0, none⟩) 0 0) 0 [] :=
  ⟨rfl, Or.inr ⟨_, 0, #[], rfl, h, halloc_at _ _ _ rfl, Nat.le_refl _, Nat.zero_le _, rfl, rfl⟩⟩

theorem bel_alloc_rd {w : World} {B : Nat} {a : Option Addr} {L : List Int} (h : Rd w B a L) (o : Obj) : Rd (w.alloc o) B a L := h.below ((Below.refl _ _).alloc (Nat.le_refl _) _)

end Go.Proofs.Ythblbamiammodaa

namespace Go.Proofs.Ythblbamiammodaa
open Go.RowKit

/-- A list that came in: empty, or its cells lie at an address. -/
def InRow (w : World) (a : Option Addr) (L : List Int) : Prop :=
  L = [] ∨ ∃ b off, a = some ⟨b, off, none⟩ ∧ b < w.heap.size ∧ ∀ i, i < L.length → w.cell? ⟨b, off + i, none⟩ = some (.int .i64 (L.getD i 0))

theorem InRow.below {w w' : World} {a : Option Addr} {L : List Int} (h : InRow w a L) (hb : Below w.heap.size w w') : InRow w' a L := by
  rcases h with h0 | ⟨b, off, ha, hlt, hc⟩
  · exact Or.inl h0
  · exact Or.inr ⟨b, off, ha, by have := hb.size; omega, fun i hi => by rw [hb.cell (p := ⟨b, off + i, none⟩) hlt]; exact hc i hi⟩

/-- The call returns a copy of its own. -/
def RetCopy (L : List Int) (w : World) (e : Ending) (w' : World) : Prop :=
  ∃ a, e = .returned (.slice a L.length L.length) ∧ Rd w' w.heap.size a L ∧ Below w.heap.size w w' ∧ a = some ⟨w.heap.size, 0, none⟩ ∧ w.heap.size < w'.heap.size



end Go.Proofs.Ythblbamiammodaa

namespace Go.Proofs.Ythblbamiammodaa
open Go.RowKit

/-- The images of a list, 0 behind its end. -/
def tL (L : List Int) : Nat → Int := fun i => L.getD i 0

def tLk (L : List Int) (k : Nat) : Nat → Int := fun i => if i < k then L.getD i 0 else 0

theorem tLk_succ (L : List Int) (k : Nat) : upd (tLk L k) k (L.getD k 0) = tLk L (k + 1) := by
  funext i
  unfold upd tLk
  by_cases h : i = k
  · subst h; simp
  · by_cases h' : i < k
    · rw [if_neg h, if_pos h', if_pos (by omega)]
    · rw [if_neg h, if_neg h', if_neg (by omega)]

theorem tLk_all (L : List Int) : tLk L L.length = tL L := by
  funext i
  unfold tLk tL
  by_cases h : i < L.length
  · rw [if_pos h]
  · rw [if_neg h]; simp [List.getElem?_eq_none (Nat.le_of_not_lt h)]

theorem Rd.inRow {w : World} {B : Nat} {a : Option Addr} {L : List Int} (h : Rd w B a L) : InRow w a L := by
  rcases h.2 with h0 | ⟨g, ha, _, hg, hc⟩
  · exact Or.inl h0
  · exact Or.inr ⟨g, 0, ha, hg, fun i hi => by rw [Nat.zero_add]; exact (hc i hi).1⟩

set_option maxHeartbeats 1000000 in
theorem made_any (L : List Int) (h1 : 1 ≤ L.length) (h5 : L.length ≤ 5) (a : Option Addr) (c : Nat) (w : World) (h : InRow w a L) :
    Calls Try.prog 53 #[.slice a L.length c] w fun e w' => e = .returned (mv L.length (tL L)) ∧ Below w.heap.size w w' := by
  obtain ⟨b, off, rfl, hlt, hin⟩ := h.resolve_left (fun e => by rw [e] at h1; simp at h1)
  have HIN := Lib.hid hin
  have HT := Lib.hid (tLk_all L)
  clear h hin
  go_enter Try.func53, Try.ntmps53
  go_wp2_with fail
  go_loopw [4] (fun i wr => ∃ k : Nat, k ≤ L.length ∧ i = .int .i64 k ∧ Below w.heap.size w wr ∧ w.heap.size + 1 < wr.heap.size ∧
      wr.heap[w.heap.size]? = some (.cells (mcells 0 fun _ => 0) 26 (0, 0)) ∧ wr.heap[w.heap.size + 1]? = some (.cells (mcells L.length (tLk L k)) 26 (0, 0))) (fun i _ => L.length - (intOf i).toNat)
  case atStart =>
    refine ⟨0, by omega, rfl, ?_, by simp, ?_, ?_⟩
    · (repeat' (first | (with_reducible exact Below.refl _ _) | (with_reducible refine Below.alloc ?_ ?_ _) | (with_reducible refine Below.setCell ?_ ?_ _) | (with_reducible refine Below.drew ?_) | (with_reducible refine below_drewN ?_ _) | (with_reducible refine Below.trans ?_ (Below.mono (Hid.out (by assumption)) ?_)) | omega | (simp; done) | (simp; omega)))
    · ((try rw [hdrew]); simp only [halloc, Array.getElem?_push, Array.size_push]; (repeat (first | rw [if_pos (by omega)] | rw [if_neg (by omega)])); try rfl)
    · ((try rw [hdrew]); simp only [halloc, Array.getElem?_push, Array.size_push]; (repeat (first | rw [if_pos (by omega)] | rw [if_neg (by omega)])); try rfl)
  case round =>
    obtain ⟨k, hk, rfl, hb, hsz, b0, b1⟩ := hrel
    have HB := Lib.hid hb
    have B0 := Lib.hid b0
    have B1 := Lib.hid b1
    clear hb b0 b1
    by_cases hkl : k < L.length
    · have hkl' : (k : Int) < (L.length : Int) := by omega
      have k5' : (k : Int) < 5 := by omega
      have e1 := HIN.out k hkl
      rw [← HB.out.cell (p := ⟨b, off + k, none⟩) hlt] at e1
      have hok := blk_at B1.out k (by omega)
      have hfr := blk_free B1.out (1 + k)
      have hset := blk_set B1.out k (by omega) (L.getD k 0)
      rw [tLk_succ] at hset
      have HSET := Lib.hid hset
      clear hset
      generalize L.getD k 0 = X at *
      go_wp2_with fail
      go_roundw
      case rel =>
        refine ⟨k + 1, by omega, by go_num, HB.out.setCell (by simp) _, by simpa using hsz, ?_, HSET.out⟩
        rw [hset_ne _ _ _ _ (by simp)]; exact B0.out
      case measure => simp [intOf]; omega
    · obtain rfl : k = L.length := by omega
      obtain ⟨e0, e1, e2, e3, e4, e5⟩ := blk6 B1.out
      obtain ⟨r0, r1, r2, r3, r4, r5⟩ := blk6 B0.out
      have hfr := blk_free B0.out
      go_wp2_with fail
      refine bodyPost_ret (v := mv L.length (tLk L L.length)) (by simp [results, Try.results53, go_sem, r0, r1, r2, r3, r4, r5]) rfl ⟨by rw [HT.out], ?_⟩
      (repeat' (first | (with_reducible exact Below.refl _ _) | (with_reducible refine Below.alloc ?_ ?_ _) | (with_reducible refine Below.setCell ?_ ?_ _) | (with_reducible refine Below.drew ?_) | (with_reducible refine below_drewN ?_ _) | (with_reducible refine Below.trans ?_ (Below.mono (Hid.out (by assumption)) ?_)) | omega | (simp; done) | (simp; omega)))

def mapC (L : List Int) : Int := if isB L.length (tL L) = true then 0 else 2

def mapV (L : List Int) : Value := .tuple #[mv (resP (mapC L) L.length) (resT (mapC L) (tL L)), .int .i64 (mapC L)]

theorem mapV_0 {L : List Int} (h : isB L.length (tL L) = true) : mapV L = .tuple #[mv L.length (tL L), .int .i64 0] := by
  have e : mapC L = 0 := by unfold mapC; rw [if_pos h]
  unfold mapV; rw [e]; rfl

theorem mapV_2 {L : List Int} (h : isB L.length (tL L) = false) : mapV L = .tuple #[mv 0 fun _ => 0, .int .i64 2] := by
  have e : mapC L = 2 := by unfold mapC; rw [if_neg (by rw [h]; exact Bool.false_ne_true)]
  unfold mapV; rw [e]; rfl

theorem isB_list {L : List Int} (h1 : 1 ≤ L.length) (h5 : L.length ≤ 5) (h : ∀ j, j < L.length → 0 ≤ L.getD j 0 ∧ L.getD j 0 ≤ (L.length : Int) - 1) : isB L.length (tL L) = true := by
  rw [isB_true]
  refine ⟨by omega, by omega, fun i _ => ⟨fun c => h i (by omega), fun c => ?_⟩⟩
  unfold tL
  simp [List.getElem?_eq_none (show L.length ≤ i by omega)]



end Go.Proofs.Ythblbamiammodaa
