/- Lists in memory: what they hold, and the contracts of laws.eqInt64S, laws.markInt64S and laws.heldInt64S. -/
import Derived.Test.YtaabenkbcbpccaaSet
namespace Go.Proofs.Ytaabenkbcbpccaa
open Go.RowKit

/-- The address leads to a row from block B on that holds the numbers of L and may be written. -/
def Rd (w : World) (B : Nat) (a : Option Addr) (L : List Int) : Prop :=
  L.length ≤ 2000000 ∧ (L = [] ∨ ∃ g, a = some ⟨g, 0, none⟩ ∧ B ≤ g ∧ g < w.heap.size ∧ ∀ i, i < L.length → w.cell? ⟨g, i, none⟩ = some (.int .i64 (L.getD i 0)) ∧ w.frozen? ⟨g, i, none⟩ = false)

theorem Rd.below {w w' : World} {B : Nat} {a : Option Addr} {L : List Int} (h : Rd w B a L) (hb : Below w.heap.size w w') : Rd w' B a L := by
  refine ⟨h.1, ?_⟩
  rcases h.2 with h0 | ⟨g, ha, hB, hg, hc⟩
  · exact Or.inl h0
  · refine Or.inr ⟨g, ha, hB, by have := hb.size; omega, fun i hi => ?_⟩
    rw [hb.cell (p := ⟨g, i, none⟩) hg, hb.frozen (p := ⟨g, i, none⟩) hg]
    exact hc i hi

theorem Rd.mono {w : World} {B B' : Nat} {a : Option Addr} {L : List Int} (h : Rd w B a L) (hB : B' ≤ B) : Rd w B' a L := by
  refine ⟨h.1, ?_⟩
  rcases h.2 with h0 | ⟨g, ha, hb, hg, hc⟩
  · exact Or.inl h0
  · exact Or.inr ⟨g, ha, Nat.le_trans hB hb, hg, hc⟩

/-- Of the world nothing has turned but the block that begins at a. -/
structure But (w w' : World) (a : Option Addr) : Prop where
  os : w'.os = w.os
  tape : w'.tape = w.tape
  output : w'.output = w.output
  size : w'.heap.size = w.heap.size
  block : ∀ b, a ≠ some ⟨b, 0, none⟩ → w'.heap[b]? = w.heap[b]?

theorem But.refl (w : World) (a : Option Addr) : But w w a := ⟨rfl, rfl, rfl, rfl, fun _ _ => rfl⟩

/-- A row beyond the block that has turned is read as before. -/
theorem Rd.but {w w' : World} {B g : Nat} {a : Option Addr} {L : List Int} (h : Rd w B a L) (hb : But w w' (some ⟨g, 0, none⟩)) (hg : g < B) : Rd w' B a L := by
  refine ⟨h.1, ?_⟩
  rcases h.2 with h0 | ⟨k, ha, hB, hk, hc⟩
  · exact Or.inl h0
  · refine Or.inr ⟨k, ha, hB, by rw [hb.size]; exact hk, fun i hi => ?_⟩
    have e := hb.block k (by intro e; injection e with e; injection e with e; omega)
    have h1 := hc i hi
    unfold World.cell? World.frozen? at h1 ⊢
    rw [e]
    exact h1

theorem But.below {w w' : World} {B : Nat} {a : Option Addr} {L M : List Int} (h : But w w' a) (hr : Rd w B a L) (_ : M.length = L.length) (hL : L = [] → w' = w) : Below B w w' := by
  rcases hr.2 with h0 | ⟨g, ha, hB, _, _⟩
  · rw [hL h0]; exact Below.refl _ _
  · exact ⟨h.os, h.tape, h.output, Nat.le_of_eq h.size.symm, fun b hb => h.block b (by rw [ha]; intro e; injection e with e; injection e with e; omega)⟩

theorem set_getD (L : List Int) (k i : Nat) (x : Int) (hk : k < L.length) : (L.set k x).getD i 0 = if i = k then x else L.getD i 0 := by
  by_cases h : i = k
  · subst h; simp [hk]
  · rw [if_neg h]; simp [Ne.symm h]

set_option maxHeartbeats 1000000 in
theorem eqS_same (L : List Int) (a1 a2 : Option Addr) (c1 c2 B1 B2 : Nat) (w : World) (h1 : Rd w B1 a1 L) (h2 : Rd w B2 a2 L) :
    Calls Try.prog 15 #[.slice a1 L.length c1, .slice a2 L.length c2] w fun e w' => e = .returned (.bool true) ∧ Below w.heap.size w w' := by
  have hn := h1.1
  have h1' := h1.2
  have h2' := h2.2
  clear h1 h2
  by_cases hL : L = []
  · subst hL
    clear h1' h2'
    simp only [List.length_nil]
    go_enter Try.func15, Try.ntmps15
    go_wp2_with fail
    refine wp_loop_rounds 1 ?_
    rw [rounds_succ]
    go_wp2_with fail
    go_ret
    exact ⟨rfl, Below.refl _ _⟩
  · obtain ⟨g1, rfl, _, _, hc1⟩ := h1'.resolve_left hL
    obtain ⟨g2, rfl, _, _, hc2⟩ := h2'.resolve_left hL
    have HC1 := Lib.hid hc1
    have HC2 := Lib.hid hc2
    clear h1' h2' hc1 hc2 hL
    go_enter Try.func15, Try.ntmps15
    go_wp2_with fail
    go_loopw [5] (fun i wr => ∃ k m : Nat, k ≤ L.length ∧ i = .int .i64 k ∧ wr = w.drewN m) (fun i _ => L.length - (intOf i).toNat)
    case atStart => exact ⟨0, 0, by omega, rfl, rfl⟩
    case round =>
      obtain ⟨k, m, hk, rfl, rfl⟩ := hrel
      by_cases hkl : k < L.length
      · have hkl' : (k : Int) < (L.length : Int) := by omega
        have e1 := (HC1.out k hkl).1
        have e2 := (HC2.out k hkl).1
        generalize L.getD k 0 = X at *
        go_wp2_with fail
        go_quiet (fail)
        go_wp2_with fail
        go_roundw
        case rel => exact ⟨k + 1, m + nq, by omega, by go_num, by simp⟩
        case measure => simp [intOf]; omega
      · go_wp2_with fail
        go_ret
        exact ⟨rfl, below_drewN (Below.refl _ _) _⟩

/-- The marks that markInt64S writes. -/
def mk (n : Nat) (k0 : Int) : List Int := (List.range n).map fun (i : Nat) => k0 + (i : Int)

theorem mk_len (n : Nat) (k0 : Int) : (mk n k0).length = n := by simp [mk]

theorem mk_getD (n : Nat) (k0 : Int) (i : Nat) (h : i < n) : (mk n k0).getD i 0 = k0 + i := by
  simp [mk, h]

/-- What markInt64S leaves: the marks in the row, all else as it was. -/
def Marked (w : World) (B : Nat) (a : Option Addr) (L : List Int) (k0 : Int) (e : Ending) (w' : World) : Prop :=
  e = .returned (.int .i64 (k0 + L.length)) ∧ Rd w' B a (mk L.length k0) ∧ But w w' a ∧ Below B w w'

set_option maxHeartbeats 1000000 in
theorem markS_any (L : List Int) (a : Option Addr) (c B : Nat) (k0 : Int) (hk0 : 0 ≤ k0) (hk1 : k0 ≤ 20000000) (w : World) (h : Rd w B a L) :
    Calls Try.prog 16 #[.slice a L.length c, .int .i64 k0] w (Marked w B a L k0) := by
  have hn := h.1
  have h' := h.2
  clear h
  by_cases hL : L = []
  · subst hL
    clear h'
    simp only [List.length_nil]
    go_enter Try.func16, Try.ntmps16
    go_wp2_with fail
    refine wp_loop_rounds 1 ?_
    rw [rounds_succ]
    go_wp2_with fail
    go_ret
    exact ⟨by simp, ⟨by simp [mk], Or.inl rfl⟩, But.refl _ _, Below.refl _ _⟩
  · obtain ⟨g, rfl, hB, hg, hc⟩ := h'.resolve_left hL
    have HC := Lib.hid hc
    clear h' hc
    go_enter Try.func16, Try.ntmps16
    go_wp2_with fail
    go_loopw [1, 5] (fun q i wr => ∃ k : Nat, k ≤ L.length ∧ i = .int .i64 k ∧ q = .int .i64 (k0 + k) ∧ But w wr (some ⟨g, 0, none⟩) ∧ Below B w wr ∧
        (∀ j, j < L.length → wr.cell? ⟨g, j, none⟩ = some (.int .i64 (if j < k then k0 + j else L.getD j 0)) ∧ wr.frozen? ⟨g, j, none⟩ = false)) (fun _ i _ => L.length - (intOf i).toNat)
    case atStart => exact ⟨0, by omega, rfl, by simp, But.refl _ _, Below.refl _ _, fun j hj => by simpa using HC.out j hj⟩
    case round =>
      obtain ⟨k, hk, rfl, rfl, hbut, hbel, hcs⟩ := hrel
      have HB := Lib.hid hbut
      have HL := Lib.hid hbel
      have HCS := Lib.hid hcs
      clear hbut hbel hcs
      by_cases hkl : k < L.length
      · have hkl' : (k : Int) < (L.length : Int) := by omega
        have e1 := (HCS.out k hkl).1
        have e2 := (HCS.out k hkl).2
        rw [if_neg (by omega)] at e1
        generalize hX : L.getD k 0 = X at *
        clear hX
        go_wp2_with fail
        go_roundw
        case rel =>
          refine ⟨k + 1, by omega, by go_num, by go_num, ?_, HL.out.setCell hB _, fun j hj => ?_⟩
          · exact ⟨HB.out.os, HB.out.tape, HB.out.output, by rw [← HB.out.size]; simp [World.setCell], fun b hb => by rw [hset_ne _ _ _ _ (fun e => hb (by rw [e]))]; exact HB.out.block b hb⟩
          · have hj' := HCS.out j hj
            by_cases hjk : j = k
            · subst hjk
              rw [if_pos (by omega)]
              exact ⟨World.cell?_setCell_same _ _ _ e1, by rw [World.frozen?_setCell]; exact hj'.2⟩
            · rw [World.cell?_setCell_other _ _ _ _ (by intro e; injection e with _ e; exact hjk e.symm), World.frozen?_setCell]
              refine ⟨?_, hj'.2⟩
              rw [hj'.1]
              by_cases c : j < k
              · rw [if_pos c, if_pos (by omega)]
              · rw [if_neg c, if_neg (by omega)]
        case measure => simp [intOf]; omega
      · obtain rfl : k = L.length := by omega
        go_wp2_with fail
        go_ret
        refine ⟨rfl, ⟨by rw [mk_len]; exact hn, Or.inr ⟨g, rfl, hB, by rw [HB.out.size]; exact hg, fun i hi => ?_⟩⟩, HB.out, HL.out⟩
        rw [mk_len] at hi
        rw [mk_getD _ _ _ hi]
        have := HCS.out i hi
        rw [if_pos hi] at this
        exact this

set_option maxHeartbeats 1000000 in
theorem heldS_any (n : Nat) (a : Option Addr) (c B : Nat) (k0 : Int) (hk0 : 0 ≤ k0) (hk1 : k0 ≤ 20000000) (w : World) (h : Rd w B a (mk n k0)) :
    Calls Try.prog 17 #[.slice a n c, .int .i64 k0] w fun e w' => e = .returned (.int .i64 (k0 + n)) ∧ Below w.heap.size w w' := by
  have hn := h.1
  have h' := h.2
  rw [mk_len] at hn
  clear h
  by_cases hL : n = 0
  · subst hL
    clear h'
    go_enter Try.func17, Try.ntmps17
    go_wp2_with fail
    refine wp_loop_rounds 1 ?_
    rw [rounds_succ]
    go_wp2_with fail
    go_ret
    exact ⟨by simp, Below.refl _ _⟩
  · obtain ⟨g, rfl, hB, hg, hc⟩ := h'.resolve_left (fun e => hL (by have := mk_len n k0; rw [e] at this; simpa using this.symm))
    rw [mk_len] at hc
    have HC := Lib.hid hc
    clear h' hc
    go_enter Try.func17, Try.ntmps17
    go_wp2_with fail
    go_loopw [1, 5] (fun q i wr => ∃ k : Nat, k ≤ n ∧ i = .int .i64 k ∧ q = .int .i64 (k0 + k) ∧ wr = w) (fun _ i _ => n - (intOf i).toNat)
    case atStart => exact ⟨0, by omega, rfl, by simp, rfl⟩
    case round =>
      obtain ⟨k, hk, rfl, rfl, rfl⟩ := hrel
      by_cases hkl : k < n
      · have hkl' : (k : Int) < (n : Int) := by omega
        have e1 := (HC.out k hkl).1
        rw [mk_getD _ _ _ hkl] at e1
        go_wp2_with fail
        go_roundw
        case rel => exact ⟨k + 1, by omega, by go_num, by go_num, trivial⟩
        case measure => simp [intOf]; omega
      · obtain rfl : k = n := by omega
        go_wp2_with fail
        go_ret
        exact ⟨rfl, Below.refl _ _⟩

/-- The call returns a list of its own and a code. -/
def RetRow (B : Nat) (L : List Int) (c : Int) (w : World) (e : Ending) (w' : World) : Prop :=
  ∃ a cap, e = .returned (.tuple #[.slice a L.length cap, .int .i64 c]) ∧ Rd w' B a L ∧ Below w.heap.size w w'

theorem own_rd {w : World} {B : Nat} {v : Value} {L : List Int} (h : Own w B v L) (hL : L.length ≤ 2000000) : ∃ a cap, v = .slice a L.length cap ∧ Rd w B a L := by
  have h2 := h.2
  rcases h2 with ⟨h1, h0⟩ | ⟨g, cap, cur, h1, hB, hg, hn, hcap, hsz, htk⟩
  · have := List.length_eq_zero_iff.1 h0
    subst this
    exact ⟨none, 0, h1, hL, Or.inl rfl⟩
  · refine ⟨_, cap, h1, hL, Or.inr ⟨g, rfl, hB, (Array.getElem?_eq_some_iff.1 hg).1, fun i hi => ⟨?_, Joins.unfrozen_of_block hg i⟩⟩⟩
    rw [Joins.cell_of_block hg i]
    have e : cur.toList[i]? = (L.map (Value.int .i64))[i]? := by
      rw [← htk, List.getElem?_take, if_pos (by omega)]
    rw [← Array.getElem?_toList, e, List.getElem?_map, List.getElem?_eq_getElem hi]
    simp [hi]

theorem own_empty (w : World) (base : Nat) (h : base ≤ w.heap.size) : (w.alloc (.cells #[] 2)).ownsRow base 2 1 (.slice (some ⟨w.heap.size, 0, none⟩) 0 0) 0 [] :=
  ⟨rfl, Or.inr ⟨_, 0, #[], rfl, h, halloc_at _ _ _ rfl, Nat.le_refl _, Nat.zero_le _, rfl, rfl⟩⟩

theorem bel_alloc_rd {w : World} {B : Nat} {a : Option Addr} {L : List Int} (h : Rd w B a L) (o : Obj) : Rd (w.alloc o) B a L := h.below ((Below.refl _ _).alloc (Nat.le_refl _) _)
end Go.Proofs.Ytaabenkbcbpccaa
