/- The contracts of laws.markMapS and laws.heldMapS: a list of maps whose cells are marked by numbers. -/
import Derived.Test.YtiogagaclhjdaaaMrow
import Derived.Test.YtiogagaclhjdaaaSl
namespace Go.Proofs.Ytiogagaclhjdaaa
open Go.RowKit

/-- The map of marks at place j. -/
def mkX (k0 : Int) (j : Nat) : MapN := (k0 + 6 * j, fun i => k0 + 6 * j + 1 + i)
def mkM (n : Nat) (k0 : Int) : List MapN := (List.range n).map fun j => mkX k0 j

theorem mkM_len (n : Nat) (k0 : Int) : (mkM n k0).length = n := by simp [mkM]

theorem mkM_getD (n : Nat) (k0 : Int) (j : Nat) (h : j < n) : (mkM n k0).getD j z0 = mkX k0 j := by
  simp [mkM, h]

/-- A row beyond the block that has turned is read as before. -/
theorem RdM.but {w w' : World} {B g : Nat} {a : Option Addr} {L : List MapN} (h : RdM w B a L) (hb : But w w' (some ⟨g, 0, none⟩)) (hg : g < B) : RdM w' B a L := by
  refine ⟨h.1, ?_⟩
  rcases h.2 with h0 | ⟨k, ha, hB, hk, hc, hf⟩
  · exact Or.inl h0
  · have e := hb.block k (by intro e; injection e with e; injection e with e; omega)
    exact Or.inr ⟨k, ha, hB, by rw [hb.size]; exact hk, fun j hj => (hc j hj).block e, fun x hx => by rw [World.frozen?_of_block (a := ⟨k, x, none⟩) e]; exact hf x hx⟩

/-- What markMapS leaves: the marks in the row, all else as it was. -/
def MarkedM (w : World) (B : Nat) (a : Option Addr) (n : Nat) (k0 : Int) (e : Ending) (w' : World) : Prop :=
  e = .returned (.int .i64 (k0 + 6 * n)) ∧ RdM w' B a (mkM n k0) ∧ But w w' a ∧ Below B w w'

theorem But.set {w wr : World} {g x : Nat} {v : Value} (h : But w wr (some ⟨g, 0, none⟩)) : But w (wr.setCell ⟨g, x, none⟩ v) (some ⟨g, 0, none⟩) :=
  ⟨h.os, h.tape, h.output, by rw [← h.size]; simp [World.setCell], fun b hb => by rw [hset_ne _ _ _ _ (fun e => hb (by rw [e]))]; exact h.block b hb⟩

theorem atM_set6 {w : World} {g j : Nat} {p t0 t1 t2 t3 t4 : Int} {X : MapN} (h : ∀ i, i < 6 → ∃ v, w.cell? ⟨g, j * 6 + i, none⟩ = some v)
    (e : X.1 = p) (e0 : X.2 0 = t0) (e1 : X.2 1 = t1) (e2 : X.2 2 = t2) (e3 : X.2 3 = t3) (e4 : X.2 4 = t4) :
    AtM (set6 w g (j * 6) (.int .i64 p) (.int .i64 t0) (.int .i64 t1) (.int .i64 t2) (.int .i64 t3) (.int .i64 t4)) g 0 j X := by
  have := set6_at w g (j * 6) (.int .i64 p) (.int .i64 t0) (.int .i64 t1) (.int .i64 t2) (.int .i64 t3) (.int .i64 t4) h
  subst e e0 e1 e2 e3 e4
  unfold AtM
  simp only [Nat.zero_add]
  exact this

theorem atM_set6_ne {w : World} {g j k : Nat} {p t0 t1 t2 t3 t4 : Value} {X : MapN} (h : AtM w g 0 j X) (e : j ≠ k) : AtM (set6 w g (k * 6) p t0 t1 t2 t3 t4) g 0 j X := by
  unfold AtM at h ⊢
  rw [set6_ne _ _ _ _ _ _ _ _ _ _ _ (by omega), set6_ne _ _ _ _ _ _ _ _ _ _ _ (by omega), set6_ne _ _ _ _ _ _ _ _ _ _ _ (by omega), set6_ne _ _ _ _ _ _ _ _ _ _ _ (by omega), set6_ne _ _ _ _ _ _ _ _ _ _ _ (by omega), set6_ne _ _ _ _ _ _ _ _ _ _ _ (by omega)]
  exact h

set_option maxRecDepth 100000 in
set_option maxHeartbeats 2000000 in
theorem markM_any (L : List MapN) (a : Option Addr) (c B : Nat) (k0 : Int) (hk0 : 0 ≤ k0) (hk1 : k0 ≤ 20000000) (w : World) (h : RdM w B a L) :
    Calls Try.prog 23 #[.slice a L.length c, .int .i64 k0] w (MarkedM w B a L.length k0) := by
  have hn := h.1
  have h' := h.2
  clear h
  by_cases hL : L = []
  · subst hL
    clear h'
    simp only [List.length_nil]
    go_enter Try.func23, Try.ntmps23
    go_wp2_with fail
    refine wp_loop_rounds 1 ?_
    rw [rounds_succ]
    go_wp2_with fail
    go_ret
    exact ⟨by simp, ⟨by simp [mkM], Or.inl rfl⟩, But.refl _ _, Below.refl _ _⟩
  · obtain ⟨g, rfl, hB, hg, hat, hfz⟩ := h'.resolve_left hL
    have HC : Hid (∀ x, x < L.length * 6 → (∃ v, w.cell? ⟨g, x, none⟩ = some v) ∧ w.frozen? ⟨g, x, none⟩ = false) := Lib.hid fun x hx => by
      refine ⟨?_, hfz x hx⟩
      obtain ⟨x0, x1, x2, x3, x4, x5⟩ := hat (x / 6) (by omega)
      have hm := Nat.mod_lt x (show 0 < 6 by omega)
      have hd := Nat.div_add_mod x 6
      have e : x % 6 = 0 ∨ x % 6 = 1 ∨ x % 6 = 2 ∨ x % 6 = 3 ∨ x % 6 = 4 ∨ x % 6 = 5 := by omega
      rcases e with e | e | e | e | e | e
      · exact ⟨_, by rw [show x = 0 + x / 6 * 6 by omega]; exact x0⟩
      · exact ⟨_, by rw [show x = 0 + x / 6 * 6 + 1 by omega]; exact x1⟩
      · exact ⟨_, by rw [show x = 0 + x / 6 * 6 + 2 by omega]; exact x2⟩
      · exact ⟨_, by rw [show x = 0 + x / 6 * 6 + 3 by omega]; exact x3⟩
      · exact ⟨_, by rw [show x = 0 + x / 6 * 6 + 4 by omega]; exact x4⟩
      · exact ⟨_, by rw [show x = 0 + x / 6 * 6 + 5 by omega]; exact x5⟩
    clear h' hat hfz hL
    go_enter Try.func23, Try.ntmps23
    go_wp2_with fail
    go_loopw [1, 5] (fun q i wr => ∃ k : Nat, k ≤ L.length ∧ i = .int .i64 k ∧ q = .int .i64 (k0 + 6 * k) ∧ But w wr (some ⟨g, 0, none⟩) ∧ Below B w wr ∧
        (∀ j, j < k → AtM wr g 0 j (mkX k0 j)) ∧ (∀ x, x < L.length * 6 → (∃ v, wr.cell? ⟨g, x, none⟩ = some v) ∧ wr.frozen? ⟨g, x, none⟩ = false)) (fun _ i _ => L.length - (intOf i).toNat)
    case atStart => exact ⟨0, by omega, rfl, by simp, But.refl _ _, Below.refl _ _, fun j hj => by omega, HC.out⟩
    case round =>
      obtain ⟨k, hk, rfl, rfl, hbut, hbel, hat, hcs⟩ := hrel
      have HB := Lib.hid hbut
      have HL := Lib.hid hbel
      have HAT := Lib.hid hat
      have HCS := Lib.hid hcs
      clear hbut hbel hcs hat HC
      by_cases hkl : k < L.length
      · have hkl' : (k : Int) < (L.length : Int) := by omega
        obtain ⟨⟨v0, y0⟩, f0⟩ := HCS.out (k * 6) (by omega)
        obtain ⟨⟨v1, y1⟩, f1⟩ := HCS.out (k * 6 + 1) (by omega)
        obtain ⟨⟨v2, y2⟩, f2⟩ := HCS.out (k * 6 + 2) (by omega)
        obtain ⟨⟨v3, y3⟩, f3⟩ := HCS.out (k * 6 + 3) (by omega)
        obtain ⟨⟨v4, y4⟩, f4⟩ := HCS.out (k * 6 + 4) (by omega)
        obtain ⟨⟨v5, y5⟩, f5⟩ := HCS.out (k * 6 + 5) (by omega)
        go_wp2_with fail
        refine wp_loop_rounds 6 ?_
        repeat (rw [rounds_succ]; go_wp2_with fail)
        go_roundw
        case rel =>
          refine ⟨k + 1, by omega, by go_num, by go_num, HB.out.set.set.set.set.set.set, (((((HL.out.setCell hB _).setCell hB _).setCell hB _).setCell hB _).setCell hB _).setCell hB _, fun j hj => ?_, fun x hx => ⟨?_, ?_⟩⟩
          · by_cases e : j = k
            · subst e
              refine atM_set6 (fun i hi => (HCS.out _ (by omega)).1) ?_ ?_ ?_ ?_ ?_ ?_ <;> (simp only [mkX] <;> omega)
            · exact atM_set6_ne (HAT.out j (by omega)) e
          · exact set6_is wr g (k * 6) x _ _ _ _ _ _ (HCS.out x hx).1
          · rw [set6_frozen]
            exact (HCS.out x hx).2
        case measure => simp [intOf]; omega
      · obtain rfl : k = L.length := by omega
        go_wp2_with fail
        go_ret
        exact ⟨rfl, ⟨by rw [mkM_len]; exact hn, Or.inr ⟨g, rfl, hB, by rw [HB.out.size]; exact hg, fun j hj => (by rw [mkM_len] at hj; rw [mkM_getD _ _ _ hj]; exact HAT.out j hj), fun x hx => (HCS.out x (by rw [mkM_len] at hx; exact hx)).2⟩⟩, HB.out, HL.out⟩

set_option maxRecDepth 100000 in
set_option maxHeartbeats 2000000 in
theorem heldM_any (n : Nat) (a : Option Addr) (c B : Nat) (k0 : Int) (hk0 : 0 ≤ k0) (hk1 : k0 ≤ 20000000) (w : World) (h : RdM w B a (mkM n k0)) :
    Calls Try.prog 24 #[.slice a n c, .int .i64 k0] w fun e w' => e = .returned (.int .i64 (k0 + 6 * n)) ∧ Below w.heap.size w w' := by
  have hn := h.1
  have h' := h.2
  rw [mkM_len] at hn
  clear h
  by_cases hL : n = 0
  · subst hL
    clear h'
    go_enter Try.func24, Try.ntmps24
    go_wp2_with fail
    refine wp_loop_rounds 1 ?_
    rw [rounds_succ]
    go_wp2_with fail
    go_ret
    exact ⟨by simp, Below.refl _ _⟩
  · obtain ⟨g, rfl, hB, hg, hc, _⟩ := h'.resolve_left (fun e => hL (by have := mkM_len n k0; rw [e] at this; simpa using this.symm))
    rw [mkM_len] at hc
    have HC := Lib.hid hc
    clear h' hc
    go_enter Try.func24, Try.ntmps24
    go_wp2_with fail
    go_loopw [1, 5] (fun q i wr => ∃ k : Nat, k ≤ n ∧ i = .int .i64 k ∧ q = .int .i64 (k0 + 6 * k) ∧ wr = w) (fun _ i _ => n - (intOf i).toNat)
    case atStart => exact ⟨0, by omega, rfl, by simp, rfl⟩
    case round =>
      obtain ⟨k, hk, rfl, rfl, rfl⟩ := hrel
      by_cases hkl : k < n
      · have hkl' : (k : Int) < (n : Int) := by omega
        obtain ⟨x0, x1, x2, x3, x4, x5⟩ := HC.out k hkl
        rw [mkM_getD _ _ _ hkl] at x0 x1 x2 x3 x4 x5
        simp only [mkX, Nat.zero_add, Int.natCast_zero, Int.add_zero] at x0 x1 x2 x3 x4 x5
        have q2 : k0 + 6 * (k : Int) + 1 + ((1 : Nat) : Int) = k0 + 6 * (k : Int) + 1 + 1 := by omega
        have q3 : k0 + 6 * (k : Int) + 1 + ((2 : Nat) : Int) = k0 + 6 * (k : Int) + 1 + 1 + 1 := by omega
        have q4 : k0 + 6 * (k : Int) + 1 + ((3 : Nat) : Int) = k0 + 6 * (k : Int) + 1 + 1 + 1 + 1 := by omega
        have q5 : k0 + 6 * (k : Int) + 1 + ((4 : Nat) : Int) = k0 + 6 * (k : Int) + 1 + 1 + 1 + 1 + 1 := by omega
        rw [q2] at x2
        rw [q3] at x3
        rw [q4] at x4
        rw [q5] at x5
        clear q2 q3 q4 q5
        go_wp2_with fail
        refine wp_loop_rounds 6 ?_
        repeat (rw [rounds_succ]; go_wp2_with fail)
        go_roundw
        case rel => exact ⟨k + 1, by omega, by go_num, by go_num, trivial⟩
        case measure => simp [intOf]; omega
      · obtain rfl : k = n := by omega
        go_wp2_with fail
        go_ret
        exact ⟨rfl, Below.refl _ _⟩

end Go.Proofs.Ytiogagaclhjdaaa
