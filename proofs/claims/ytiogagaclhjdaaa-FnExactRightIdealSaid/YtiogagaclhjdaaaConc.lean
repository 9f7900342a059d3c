/- Lists of maps put together: the contracts of slices.Grow and slices.Concat at lists of maps. -/
import Derived.Test.YtiogagaclhjdaaaMrow
import Derived.Lib.AppendZerosOnto
import Derived.Lib.Walk
import Derived.Maps.AppendAt
import Derived.Laws.OwnMore
import Derived.Laws.AppendOwnNone
namespace Go.Proofs.Ytiogagaclhjdaaa
open Go.RowKit

/-- The cells of a map. -/
def mcl (x : MapN) : List Value := [.int .i64 x.1, .int .i64 (x.2 0), .int .i64 (x.2 1), .int .i64 (x.2 2), .int .i64 (x.2 3), .int .i64 (x.2 4)]

/-- The cells of a list of maps. -/
def mcels (L : List MapN) : List Value := (L.map mcl).flatten

theorem mcels_nil : mcels [] = [] := rfl
theorem mcels_cons (x : MapN) (L : List MapN) : mcels (x :: L) = mcl x ++ mcels L := rfl
theorem mcels_app (L M : List MapN) : mcels (L ++ M) = mcels L ++ mcels M := by unfold mcels; rw [List.map_append, List.flatten_append]
theorem mcl_len (x : MapN) : (mcl x).length = 6 := rfl
theorem mcels_len : ∀ L : List MapN, (mcels L).length = L.length * 6
  | [] => rfl
  | x :: L => by rw [mcels_cons, List.length_append, mcl_len, mcels_len L, List.length_cons]; omega
theorem mcels_one : ∀ (L : List MapN) (u : Value), u ∈ mcels L → u.oneCell' = true
  | [], u, h => by cases h
  | x :: L, u, h => by
    rw [mcels_cons, List.mem_append] at h
    rcases h with h | h
    · simp [mcl] at h
      rcases h with rfl | rfl | rfl | rfl | rfl | rfl <;> rfl
    · exact mcels_one L u h
theorem mcels_at : ∀ (L : List MapN) (j i : Nat), i < 6 → j < L.length → (mcels L)[j * 6 + i]? = (mcl (L.getD j z0))[i]?
  | [], j, i, hi, hj => by simp at hj
  | x :: L, 0, i, hi, hj => by
    rw [mcels_cons, List.getElem?_append_left (by rw [mcl_len]; omega)]
    simp
  | x :: L, j + 1, i, hi, hj => by
    rw [mcels_cons, List.getElem?_append_right (by rw [mcl_len]; omega), mcl_len, show (j + 1) * 6 + i - 6 = j * 6 + i by omega, mcels_at L j i hi (by simpa using hj)]
    simp

theorem atM_cell {w : World} {b off j i : Nat} {x : MapN} (h : AtM w b off j x) (hi : i < 6) {u : Value} (hu : (mcl x)[i]? = some u) : w.cell? ⟨b, off + j * 6 + i, none⟩ = some u := by
  obtain ⟨h0, h1, h2, h3, h4, h5⟩ := h
  rcases (by omega : i = 0 ∨ i = 1 ∨ i = 2 ∨ i = 3 ∨ i = 4 ∨ i = 5) with rfl | rfl | rfl | rfl | rfl | rfl
  · rw [← hu]; exact h0
  · rw [← hu]; exact h1
  · rw [← hu]; exact h2
  · rw [← hu]; exact h3
  · rw [← hu]; exact h4
  · rw [← hu]; exact h5

/-- The cells of a row that holds a list of maps. -/
theorem rowM_cells {w : World} {b off : Nat} {L : List MapN} (h : ∀ j, j < L.length → AtM w b off j (L.getD j z0)) (y : Nat) (u : Value) (hu : (mcels L)[y]? = some u) : w.cell? ((⟨b, off, none⟩ : Addr).add y) = some u := by
  have hy : y < L.length * 6 := by
    have := (List.getElem?_eq_some_iff.1 hu).1
    rw [mcels_len] at this; exact this
  have hadd : (⟨b, off, none⟩ : Addr).add y = ⟨b, off + y / 6 * 6 + y % 6, none⟩ := by
    have : off + y / 6 * 6 + y % 6 = off + y := by omega
    rw [this]; cases y <;> simp [Addr.add]
  rw [hadd]
  refine atM_cell (h (y / 6) (by omega)) (by omega) ?_
  rw [← mcels_at L (y / 6) (y % 6) (by omega) (by omega), show y / 6 * 6 + y % 6 = y by omega]
  exact hu

/-- A list of maps that the call made. -/
def OwnM (w : World) (base : Nat) (v : Value) (L : List MapN) : Prop := w.ownsRow base 31 6 v L.length (mcels L)

theorem ownM_rd {w : World} {B : Nat} {v : Value} {L : List MapN} (h : OwnM w B v L) (hL : L.length ≤ 2000000) : ∃ a cap, v = .slice a L.length cap ∧ RdM w B a L := by
  rcases h.2 with ⟨h1, h0⟩ | ⟨g, cap, cur, h1, hB, hg, hn, hcap, hsz, htk⟩
  · have := List.length_eq_zero_iff.1 h0
    subst this
    exact ⟨none, 0, h1, hL, Or.inl rfl⟩
  · refine ⟨_, cap, h1, hL, Or.inr ⟨g, rfl, hB, (Array.getElem?_eq_some_iff.1 hg).1, fun j hj => ?_, fun x hx => Joins.unfrozen_of_block hg x⟩⟩
    have hc : ∀ i, i < 6 → ∀ u, (mcl (L.getD j z0))[i]? = some u → w.cell? ⟨g, 0 + j * 6 + i, none⟩ = some u := fun i hi u hu => by
      rw [Nat.zero_add, Joins.cell_of_block hg (j * 6 + i)]
      have e : cur.toList[j * 6 + i]? = (mcels L)[j * 6 + i]? := by
        rw [← htk, List.getElem?_take, if_pos (by omega)]
      rw [← Array.getElem?_toList, e, mcels_at L j i hi hj, hu]
    exact ⟨hc 0 (by omega) _ rfl, hc 1 (by omega) _ rfl, hc 2 (by omega) _ rfl, hc 3 (by omega) _ rfl, hc 4 (by omega) _ rfl, hc 5 (by omega) _ rfl⟩

/-- The call returns a list of maps of its own. -/
def RetOwnM (B : Nat) (L : List MapN) (w : World) (e : Ending) (w' : World) : Prop := ∃ v, e = .returned v ∧ OwnM w' B v L ∧ Below w.heap.size w w'

/-- slices.Grow at nil. -/
theorem grow_any (n : Nat) (hn : n ≤ 2000000) (w : World) :
    Calls Try.prog 111 #[.slice none 0 0, .int .i64 n] w (RetOwnM w.heap.size [] w) := by
  by_cases h0 : n = 0
  · subst h0
    have hn0 : ¬ (((0 : Nat) : Int) < 0) := by omega
    go_enter Try.func111, Try.ntmps111
    go_wp2_with fail
    go_ret
    exact ⟨_, rfl, World.ownsRow_nil _ _ _ _, Below.refl _ _⟩
  · have hpos : (0 : Int) < (n : Int) := by omega
    have hneg : ¬ ((n : Int) < 0) := by omega
    obtain ⟨i0, hi, hz0, hz1, hz2⟩ := info_parts info_map
    have hrz := fun ty => Lib.run_append_nil_zeros (P := Try.prog) w 29 3 ty 31 i0 _ .i64 .i64 Try.underlying29 Try.underlying3 hi hz0 n (by omega) (by omega) (by omega) (by rw [hz2]; omega)
    have hG1 := grownCap_ge w n 0 31
    have hG2 := grownCap_le_maxLen w n 0 31 (by unfold maxLen; omega)
    generalize grownCap w n 0 31 = G at *
    have hown := World.ownsRow_made (base := w.heap.size) (size := 6) (e := 31) w.drew (Builtin.zeroCells (Value.agg #[.int .i64 0, .int .i64 0, .int .i64 0, .int .i64 0, .int .i64 0, .int .i64 0]).cells n ++ Builtin.zeroCells (Value.agg #[.int .i64 0, .int .i64 0, .int .i64 0, .int .i64 0, .int .i64 0, .int .i64 0]).cells (G - n)) G (Nat.le_refl _) hG2 (by
      rw [Array.size_append, size_zeroCells, size_zeroCells]
      show n * 6 + (G - n) * 6 = G * 6
      omega)
    have HO := Lib.hid hown
    have hG9 : (G : Int) ≤ 9223372036854775807 := by unfold maxLen at hG2; omega
    generalize (Builtin.zeroCells (Value.agg #[.int .i64 0, .int .i64 0, .int .i64 0, .int .i64 0, .int .i64 0, .int .i64 0]).cells n ++ Builtin.zeroCells (Value.agg #[.int .i64 0, .int .i64 0, .int .i64 0, .int .i64 0, .int .i64 0, .int .i64 0]).cells (G - n)) = Z at *
    clear hown hi hz0 hz1 hz2 hG2
    go_enter Try.func111, Try.ntmps111
    go_wp2_with (at_builtin; refine Lib.wpList_append_run _ rfl _ _ _ _ rfl _ _ rfl rfl _ _ (hrz _) ?_)
    go_ret
    exact ⟨_, rfl, HO.out, (below_drewN (Below.refl _ _) 1).alloc (Nat.le_refl _) _⟩

theorem InRowM.nilOr {w : World} {a : Option Addr} {L : List MapN} (h : InRowM w a L) (ha : a = none) : L = [] := by
  rcases h with h | ⟨b, off, e, _⟩
  · exact h
  · rw [ha] at e; cases e

set_option maxRecDepth 100000 in
/-- append onto a list of maps that the call made. -/
theorem wpList_appM {ops : Array Oper} {rest : List Oper} {o : Oper} {ac : Act} {Q : Exit → Act → World → Prop} {w : World} (hgd : o.guard = none) (s x : Operand)
    (ho : o.op = .call { callee := .builtin .append, args := #[s, x], argTypes := #[29, 29] })
    (base : Nat) (v : Value) (M : List MapN) (hs : ac.eval s = v) (hown : OwnM w base v M)
    (a : Option Addr) (c : Nat) (L : List MapN) (hL : a = none → c = 0) (hx : ac.eval x = .slice a L.length c) (hr : InRowM w a L)
    (hlen : M.length + L.length ≤ 2000000) (hbase : base ≤ w.heap.size)
    (h : ∀ v' w', OwnM w' base v' (M ++ L) → w.grownBy w' v.ownBlock → wpList Try.prog ops Q rest (ac.put o.dst v') w') : wpList Try.prog ops Q (o :: rest) ac w := by
  obtain ⟨i0, hi, hz0, hz1, hz2⟩ := info_parts info_map
  rcases a with _ | ⟨b, off, sp⟩
  · have h0 := hr.nilOr rfl
    subst h0
    have hc := hL rfl
    subst hc
    refine wpList_append_own_none hgd s x _ ho base 31 i0 6 Try.underlying29 hi v M.length (mcels M) hs hown hx ?_
    exact h v w (by simpa using hown) (World.grownBy.refl w _)
  · refine wpList_append_own w hgd s x _ ho base 31 i0 _ 6 48 Try.underlying29 hi hz0 hz1 hz2 rfl (by decide) v M.length (mcels M) hs hown ⟨b, off, sp⟩ L.length c (mcels L) hx (mcels_len L) ?_ (mcels_one L) (by unfold maxLen; omega) (by omega) hbase ?_
    · intro j u hu
      rcases hr with h0 | ⟨b', off', e, _, hc⟩
      · rw [h0] at hu; simp [mcels_nil] at hu
      · cases e
        exact rowM_cells hc j u hu
    · intro v' w' h1 h2 _
      refine h v' w' ?_ h2
      unfold OwnM
      rw [mcels_app, List.length_append]
      exact h1

set_option maxRecDepth 100000 in
set_option maxHeartbeats 2000000 in
theorem concat_any (a1 a2 : Option Addr) (c1 c2 : Nat) (L1 L2 : List MapN) (h1 : a1 = none → c1 = 0) (h2 : a2 = none → c2 = 0) (hl1 : L1.length ≤ 1048576) (hl2 : L2.length ≤ 900000) (g : Nat) (w : World) (hr1 : InRowM w a1 L1) (hr2 : InRowM w a2 L2)
    (hc1 : w.cell? ⟨g, 0, none⟩ = some (.slice a1 L1.length c1)) (hc2 : w.cell? ⟨g, 1, none⟩ = some (.slice a2 L2.length c2)) :
    Calls Try.prog 95 #[.slice (some ⟨g, 0, none⟩) 2 2] w (RetOwnM w.heap.size (L1 ++ L2) w) := by
  have hg := World.block_lt_of_cell? w _ hc1
  have HR1 := Lib.hid hr1
  have HR2 := Lib.hid hr2
  have HG := Lib.hid (grow_any (L1.length + L2.length) (by omega) w)
  simp only [Int.natCast_add] at HG
  have hs0 : ¬ (((L1.length : Int) + (L2.length : Int)) < 0) := by omega
  have hs1 : ¬ ((L1.length : Int) < 0) := by omega
  clear hr1 hr2
  go_enter Try.func95, Try.ntmps95
  go_wp2_with fail
  refine wp_loop_rounds 3 ?_
  rw [rounds_succ]
  go_wp2_with fail
  rw [rounds_succ]
  go_wp2_with fail
  rw [rounds_succ]
  go_wp2_with fail
  clear hs0 hs1
  refine HG.out.mono ?_
  rintro e w1 ⟨v, rfl, hown, hb⟩
  have hx1 := (hb.cell (p := ⟨g, 0, none⟩) hg).trans hc1
  have hx2 := (hb.cell (p := ⟨g, 1, none⟩) hg).trans hc2
  have hz1 := hb.size
  have HB := Lib.hid hb
  have HO := Lib.hid hown
  have HI1 := Lib.hid (HR1.out.below hb)
  clear hc1 hc2 hb hown HG
  go_wp2_with fail
  refine wp_loop_rounds 3 ?_
  rw [rounds_succ]
  go_wp2_with (at_builtin; refine wpList_appM rfl _ _ rfl w.heap.size v [] rfl HO.out a1 c1 L1 h1 rfl HI1.out (by simp; omega) hz1 ?_; intro v1 w2 hown1 hgrow1; have hy2 := (World.cell?_of_block (a := ⟨g, 1, none⟩) (hgrow1.block g (by omega) (fun e => by have := (HO.out.lt g e.symm).1; omega))).trans hx2; have hz2 := hgrow1.size; have HB2 := Lib.hid (HB.out.grown hgrow1 hz1 (fun k e => (HO.out.lt k e).1)); have HO1 := Lib.hid hown1; have HI2 := Lib.hid (HR2.out.below HB2.out); clear hown1 hgrow1 hx1 hx2)
  rw [rounds_succ]
  go_wp2_with (at_builtin; refine wpList_appM rfl _ _ rfl w.heap.size v1 ([] ++ L1) rfl HO1.out a2 c2 L2 h2 rfl HI2.out (by simp; omega) (by omega) ?_; intro v2 w3 hown2 hgrow2; have HB3 := Lib.hid (HB2.out.grown hgrow2 (by omega) (fun k e => (HO1.out.lt k e).1)); have HO2 := Lib.hid hown2; clear hown2 hgrow2 hy2)
  rw [rounds_succ]
  go_wp2_with fail
  go_ret
  exact ⟨_, rfl, HO2.out, HB3.out⟩

end Go.Proofs.Ytiogagaclhjdaaa
