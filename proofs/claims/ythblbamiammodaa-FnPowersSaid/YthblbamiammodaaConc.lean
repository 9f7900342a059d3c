/- Lists of maps put together: the contracts of slices.Grow and slices.Concat at lists of maps. -/
import Derived.Test.YthblbamiammodaaMrow
import Derived.Lib.AppendZerosOnto
import Derived.Lib.Walk
import Derived.Maps.AppendAt
import Derived.Laws.OwnMore
import Derived.Laws.AppendOwnNone
namespace Go.Proofs.Ythblbamiammodaa
open Go.RowKit

/-- The cells of a map. -/
def mcl (x : MapN) : List Value := [.int .i64 x.1, .int .i64 (x.2 0), .int .i64 (x.2 1), .int .i64 (x.2 2), .int .i64 (x.2 3), .int .i64 (x.2 4)]

/-- The cells of a list of maps. -/
def mcels (L : List MapN) : List Value := (L.map mcl).flatten

theorem mcels_nil : mcels [] = [] := rfl
theorem mcels_cons (x : MapN) (L : List MapN) : mcels (x :: L) = mcl x ++ mcels L := rfl
theorem mcels_app (L M : List MapN) : mcels (L ++ M) = mcels L ++ mcels M := by unfold mcels; rw [List.map_append, List.flatten_append]
theorem mcl_len (x : MapN) : (mcl x).length = 6 := rfl
theorem mcels_len : ∀ L : List MapN, (mcels L).length = L.length * 6
  | [] => rfl
  | x :: L => by rw [mcels_cons, List.length_append, mcl_len, mcels_len L, List.length_cons]; omega
theorem mcels_one : ∀ (L : List MapN) (u : Value), u ∈ mcels L → u.oneCell' = true
  | [], u, h => by cases h
  | x :: L, u, h => by
    rw [mcels_cons, List.mem_append] at h
    rcases h with h | h
    · simp [mcl] at h
      rcases h with rfl | rfl | rfl | rfl | rfl | rfl <;> rfl
    · exact mcels_one L u h
theorem mcels_at : ∀ (L : List MapN) (j i : Nat), i < 6 → j < L.length → (mcels L)[j * 6 + i]? = (mcl (L.getD j z0))[i]?
  | [], j, i, hi, hj => by simp at hj
  | x :: L, 0, i, hi, hj => by
    rw [mcels_cons, List.getElem?_append_left (by rw [mcl_len]; omega)]
    simp
  | x :: L, j + 1, i, hi, hj => by
    rw [mcels_cons, List.getElem?_append_right (by rw [mcl_len]; omega), mcl_len, show (j + 1) * 6 + i - 6 = j * 6 + i by omega, mcels_at L j i hi (by simpa using hj)]
    simp

theorem atM_cell {w : World} {b off j i : Nat} {x : MapN} (h : AtM w b off j x) (hi : i < 6) {u : Value} (hu : (mcl x)[i]? = some u) : w.cell? ⟨b, off + j * 6 + i, none⟩ = some u := by
  obtain ⟨h0, h1, h2, h3, h4, h5⟩ := h
  rcases (by omega : i = 0 ∨ i = 1 ∨ i = 2 ∨ i = 3 ∨ i = 4 ∨ i = 5) with rfl | rfl | rfl | rfl | rfl | rfl
  · rw [← hu]; exact h0
  · rw [← hu]; exact h1
  · rw [← hu]; exact h2
  · rw [← hu]; exact h3
  · rw [← hu]; exact h4
  · rw [← hu]; exact h5

/-- The cells of a row that holds a list of maps. -/
theorem rowM_cells {w : World} {b off : Nat} {L : List MapN} (h : ∀ j, j < L.length → AtM w b off j (L.getD j z0)) (y : Nat) (u : Value) (hu : (mcels L)[y]? = some u) : w.cell? ((⟨b, off, none⟩ : Addr).add y) = some u := by
  have hy : y < L.length * 6 := by
    have := (List.getElem?_eq_some_iff.1 hu).1
    rw [mcels_len] at this; exact this
  have hadd : (⟨b, off, none⟩ : Addr).add y = ⟨b, off + y / 6 * 6 + y % 6, none⟩ := by
    have : off + y / 6 * 6 + y % 6 = off + y := by omega
    rw [this]; cases y <;> simp [Addr.add]
  rw [hadd]
  refine atM_cell (h (y / 6) (by omega)) (by omega) ?_
  rw [← mcels_at L (y / 6) (y % 6) (by omega) (by omega), show y / 6 * 6 + y % 6 = y by omega]
  exact hu

/-- A list of maps that the call made. -/
def OwnM (w : World) (base : Nat) (v : Value) (L : List MapN) : Prop := w.ownsRow base 26 6 v L.length (mcels L)

theorem ownM_rd {w : World} {B : Nat} {v : Value} {L : List MapN} (h : OwnM w B v L) (hL : L.length ≤ 2000000) : ∃ a cap, v = .slice a L.length cap ∧ RdM w B a L := by
  rcases h.2 with ⟨h1, h0⟩ | ⟨g, cap, cur, h1, hB, hg, hn, hcap, hsz, htk⟩
  · have := List.length_eq_zero_iff.1 h0
    subst this
    exact ⟨none, 0, h1, hL, Or.inl rfl⟩
  · refine ⟨_, cap, h1, hL, Or.inr ⟨g, rfl, hB, (Array.getElem?_eq_some_iff.1 hg).1, fun j hj => ?_, fun x hx => Joins.unfrozen_of_block hg x⟩⟩
    have hc : ∀ i, i < 6 → ∀ u, (mcl (L.getD j z0))[i]? = some u → w.cell? ⟨g, 0 + j * 6 + i, none⟩ = some u := fun i hi u hu => by
      rw [Nat.zero_add, Joins.cell_of_block hg (j * 6 + i)]
      have e : cur.toList[j * 6 + i]? = (mcels L)[j * 6 + i]? := by
        rw [← htk, List.getElem?_take, if_pos (by omega)]
      rw [← Array.getElem?_toList, e, mcels_at L j i hi hj, hu]
    exact ⟨hc 0 (by omega) _ rfl, hc 1 (by omega) _ rfl, hc 2 (by omega) _ rfl, hc 3 (by omega) _ rfl, hc 4 (by omega) _ rfl, hc 5 (by omega) _ rfl⟩

/-- The call returns a list of maps of its own. -/
def RetOwnM (B : Nat) (L : List MapN) (w : World) (e : Ending) (w' : World) : Prop := ∃ v, e = .returned v ∧ OwnM w' B v L ∧ Below w.heap.size w w'



theorem InRowM.nilOr {w : World} {a : Option Addr} {L : List MapN} (h : InRowM w a L) (ha : a = none) : L = [] := by
  rcases h with h | ⟨b, off, e, _⟩
  · exact h
  · rw [ha] at e; cases e

set_option maxRecDepth 100000 in
/-- append onto a list of maps that the call made. -/
theorem wpList_appM {ops : Array Oper} {rest : List Oper} {o : Oper} {ac : Act} {Q : Exit → Act → World → Prop} {w : World} (hgd : o.guard = none) (s x : Operand)
    (ho : o.op = .call { callee := .builtin .append, args := #[s, x], argTypes := #[72, 72] })
    (base : Nat) (v : Value) (M : List MapN) (hs : ac.eval s = v) (hown : OwnM w base v M)
    (a : Option Addr) (c : Nat) (L : List MapN) (hL : a = none → c = 0) (hx : ac.eval x = .slice a L.length c) (hr : InRowM w a L)
    (hlen : M.length + L.length ≤ 2000000) (hbase : base ≤ w.heap.size)
    (h : ∀ v' w', OwnM w' base v' (M ++ L) → w.grownBy w' v.ownBlock → wpList Try.prog ops Q rest (ac.put o.dst v') w') : wpList Try.prog ops Q (o :: rest) ac w := by
  obtain ⟨i0, hi, hz0, hz1, hz2⟩ := info_parts info_map
  rcases a with _ | ⟨b, off, sp⟩
  · have h0 := hr.nilOr rfl
    subst h0
    have hc := hL rfl
    subst hc
    refine wpList_append_own_none hgd s x _ ho base 26 i0 6 Try.underlying72 hi v M.length (mcels M) hs hown hx ?_
    exact h v w (by simpa using hown) (World.grownBy.refl w _)
  · refine wpList_append_own w hgd s x _ ho base 26 i0 _ 6 48 Try.underlying72 hi hz0 hz1 hz2 rfl (by decide) v M.length (mcels M) hs hown ⟨b, off, sp⟩ L.length c (mcels L) hx (mcels_len L) ?_ (mcels_one L) (by unfold maxLen; omega) (by omega) hbase ?_
    · intro j u hu
      rcases hr with h0 | ⟨b', off', e, _, hc⟩
      · rw [h0] at hu; simp [mcels_nil] at hu
      · cases e
        exact rowM_cells hc j u hu
    · intro v' w' h1 h2 _
      refine h v' w' ?_ h2
      unfold OwnM
      rw [mcels_app, List.length_append]
      exact h1



end Go.Proofs.Ythblbamiammodaa
