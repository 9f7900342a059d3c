/- The sets of numbers below n as ascending lists, without Go; rows of rows; the contract of spec.l02Parts. -/
import Derived.Test.YtoagpklippdlmaaSclo
namespace Go.Proofs.Ytoagpklippdlmaa
open Go.RowKit

/-- The ascending lists of c of the numbers from f to n - 1, in order. -/
def partsR (n : Nat) : Nat → Nat → List (List Nat)
  | 0, _ => [[]]
  | c + 1, f => (List.range' f (n - f)).flatMap fun i => (partsR n c (i + 1)).map fun r => i :: r

/-- Those that begin with a number below k. -/
def accR (n c f k : Nat) : List (List Nat) := (List.range' f (k - f)).flatMap fun i => (partsR n c (i + 1)).map fun r => i :: r

def rowI (r : List Nat) : List Int := r.map fun x : Nat => (x : Int)

theorem accR_succ (n c : Nat) {f k : Nat} (h : f ≤ k) : accR n c f (k + 1) = accR n c f k ++ (partsR n c (k + 1)).map fun r => k :: r := by
  obtain ⟨d, rfl⟩ := Nat.exists_eq_add_of_le h
  unfold accR
  rw [show f + d + 1 - f = d + 1 by omega, show f + d - f = d by omega, List.range'_1_concat, List.flatMap_append]
  simp

theorem len_flat {g : Nat → List (List Nat)} {B : Nat} (hg : ∀ i, (g i).length ≤ B) : ∀ l : List Nat, (l.flatMap g).length ≤ l.length * B
  | [] => by simp
  | x :: l => by
    have := len_flat hg l
    have h2 := hg x
    rw [List.flatMap_cons, List.length_append, List.length_cons, Nat.succ_mul]
    omega

theorem parts_le {n : Nat} (hn : n ≤ 6) : ∀ c f, (partsR n c f).length ≤ 6 ^ c
  | 0, _ => by simp [partsR]
  | c + 1, f => by
    have h := len_flat (g := fun i => (partsR n c (i + 1)).map fun r => i :: r) (B := 6 ^ c) (fun i => by rw [List.length_map]; exact parts_le hn c _) (List.range' f (n - f))
    rw [List.length_range'] at h
    show ((List.range' f (n - f)).flatMap _).length ≤ _
    rw [Nat.pow_succ, Nat.mul_comm]
    exact Nat.le_trans h (Nat.mul_le_mul_right _ (by omega))

theorem acc_le {n : Nat} (hn : n ≤ 6) (c f k : Nat) (hk : k - f ≤ 6) : (accR n c f k).length ≤ 6 ^ (c + 1) := by
  have h := len_flat (g := fun i => (partsR n c (i + 1)).map fun r => i :: r) (B := 6 ^ c) (fun i => by rw [List.length_map]; exact parts_le hn c _) (List.range' f (k - f))
  rw [List.length_range'] at h
  rw [Nat.pow_succ, Nat.mul_comm]
  exact Nat.le_trans h (Nat.mul_le_mul_right _ (by omega))

theorem parts_row {n : Nat} : ∀ c f, ∀ r ∈ partsR n c f, r.length = c
  | 0, _, r, hr => by
    have : r = [] := by simpa [partsR] using hr
    rw [this]; rfl
  | c + 1, f, r, hr => by
    obtain ⟨i, _, hi⟩ := List.mem_flatMap.1 hr
    obtain ⟨q, hq, rfl⟩ := List.mem_map.1 hi
    rw [List.length_cons, parts_row c _ q hq]

theorem own_turn {w w' : World} {B C : Nat} {v : Value} {L : List Int} (h : Own w B v L) (_ : C ≤ w.heap.size → True) (hs : ∀ b, B ≤ b → b < w.heap.size → w'.heap[b]? = w.heap[b]?) : Own w' B v L := by
  rcases h.2 with h0 | ⟨g, cap, cur, h1, hB, hg, rest⟩
  · exact ⟨h.1, Or.inl h0⟩
  · exact ⟨h.1, Or.inr ⟨g, cap, cur, h1, hB, (hs g hB (Array.getElem?_eq_some_iff.1 hg).1).trans hg, rest⟩⟩

theorem wds_turn {w w' : World} {B : Nat} {v : Value} {us : List Value} {W : List (List Int)} (h : Wds w B v us W) (hs : ∀ b, B ≤ b → b < w.heap.size → w'.heap[b]? = w.heap[b]?) : Wds w' B v us W := by
  refine ⟨?_, fun j hj => ?_⟩
  · rcases h.own.2 with h0 | ⟨g, cap, cur, h1, hB, hg, rest⟩
    · exact ⟨h.own.1, Or.inl h0⟩
    · exact ⟨h.own.1, Or.inr ⟨g, cap, cur, h1, hB, (hs g hB (Array.getElem?_eq_some_iff.1 hg).1).trans hg, rest⟩⟩
  · obtain ⟨g, c, e, ho⟩ := h.row j hj
    exact ⟨g, c, e, own_turn (C := 0) ho (fun _ => trivial) hs⟩

theorem wds_app {w w' : World} {B : Nat} {v v' : Value} {us : List Value} {W : List (List Int)} {g c : Nat} {L : List Int} (h : Wds w B v us W) (hu : Own w B (.slice (some ⟨g, 0, none⟩) L.length c) L)
    (h1 : w'.ownsRow B 26 1 v' (W.length + 1) (us ++ [.slice (some ⟨g, 0, none⟩) L.length c])) (hg : w.grownBy w' v.ownBlock) : Wds w' B v' (us ++ [.slice (some ⟨g, 0, none⟩) L.length c]) (W ++ [L]) :=
  Wds.push h1 (by have := h.own.1; omega) (fun j hj => by
    obtain ⟨g2, c2, e, ho⟩ := h.row j hj
    exact ⟨g2, c2, e, ho.kept hg (own_apart (by decide) ho h.own)⟩) (hu.kept hg (own_apart (by decide) hu h.own))

theorem Wds.form {w : World} {B : Nat} {v : Value} {us : List Value} {W : List (List Int)} (h : Wds w B v us W) : ∃ a cap, v = .slice a W.length cap := by
  rcases h.own.2 with ⟨h0, h1⟩ | ⟨g, cap, cur, h1, _⟩
  · exact ⟨none, 0, by rw [h0, h1]⟩
  · exact ⟨_, cap, h1⟩

theorem wds_nil {w : World} {b base : Nat} (h : w.heap[b]? = some (.cells #[] 26 (0, 0))) (hb : base ≤ b) : Wds w base (.slice (some ⟨b, 0, none⟩) 0 0) [] [] :=
  ⟨⟨rfl, Or.inr ⟨b, 0, #[], rfl, hb, h, Nat.le_refl _, Nat.zero_le _, rfl, rfl⟩⟩, fun j hj => by simp at hj⟩

/-- The call returns a row of rows of its own. -/
def RetWds (B : Nat) (W : List (List Int)) (w : World) (e : Ending) (w' : World) : Prop := ∃ a cap us, e = .returned (.slice a W.length cap) ∧ Wds w' B (.slice a W.length cap) us W ∧ Below w.heap.size w w'

/-- append of a row onto a list of integers of the call's own. -/
theorem wpList_appIn {ops : Array Oper} {rest : List Oper} {o : Oper} {ac : Act} {Q : Exit → Act → World → Prop} {w : World} (hgd : o.guard = none) (s x : Operand)
    (ho : o.op = .call { callee := .builtin .append, args := #[s, x], argTypes := #[26, 26] })
    (base : Nat) (v : Value) (L M : List Int) (hs : ac.eval s = v) (hown : Own w base v L) (b c : Nat) (hx : ac.eval x = .slice (some ⟨b, 0, none⟩) M.length c) (hb : ∀ i, i < M.length → w.cell? ⟨b, i, none⟩ = some (.int .i64 (M.getD i 0)))
    (hlen : L.length ≤ 1000000) (hlen2 : M.length ≤ 1000000) (hbase : base ≤ w.heap.size)
    (h : ∀ v' w', Own w' base v' (L ++ M) → w.grownBy w' v.ownBlock → wpList Try.prog ops Q rest (ac.put o.dst v') w') : wpList Try.prog ops Q (o :: rest) ac w := by
  obtain ⟨i0, hi, hz0, hz1, hz2⟩ := info_parts info_int
  refine wpList_append_own_at w hgd s x _ ho base 2 i0 _ 1 8 Try.underlying26 hi hz0 hz1 hz2 rfl (by decide) v L.length (L.map (Value.int .i64)) hs hown ⟨b, 0, none⟩ M.length c (M.map (Value.int .i64)) hx (by rw [List.length_map, Nat.mul_one]) (fun j u hj => ?_) (ints_oneCell .i64 M) (by unfold maxLen; omega) (by omega) hbase ?_
  · have hjl : j < M.length := by
      rcases Nat.lt_or_ge j M.length with h | h
      · exact h
      · rw [List.getElem?_eq_none (by rw [List.length_map]; exact h)] at hj; cases hj
    have hadd : (⟨b, 0, none⟩ : Addr).add j = ⟨b, j, none⟩ := by cases j <;> simp [Addr.add]
    rw [hadd, hb j hjl, ← hj, List.getElem?_map, List.getElem?_eq_getElem hjl, List.getD_eq_getElem?_getD, List.getElem?_eq_getElem hjl]
    rfl
  · intro v' w' h1 h2 _ _
    refine h v' w' ?_ h2
    unfold Own
    rw [List.map_append, List.length_append]
    exact h1

theorem wpList_appW2 {ops : Array Oper} {rest : List Oper} {o : Oper} {ac : Act} {Q : Exit → Act → World → Prop} {w : World} (hgd : o.guard = none) (s x : Operand)
    (ho : o.op = .call { callee := .builtin .append, args := #[s, x], argTypes := #[23, 23] })
    (base : Nat) (v : Value) (n : Nat) (us : List Value) (hs : ac.eval s = v) (hown : w.ownsRow base 26 1 v n us) (b c : Nat) (u : Value) (hu : u.oneCell' = true) (hx : ac.eval x = .slice (some ⟨b, 0, none⟩) 1 c) (hb : w.heap[b]? = some (.cells #[u] 26 (0, 0)))
    (hlen : n ≤ 1000000) (hbase : base ≤ w.heap.size)
    (h : ∀ v' w', w'.ownsRow base 26 1 v' (n + 1) (us ++ [u]) → w.grownBy w' v.ownBlock → (v'.ownBlock = v.ownBlock ∨ v'.ownBlock = some w.heap.size) → wpList Try.prog ops Q rest (ac.put o.dst v') w') : wpList Try.prog ops Q (o :: rest) ac w := by
  obtain ⟨i0, hi, hz0, hz1, hz2⟩ := info_parts info_row
  refine wpList_append_own_at w hgd s x _ ho base 26 i0 _ 1 24 Try.underlying23 hi hz0 hz1 hz2 rfl (by decide) v n us hs hown ⟨b, 0, none⟩ 1 c [u] hx rfl (cell_one_blk hb) (fun z hz => by rw [List.mem_singleton.1 hz]; exact hu) (by unfold maxLen; omega) (by omega) hbase ?_
  intro v' w' h1 h2 _ h4
  exact h v' w' h1 h2 h4

theorem part_one {w w1 : World} {o : Obj} (h : (w.alloc o).grownBy w1 (some w.heap.size)) : w.heap.size < w1.heap.size ∧ ∀ b, b < w.heap.size → w1.heap[b]? = w.heap[b]? := by
  have hs := h.size
  rw [World.size_alloc] at hs
  refine ⟨by omega, fun b hb => (h.block b (by rw [World.size_alloc]; omega) (fun e => by injection e with e; omega)).trans (halloc_lt _ _ _ hb)⟩

theorem part_bel {w wr w1 : World} {o : Obj} (hb : Below w.heap.size w wr) (h : (wr.alloc o).grownBy w1 (some wr.heap.size)) : Below w.heap.size w w1 :=
  Below.grown (hb.alloc hb.size o) h (by rw [World.size_alloc]; have := hb.size; omega) (fun q e => by injection e with e; have := hb.size; omega)

theorem part_two {w1 w7 : World} {o : Obj} {row : Option Nat} (h : (w1.alloc o).grownBy w7 row) : ∀ b, b < w1.heap.size → (∀ r, row = some r → r ≠ b) → w7.heap[b]? = w1.heap[b]? := fun b hb hn =>
  (h.block b (by rw [World.size_alloc]; omega) (fun e => hn b e.symm rfl)).trans (halloc_lt _ _ _ hb)

theorem part_size {w1 w7 : World} {o : Obj} {row : Option Nat} (h : (w1.alloc o).grownBy w7 row) : w1.heap.size < w7.heap.size := by
  have := h.size
  rw [World.size_alloc] at this
  omega

theorem own_one_int {w : World} {b base : Nat} {x : Int} (h : w.heap[b]? = some (.cells #[.int .i64 x] 2 (0, 0))) (hb : base ≤ b) : Own w base (.slice (some ⟨b, 0, none⟩) 1 1) [x] :=
  ⟨rfl, Or.inr ⟨b, 1, _, rfl, hb, h, Nat.le_refl _, by decide, rfl, rfl⟩⟩

theorem row_at {R : List (List Nat)} (j : Nat) (hj : j < R.length) : (R.map rowI).getD j [] = rowI (R.getD j []) := by
  rw [List.getD_eq_getElem?_getD, List.getElem?_map, List.getElem?_eq_getElem hj, List.getD_eq_getElem?_getD, List.getElem?_eq_getElem hj]
  rfl

theorem rowI_len (r : List Nat) : (rowI r).length = r.length := by unfold rowI; rw [List.length_map]







end Go.Proofs.Ytoagpklippdlmaa
