/- Readers of points: the contracts of the closure that tells last points, of impl.readerOf, and of the methods of pointReader. -/
import Derived.Test.YtiakoplfknkhmaaLsa
import Derived.Test.YtiakoplfknkhmaaHas
import Derived.Deep.Onto
import Derived.StillTailTactics
import Derived.Laws.EntriesVeiled
namespace Go.Proofs.Ytiakoplfknkhmaa
open Go Go.RowKit

theorem info_rows : (Try.prog.info? 23).map (fun i => (i.zero, i.size, i.bytes)) = some (some (.slice none 0 0), 1, 24) := by kernel_rfl

/-- The acceptor that a closure holds. -/
def Hol (w : World) (bx : Nat) (L : List MapN) (S : List Int) : Prop :=
  ∃ a c F b d, w.heap[bx]? = some (.cells #[.slice a L.length c, .int .i64 F, .slice b S.length d] 30 (0, 0)) ∧ InRow w b S

theorem Hol.below {w w' : World} {bx : Nat} {L : List MapN} {S : List Int} (h : Hol w bx L S) (hb : Below w.heap.size w w') : Hol w' bx L S := by
  obtain ⟨a, c, F, b, d, h1, h2⟩ := h
  exact ⟨a, c, F, b, d, (hb.block _ (Array.getElem?_eq_some_iff.1 h1).1).trans h1, h2.below hb⟩

/-- The value of a closure that tells last points. -/
abbrev lastV (bx : Nat) : Value := .func (.func 67) #[] #[.pointer (some ⟨bx, 0, none⟩)]

theorem ilast_any (L : List MapN) (S : List Int) (hs : S.length ≤ 1048576) (x bx : Nat) (w : World) (h : Hol w bx L S) :
    Calls Try.prog 67 #[.int .i64 (x : Int), .pointer (some ⟨bx, 0, none⟩)] w fun e w' => e = .returned (.bool (lastB S x)) ∧ w' = w := by
  obtain ⟨a, c, F, b, d, h1, h2⟩ := h
  have hc := Joins.cell_of_block h1 2
  simp only [List.getElem?_toArray, List.getElem?_cons_zero, List.getElem?_cons_succ] at hc
  have HC := Lib.hid (contains_any S (x : Int) (by omega) b d w h2)
  clear h1 h2
  go_enter Try.func67, Try.ntmps67
  go_wp2_with fail
  refine HC.out.mono ?_
  rintro e w1 ⟨rfl, rfl⟩
  go_wp2_with fail
  go_ret
  exact ⟨ret_b (by unfold lastB; simp), rfl⟩

/-- The rows of a reader: parts of one table. -/
structure Tbl (w : World) (gr gt n : Nat) (L : List MapN) : Prop where
  lr : gr < w.heap.size
  lt : gt < w.heap.size
  row : ∀ x, x < n → w.cell? ⟨gr, x, none⟩ = some (.slice (some ⟨gt, x * L.length, none⟩) L.length L.length)
  cel : ∀ x, x < n → ∀ i, i < L.length → w.cell? ⟨gt, x * L.length + i, none⟩ = some (.int .i64 (nxP L x i : Int))

theorem Tbl.below {w w' : World} {gr gt n : Nat} {L : List MapN} (h : Tbl w gr gt n L) (hb : Below w.heap.size w w') : Tbl w' gr gt n L :=
  ⟨Nat.lt_of_lt_of_le h.lr hb.size, Nat.lt_of_lt_of_le h.lt hb.size, fun x hx => (hb.cell (p := ⟨gr, x, none⟩) h.lr).trans (h.row x hx), fun x hx i hi => (hb.cell (p := ⟨gt, _, none⟩) h.lt).trans (h.cel x hx i hi)⟩

/-- The table of a reader, cell by cell. -/
def tblL (L : List MapN) (k m : Nat) : List Int := (List.range m).map fun j => (nxP L (j / k) (j % k) : Int)

theorem tblL_len (L : List MapN) (k m : Nat) : (tblL L k m).length = m := by simp [tblL]

theorem tblL_snoc (L : List MapN) {k x i : Nat} (hi : i < k) : tblL L k (x * k + i + 1) = tblL L k (x * k + i) ++ [(nxP L x i : Int)] := by
  unfold tblL
  rw [List.range_succ, List.map_append, List.map_singleton]
  have h1 : (x * k + i) / k = x := by rw [Nat.mul_comm, Nat.mul_add_div (by omega), Nat.div_eq_of_lt hi]; rfl
  have h2 : (x * k + i) % k = i := by rw [Nat.mul_comm, Nat.mul_add_mod, Nat.mod_eq_of_lt hi]
  rw [h1, h2]

/-- The rows of the table. -/
def rowsV (gt k n : Nat) : List Value := (List.range n).map fun j => .slice (some ⟨gt, j * k, none⟩) k k

theorem rowsV_snoc (gt k n : Nat) : rowsV gt k (n + 1) = rowsV gt k n ++ [.slice (some ⟨gt, n * k, none⟩) k k] := by
  unfold rowsV; rw [List.range_succ, List.map_append, List.map_singleton]

theorem cell_one_blk7 {w : World} {b T : Nat} {x : Value} (h : w.heap[b]? = some (.cells #[x] T (0, 0))) : ∀ j u, [x][j]? = some u → w.cell? ((⟨b, 0, none⟩ : Addr).add j) = some u := by
  intro j u hj
  have hadd : (⟨b, 0, none⟩ : Addr).add j = ⟨b, j, none⟩ := by cases j <;> simp [Addr.add]
  rw [hadd, Joins.cell_of_block h j, ← hj]
  simp

theorem wpList_appW7 {ops : Array Oper} {rest : List Oper} {o : Oper} {ac : Act} {Q : Exit → Act → World → Prop} {w : World} (hgd : o.guard = none) (s x : Operand)
    (ho : o.op = .call { callee := .builtin .append, args := #[s, x], argTypes := #[57, 57] })
    (base : Nat) (v : Value) (n : Nat) (us : List Value) (hs : ac.eval s = v) (hown : w.ownsRow base 23 1 v n us) (b c : Nat) (u : Value) (hu : u.oneCell' = true) (hx : ac.eval x = .slice (some ⟨b, 0, none⟩) 1 c) (hb : w.heap[b]? = some (.cells #[u] 23 (0, 0)))
    (hlen : n ≤ 1000000) (hbase : base ≤ w.heap.size)
    (h : ∀ v' w', w'.ownsRow base 23 1 v' (n + 1) (us ++ [u]) → w.grownBy w' v.ownBlock → wpList Try.prog ops Q rest (ac.put o.dst v') w') : wpList Try.prog ops Q (o :: rest) ac w := by
  obtain ⟨i0, hi, hz0, hz1, hz2⟩ := info_parts info_rows
  refine wpList_append_own_at w hgd s x _ ho base 23 i0 _ 1 24 Try.underlying57 hi hz0 hz1 hz2 rfl (by decide) v n us hs hown ⟨b, 0, none⟩ 1 c [u] hx rfl (cell_one_blk7 hb) (fun z hz => by rw [List.mem_singleton.1 hz]; exact hu) (by unfold maxLen; omega) (by omega) hbase ?_
  intro v' w' h1 h2 _ _
  exact h v' w' h1 h2

theorem wpList_appI7 {ops : Array Oper} {rest : List Oper} {o : Oper} {ac : Act} {Q : Exit → Act → World → Prop} {w : World} (hgd : o.guard = none) (s x : Operand)
    (ho : o.op = .call { callee := .builtin .append, args := #[s, x], argTypes := #[23, 23] })
    (base : Nat) (v : Value) (L : List Int) (hs : ac.eval s = v) (hown : Own w base v L) (b c : Nat) (y : Int) (hx : ac.eval x = .slice (some ⟨b, 0, none⟩) 1 c) (hb : w.heap[b]? = some (.cells #[.int .i64 y] 2 (0, 0)))
    (hlen : L.length ≤ 1000000) (hbase : base ≤ w.heap.size)
    (h : ∀ v' w', Own w' base v' (L ++ [y]) → w.grownBy w' v.ownBlock → (v'.ownBlock = v.ownBlock ∨ v'.ownBlock = some w.heap.size) → wpList Try.prog ops Q rest (ac.put o.dst v') w') : wpList Try.prog ops Q (o :: rest) ac w := by
  obtain ⟨i0, hi, hz0, hz1, hz2⟩ := info_parts info_int
  refine wpList_append_own_at w hgd s x _ ho base 2 i0 _ 1 8 Try.underlying23 hi hz0 hz1 hz2 rfl (by decide) v L.length (L.map (Value.int .i64)) hs hown ⟨b, 0, none⟩ 1 c [.int .i64 y] hx rfl (cell_one_blk7 hb) (ints_oneCell .i64 [y]) (by unfold maxLen; omega) (by omega) hbase ?_
  intro v' w' h1 h2 _ h4
  refine h v' w' ?_ h2 h4
  unfold Own
  rw [List.map_append, List.length_append]
  exact h1

theorem inext_any {L : List MapN} {n : Nat} {gr gt : Nat} (_ : n ≤ 5) (_ : L.length ≤ 6) (cr : Nat) (F : Int) (fv : Value) (x i : Nat) (hx : x < n) (hi : i < L.length) (w : World) (ht : Tbl w gr gt n L) :
    Calls Try.prog 99 #[.agg #[.slice (some ⟨gr, 0, none⟩) n cr, .int .i64 F, fv], .int .i64 (x : Int), .int .i64 (i : Int)] w fun e w' => e = .returned (.int .i64 (nxP L x i : Int)) ∧ Below w.heap.size w w' := by
  have h1 := ht.row x hx
  have h2 := ht.cel x hx i hi
  have hlr := ht.lr
  have hlt := ht.lt
  have hx' : (x : Int) < (n : Int) := by omega
  have hi' : (i : Int) < (L.length : Int) := by omega
  clear ht
  generalize x * L.length = m at *
  generalize nxP L x i = R at *
  go_enter Try.func99, Try.ntmps99
  go_wp2_with fail
  go_ret
  exact ⟨rfl, (Below.refl _ _).alloc (Nat.le_refl _) _⟩

/-- The value of a reader of points. -/
abbrev rdV (gr n cr : Nat) (F : Int) (bx : Nat) : Value := .agg #[.slice (some ⟨gr, 0, none⟩) n cr, .int .i64 F, lastV bx]

theorem istart_any (gr n cr : Nat) (F : Int) (bx : Nat) (w : World) :
    Calls Try.prog 101 #[rdV gr n cr F bx] w fun e w' => e = .returned (.int .i64 F) ∧ Below w.heap.size w w' := by
  go_enter Try.func101, Try.ntmps101
  go_wp2_with fail
  go_ret
  exact ⟨rfl, (Below.refl _ _).alloc (Nat.le_refl _) _⟩

theorem inumb_any {L : List MapN} {n gr gt : Nat} (hn : 0 < n) (_ : L.length ≤ 6) (cr : Nat) (F : Int) (bx : Nat) (w : World) (ht : Tbl w gr gt n L) :
    Calls Try.prog 100 #[rdV gr n cr F bx] w fun e w' => e = .returned (.int .i64 (L.length : Int)) ∧ Below w.heap.size w w' := by
  have h1 := ht.row 0 hn
  rw [Nat.zero_mul] at h1
  have hlr := ht.lr
  clear ht
  go_enter Try.func100, Try.ntmps100
  go_wp2_with fail
  go_ret
  exact ⟨rfl, (Below.refl _ _).alloc (Nat.le_refl _) _⟩

theorem iacts_any (L : List MapN) (S : List Int) (hs : S.length ≤ 1048576) (gr n cr : Nat) (F : Int) (bx x : Nat) (w : World) (h : Hol w bx L S) :
    Calls Try.prog 98 #[rdV gr n cr F bx, .int .i64 (x : Int)] w fun e w' => e = .returned (.bool (lastB S x)) ∧ Below w.heap.size w w' := by
  have HQ := Lib.hid fun wx (hb : Below w.heap.size w wx) => ilast_any L S hs x bx wx (h.below hb)
  clear h
  go_enter Try.func98, Try.ntmps98
  go_wp2_with fail
  refine (HQ.out _ (by (repeat' (first | (with_reducible exact Below.refl _ _) | (with_reducible refine Below.alloc ?_ ?_ _) | (with_reducible refine Below.setCell ?_ ?_ _) | (with_reducible refine Below.drew ?_) | (with_reducible refine below_drewN ?_ _) | (with_reducible refine Below.trans ?_ (Below.mono (Hid.out (by assumption)) ?_)) | omega | (simp; done) | (simp; omega))))).mono ?_
  rintro e w1 ⟨rfl, rfl⟩
  go_wp2_with fail
  go_ret
  exact ⟨rfl, (Below.refl _ _).alloc (Nat.le_refl _) _⟩

theorem own_bel7 {w w' : World} {B : Nat} {v : Value} {L : List Int} (h : Own w B v L) (hb : Below w.heap.size w w') : Own w' B v L := by
  unfold Own at *
  exact h.kept (row := none) ⟨hb.os, hb.tape, hb.output, hb.size, fun j hj _ => hb.block j hj⟩ (by cases hv : v.ownBlock <;> simp)

theorem tbl_mk {w : World} {gr gt cr ct B1 B2 n k : Nat} {L : List MapN} (hk : k = L.length) (hk6 : n * k ≤ 1000) (h1 : w.ownsRow B1 23 1 (.slice (some ⟨gr, 0, none⟩) n cr) n (rowsV gt k n))
    (h2 : Own w B2 (.slice (some ⟨gt, 0, none⟩) (n * k) ct) (tblL L k (n * k))) (hn : 1 ≤ n) (hk1 : 1 ≤ k) : Tbl w gr gt n L := by
  obtain ⟨g, cap, cur, e, _, hg, _, _, _, htk⟩ := h1.2.resolve_left (fun h => by have := h.2; omega)
  injection e with e _ _
  injection e with e
  injection e with e
  subst e
  have hpos := Nat.mul_pos (show 0 < n by omega) (show 0 < k by omega)
  have hlen := tblL_len L k (n * k)
  obtain ⟨a, c2, e2, hrd⟩ := own_rd h2 (by omega)
  injection e2 with e2 _ _
  subst e2
  obtain ⟨g2, e3, _, hg2, hc⟩ := hrd.2.resolve_left (fun e => by rw [e] at hlen; simp at hlen; omega)
  injection e3 with e3
  injection e3 with e3
  subst e3
  rw [hlen] at hc
  refine ⟨(Array.getElem?_eq_some_iff.1 hg).1, hg2, fun x hx => ?_, fun x hx i hi => ?_⟩
  · rw [Joins.cell_of_block hg x]
    have e : cur.toList[x]? = (rowsV gt k n)[x]? := by
      rw [← htk, List.getElem?_take, if_pos (by omega)]
    rw [← Array.getElem?_toList, e, ← hk]
    unfold rowsV
    rw [List.getElem?_map, List.getElem?_range hx]
    rfl
  · have hb : x * k + i < n * k := by
      have := Nat.mul_le_mul_right k (show x + 1 ≤ n by omega)
      rw [Nat.succ_mul] at this
      omega
    have h := (hc (x * k + i) hb).1
    rw [← hk, h]
    unfold tblL
    rw [List.getD_eq_getElem?_getD, List.getElem?_map, List.getElem?_range hb]
    have hik : i < k := by omega
    have h1 : (x * k + i) / k = x := by rw [Nat.mul_comm, Nat.mul_add_div (by omega), Nat.div_eq_of_lt hik]; rfl
    have h2 : (x * k + i) % k = i := by rw [Nat.mul_comm, Nat.mul_add_mod, Nat.mod_eq_of_lt hik]
    simp only [Option.map_some, Option.getD_some, h1, h2]

theorem Tbl.same {w w' : World} {gr gt n : Nat} {L : List MapN} (h : Tbl w gr gt n L) (e1 : w'.heap[gr]? = w.heap[gr]?) (e2 : w'.heap[gt]? = w.heap[gt]?) (hs : w.heap.size ≤ w'.heap.size) : Tbl w' gr gt n L :=
  ⟨Nat.lt_of_lt_of_le h.lr hs, Nat.lt_of_lt_of_le h.lt hs, fun x hx => (World.cell?_of_block (a := ⟨gr, x, none⟩) e1).trans (h.row x hx), fun x hx i hi => (World.cell?_of_block (a := ⟨gt, _, none⟩) e2).trans (h.cel x hx i hi)⟩

end Go.Proofs.Ytiakoplfknkhmaa
