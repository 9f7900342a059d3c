/- The sets of numbers below n as ascending lists, without Go; rows of rows; the contract of spec.l02Parts. -/
import Derived.Test.YtpkapgidpgmdoaaSclo
namespace Go.Proofs.Ytpkapgidpgmdoaa
open Go.RowKit

/-- The ascending lists of c of the numbers from f to n - 1, in order. -/
def partsR (n : Nat) : Nat → Nat → List (List Nat)
  | 0, _ => [[]]
  | c + 1, f => (List.range' f (n - f)).flatMap fun i => (partsR n c (i + 1)).map fun r => i :: r

/-- Those that begin with a number below k. -/
def accR (n c f k : Nat) : List (List Nat) := (List.range' f (k - f)).flatMap fun i => (partsR n c (i + 1)).map fun r => i :: r

def rowI (r : List Nat) : List Int := r.map fun x : Nat => (x : Int)

theorem accR_succ (n c : Nat) {f k : Nat} (h : f ≤ k) : accR n c f (k + 1) = accR n c f k ++ (partsR n c (k + 1)).map fun r => k :: r := by
  obtain ⟨d, rfl⟩ := Nat.exists_eq_add_of_le h
  unfold accR
  rw [show f + d + 1 - f = d + 1 by omega, show f + d - f = d by omega, List.range'_1_concat, List.flatMap_append]
  simp

theorem len_flat {g : Nat → List (List Nat)} {B : Nat} (hg : ∀ i, (g i).length ≤ B) : ∀ l : List Nat, (l.flatMap g).length ≤ l.length * B
  | [] => by simp
  | x :: l => by
    have := len_flat hg l
    have h2 := hg x
    rw [List.flatMap_cons, List.length_append, List.length_cons, Nat.succ_mul]
    omega

theorem parts_le {n : Nat} (hn : n ≤ 6) : ∀ c f, (partsR n c f).length ≤ 6 ^ c
  | 0, _ => by simp [partsR]
  | c + 1, f => by
    have h := len_flat (g := fun i => (partsR n c (i + 1)).map fun r => i :: r) (B := 6 ^ c) (fun i => by rw [List.length_map]; exact parts_le hn c _) (List.range' f (n - f))
    rw [List.length_range'] at h
    show ((List.range' f (n - f)).flatMap _).length ≤ _
    rw [Nat.pow_succ, Nat.mul_comm]
    exact Nat.le_trans h (Nat.mul_le_mul_right _ (by omega))

theorem acc_le {n : Nat} (hn : n ≤ 6) (c f k : Nat) (hk : k - f ≤ 6) : (accR n c f k).length ≤ 6 ^ (c + 1) := by
  have h := len_flat (g := fun i => (partsR n c (i + 1)).map fun r => i :: r) (B := 6 ^ c) (fun i => by rw [List.length_map]; exact parts_le hn c _) (List.range' f (k - f))
  rw [List.length_range'] at h
  rw [Nat.pow_succ, Nat.mul_comm]
  exact Nat.le_trans h (Nat.mul_le_mul_right _ (by omega))

theorem parts_row {n : Nat} : ∀ c f, ∀ r ∈ partsR n c f, r.length = c
  | 0, _, r, hr => by
    have : r = [] := by simpa [partsR] using hr
    rw [this]; rfl
  | c + 1, f, r, hr => by
    obtain ⟨i, _, hi⟩ := List.mem_flatMap.1 hr
    obtain ⟨q, hq, rfl⟩ := List.mem_map.1 hi
    rw [List.length_cons, parts_row c _ q hq]

theorem own_turn {w w' : World} {B C : Nat} {v : Value} {L : List Int} (h : Own w B v L) (_ : C ≤ w.heap.size → True) (hs : ∀ b, B ≤ b → b < w.heap.size → w'.heap[b]? = w.heap[b]?) : Own w' B v L := by
  rcases h.2 with h0 | ⟨g, cap, cur, h1, hB, hg, rest⟩
  · exact ⟨h.1, Or.inl h0⟩
  · exact ⟨h.1, Or.inr ⟨g, cap, cur, h1, hB, (hs g hB (Array.getElem?_eq_some_iff.1 hg).1).trans hg, rest⟩⟩

theorem wds_turn {w w' : World} {B : Nat} {v : Value} {us : List Value} {W : List (List Int)} (h : Wds w B v us W) (hs : ∀ b, B ≤ b → b < w.heap.size → w'.heap[b]? = w.heap[b]?) : Wds w' B v us W := by
  refine ⟨?_, fun j hj => ?_⟩
  · rcases h.own.2 with h0 | ⟨g, cap, cur, h1, hB, hg, rest⟩
    · exact ⟨h.own.1, Or.inl h0⟩
    · exact ⟨h.own.1, Or.inr ⟨g, cap, cur, h1, hB, (hs g hB (Array.getElem?_eq_some_iff.1 hg).1).trans hg, rest⟩⟩
  · obtain ⟨g, c, e, ho⟩ := h.row j hj
    exact ⟨g, c, e, own_turn (C := 0) ho (fun _ => trivial) hs⟩

theorem wds_app {w w' : World} {B : Nat} {v v' : Value} {us : List Value} {W : List (List Int)} {g c : Nat} {L : List Int} (h : Wds w B v us W) (hu : Own w B (.slice (some ⟨g, 0, none⟩) L.length c) L)
    (h1 : w'.ownsRow B 36 1 v' (W.length + 1) (us ++ [.slice (some ⟨g, 0, none⟩) L.length c])) (hg : w.grownBy w' v.ownBlock) : Wds w' B v' (us ++ [.slice (some ⟨g, 0, none⟩) L.length c]) (W ++ [L]) :=
  Wds.push h1 (by have := h.own.1; omega) (fun j hj => by
    obtain ⟨g2, c2, e, ho⟩ := h.row j hj
    exact ⟨g2, c2, e, ho.kept hg (own_apart (by decide) ho h.own)⟩) (hu.kept hg (own_apart (by decide) hu h.own))

theorem Wds.form {w : World} {B : Nat} {v : Value} {us : List Value} {W : List (List Int)} (h : Wds w B v us W) : ∃ a cap, v = .slice a W.length cap := by
  rcases h.own.2 with ⟨h0, h1⟩ | ⟨g, cap, cur, h1, _⟩
  · exact ⟨none, 0, by rw [h0, h1]⟩
  · exact ⟨_, cap, h1⟩

theorem wds_nil {w : World} {b base : Nat} (h : w.heap[b]? = some (.cells #[] 36 (0, 0))) (hb : base ≤ b) : Wds w base (.slice (some ⟨b, 0, none⟩) 0 0) [] [] :=
  ⟨⟨rfl, Or.inr ⟨b, 0, #[], rfl, hb, h, Nat.le_refl _, Nat.zero_le _, rfl, rfl⟩⟩, fun j hj => by simp at hj⟩

/-- The call returns a row of rows of its own. -/
def RetWds (B : Nat) (W : List (List Int)) (w : World) (e : Ending) (w' : World) : Prop := ∃ a cap us, e = .returned (.slice a W.length cap) ∧ Wds w' B (.slice a W.length cap) us W ∧ Below w.heap.size w w'

/-- append of a row onto a list of integers of the call's own. -/
theorem wpList_appIn {ops : Array Oper} {rest : List Oper} {o : Oper} {ac : Act} {Q : Exit → Act → World → Prop} {w : World} (hgd : o.guard = none) (s x : Operand)
    (ho : o.op = .call { callee := .builtin .append, args := #[s, x], argTypes := #[36, 36] })
    (base : Nat) (v : Value) (L M : List Int) (hs : ac.eval s = v) (hown : Own w base v L) (b c : Nat) (hx : ac.eval x = .slice (some ⟨b, 0, none⟩) M.length c) (hb : ∀ i, i < M.length → w.cell? ⟨b, i, none⟩ = some (.int .i64 (M.getD i 0)))
    (hlen : L.length ≤ 1000000) (hlen2 : M.length ≤ 1000000) (hbase : base ≤ w.heap.size)
    (h : ∀ v' w', Own w' base v' (L ++ M) → w.grownBy w' v.ownBlock → wpList Try.prog ops Q rest (ac.put o.dst v') w') : wpList Try.prog ops Q (o :: rest) ac w := by
  obtain ⟨i0, hi, hz0, hz1, hz2⟩ := info_parts info_int
  refine wpList_append_own_at w hgd s x _ ho base 2 i0 _ 1 8 Try.underlying36 hi hz0 hz1 hz2 rfl (by decide) v L.length (L.map (Value.int .i64)) hs hown ⟨b, 0, none⟩ M.length c (M.map (Value.int .i64)) hx (by rw [List.length_map, Nat.mul_one]) (fun j u hj => ?_) (ints_oneCell .i64 M) (by unfold maxLen; omega) (by omega) hbase ?_
  · have hjl : j < M.length := by
      rcases Nat.lt_or_ge j M.length with h | h
      · exact h
      · rw [List.getElem?_eq_none (by rw [List.length_map]; exact h)] at hj; cases hj
    have hadd : (⟨b, 0, none⟩ : Addr).add j = ⟨b, j, none⟩ := by cases j <;> simp [Addr.add]
    rw [hadd, hb j hjl, ← hj, List.getElem?_map, List.getElem?_eq_getElem hjl, List.getD_eq_getElem?_getD, List.getElem?_eq_getElem hjl]
    rfl
  · intro v' w' h1 h2 _ _
    refine h v' w' ?_ h2
    unfold Own
    rw [List.map_append, List.length_append]
    exact h1

theorem wpList_appW2 {ops : Array Oper} {rest : List Oper} {o : Oper} {ac : Act} {Q : Exit → Act → World → Prop} {w : World} (hgd : o.guard = none) (s x : Operand)
    (ho : o.op = .call { callee := .builtin .append, args := #[s, x], argTypes := #[75, 75] })
    (base : Nat) (v : Value) (n : Nat) (us : List Value) (hs : ac.eval s = v) (hown : w.ownsRow base 36 1 v n us) (b c : Nat) (u : Value) (hu : u.oneCell' = true) (hx : ac.eval x = .slice (some ⟨b, 0, none⟩) 1 c) (hb : w.heap[b]? = some (.cells #[u] 36 (0, 0)))
    (hlen : n ≤ 1000000) (hbase : base ≤ w.heap.size)
    (h : ∀ v' w', w'.ownsRow base 36 1 v' (n + 1) (us ++ [u]) → w.grownBy w' v.ownBlock → (v'.ownBlock = v.ownBlock ∨ v'.ownBlock = some w.heap.size) → wpList Try.prog ops Q rest (ac.put o.dst v') w') : wpList Try.prog ops Q (o :: rest) ac w := by
  obtain ⟨i0, hi, hz0, hz1, hz2⟩ := info_parts info_row
  refine wpList_append_own_at w hgd s x _ ho base 36 i0 _ 1 24 Try.underlying75 hi hz0 hz1 hz2 rfl (by decide) v n us hs hown ⟨b, 0, none⟩ 1 c [u] hx rfl (cell_one_blk hb) (fun z hz => by rw [List.mem_singleton.1 hz]; exact hu) (by unfold maxLen; omega) (by omega) hbase ?_
  intro v' w' h1 h2 _ h4
  exact h v' w' h1 h2 h4

theorem part_one {w w1 : World} {o : Obj} (h : (w.alloc o).grownBy w1 (some w.heap.size)) : w.heap.size < w1.heap.size ∧ ∀ b, b < w.heap.size → w1.heap[b]? = w.heap[b]? := by
  have hs := h.size
  rw [World.size_alloc] at hs
  refine ⟨by omega, fun b hb => (h.block b (by rw [World.size_alloc]; omega) (fun e => by injection e with e; omega)).trans (halloc_lt _ _ _ hb)⟩

theorem part_bel {w wr w1 : World} {o : Obj} (hb : Below w.heap.size w wr) (h : (wr.alloc o).grownBy w1 (some wr.heap.size)) : Below w.heap.size w w1 :=
  Below.grown (hb.alloc hb.size o) h (by rw [World.size_alloc]; have := hb.size; omega) (fun q e => by injection e with e; have := hb.size; omega)

theorem part_two {w1 w7 : World} {o : Obj} {row : Option Nat} (h : (w1.alloc o).grownBy w7 row) : ∀ b, b < w1.heap.size → (∀ r, row = some r → r ≠ b) → w7.heap[b]? = w1.heap[b]? := fun b hb hn =>
  (h.block b (by rw [World.size_alloc]; omega) (fun e => hn b e.symm rfl)).trans (halloc_lt _ _ _ hb)

theorem part_size {w1 w7 : World} {o : Obj} {row : Option Nat} (h : (w1.alloc o).grownBy w7 row) : w1.heap.size < w7.heap.size := by
  have := h.size
  rw [World.size_alloc] at this
  omega

theorem own_one_int {w : World} {b base : Nat} {x : Int} (h : w.heap[b]? = some (.cells #[.int .i64 x] 2 (0, 0))) (hb : base ≤ b) : Own w base (.slice (some ⟨b, 0, none⟩) 1 1) [x] :=
  ⟨rfl, Or.inr ⟨b, 1, _, rfl, hb, h, Nat.le_refl _, by decide, rfl, rfl⟩⟩

theorem row_at {R : List (List Nat)} (j : Nat) (hj : j < R.length) : (R.map rowI).getD j [] = rowI (R.getD j []) := by
  rw [List.getD_eq_getElem?_getD, List.getElem?_map, List.getElem?_eq_getElem hj, List.getD_eq_getElem?_getD, List.getElem?_eq_getElem hj]
  rfl

theorem rowI_len (r : List Nat) : (rowI r).length = r.length := by unfold rowI; rw [List.length_map]

set_option maxRecDepth 100000 in
theorem sparts_zero (n : Nat) (f : Nat) (w : World) :
    Calls Try.prog 95 #[.int .i64 (n : Int), .int .i64 (f : Int), .int .i64 0] w (RetWds w.heap.size [[]] w) := by
  go_enter Try.func95, Try.ntmps95
  go_wp2_with fail
  go_ret
  exact ⟨some ⟨w.heap.size + 1, 0, none⟩, 1, [.slice (some ⟨w.heap.size, 0, none⟩) 0 0], rfl, wds_one (halloc_at (w.alloc (.cells #[] 2)) (.cells #[.slice (some ⟨w.heap.size, 0, none⟩) 0 0] 36) (w.heap.size + 1) (by simp)) ((halloc_lt _ _ _ (by simp)).trans (halloc_at w (.cells #[] 2) _ rfl)) (Nat.le_succ _) (Nat.le_refl _), by (repeat' (first | (with_reducible exact Below.refl _ _) | (with_reducible refine Below.alloc ?_ ?_ _) | (with_reducible refine Below.setCell ?_ ?_ _) | (with_reducible refine Below.drew ?_) | (with_reducible refine below_drewN ?_ _) | (with_reducible refine Below.trans ?_ (Below.mono (Hid.out (by assumption)) ?_)) | omega | (simp; done) | (simp; omega)))⟩

set_option maxRecDepth 100000 in
set_option maxHeartbeats 2000000 in
theorem sparts_succ (n : Nat) (hn : n ≤ 6) (c : Nat) (hc : c + 1 ≤ 6) (hih : ∀ (f : Nat) (_ : f ≤ 7) (w : World), Calls Try.prog 95 #[.int .i64 (n : Int), .int .i64 (f : Int), .int .i64 (c : Int)] w (RetWds w.heap.size ((partsR n c f).map rowI) w)) (f : Nat) (hf : f ≤ 7) (w : World) :
    Calls Try.prog 95 #[.int .i64 (n : Int), .int .i64 (f : Int), .int .i64 ((c : Int) + 1)] w (RetWds w.heap.size ((accR n c f n).map rowI) w) := by
  have HIH := Lib.hid hih
  clear hih
  have hpow : 6 ^ (c + 1) ≤ 6 ^ 6 := Nat.pow_le_pow_right (by omega) hc
  have hpow2 : 6 ^ c ≤ 6 ^ 6 := Nat.pow_le_pow_right (by omega) (by omega)
  have h66 : (6 : Nat) ^ 6 = 46656 := by decide
  rw [h66] at hpow hpow2
  have HACC := Lib.hid fun k hk => Nat.le_trans (acc_le hn c f k hk) hpow
  have HPL := Lib.hid fun f => Nat.le_trans (parts_le hn c f) hpow2
  have hcz : ((c : Int) + 1 == 0) = false := by rw [beq_eq_false_iff_ne]; omega
  have hc' : (c : Int) ≤ 5 := by omega
  have hn' : (n : Int) ≤ 6 := by omega
  have hf' : (f : Int) ≤ 7 := by omega
  clear hpow hpow2 h66
  go_enter Try.func95, Try.ntmps95
  go_wp2_with fail
  go_loopw [7, 8, 9, 10] (fun v i _ _ wr => ∃ (k : Nat) (us : List Value), f ≤ k ∧ (k ≤ n ∨ k = f) ∧ i = .int .i64 k ∧ Wds wr w.heap.size v us ((accR n c f k).map rowI) ∧ Below w.heap.size w wr) (fun _ i _ _ _ => n - (intOf i).toNat)
  case atStart => exact ⟨f, [], Nat.le_refl _, Or.inr rfl, rfl, by (have e : accR n c f f = [] := by unfold accR; rw [Nat.sub_self]; rfl); rw [e]; exact wds_nil (halloc_at _ _ _ rfl) (Nat.le_refl _), (Below.refl _ _).alloc (Nat.le_refl _) _⟩
  case round =>
    obtain ⟨k, us, hfk, hkn, rfl, hwd, hb⟩ := hrel
    have HWD := Lib.hid hwd
    have HBR := Lib.hid hb
    have hsr := hb.size
    clear hwd hb
    by_cases hkl : k < n
    · have hkl' : (k : Int) < (n : Int) := by omega
      go_wp2_with fail
      have hq := HIH.out (k + 1) (by omega) wr
      simp only [Int.natCast_add, Int.natCast_one] at hq
      refine hq.mono ?_
      rintro e w2 ⟨a, cap, usr, rfl, hwr, hb2⟩
      have HWR := Lib.hid hwr
      have HB2 := Lib.hid hb2
      have hs2 := hb2.size
      have HWD2 := Lib.hid (HWD.out.below hb2)
      have hvb : ∀ v r, Wds wr w.heap.size v us ((accR n c f k).map rowI) → v.ownBlock = some r → r < wr.heap.size := fun v r h e => (h.own.lt r e).2
      have HVB := Lib.hid hvb
      have hpl := HPL.out (k + 1)
      have HROW := Lib.hid (parts_row (n := n) c (k + 1))
      have hal := HACC.out k (by omega)
      have HAS := Lib.hid (accR_succ n c hfk)
      clear hwr hb2 hq hvb
      generalize partsR n c (k + 1) = R at *
      generalize accR n c f k = A at *
      obtain ⟨wo, hwo⟩ : ∃ wo, wo = wr := ⟨_, rfl⟩
      subst hwo
      rw [List.length_map]
      go_wp2_with fail
      go_loopw [7, 10] (fun v z wr => ∃ (m : Nat) (us : List Value), m ≤ R.length ∧ z = .int .i64 m ∧ Wds wr w.heap.size v us ((A ++ (R.take m).map fun r => k :: r).map rowI) ∧ (∀ r, v.ownBlock = some r → r < wo.heap.size ∨ w2.heap.size ≤ r) ∧ Below w.heap.size w wr ∧ w2.heap.size ≤ wr.heap.size ∧ ∀ b, wo.heap.size ≤ b → b < w2.heap.size → wr.heap[b]? = w2.heap[b]?) (fun _ z _ => R.length - (intOf z).toNat)
      case atStart => exact ⟨0, us, by omega, rfl, by simpa using HWD2.out, fun r e => Or.inl (HVB.out _ r HWD.out e), HBR.out.trans (HB2.out.mono hsr), Nat.le_refl _, fun b _ _ => rfl⟩
      case round =>
        obtain ⟨m, us, hm, rfl, hwd, hvb, hb, hsz, hsame⟩ := hrel
        have HW := Lib.hid hwd
        have HVB := Lib.hid hvb
        have HB := Lib.hid hb
        have HSM := Lib.hid hsame
        have hs3 := hb.size
        clear hwd hvb hb hsame
        by_cases hml : m < R.length
        · have hml' : (m : Int) < (R.length : Int) := by omega
          have hwr := wds_turn HWR.out HSM.out
          obtain ⟨gr, capr, er, hcr⟩ := wds_open hwr (by rw [List.length_map]; omega)
          rw [List.length_map] at er
          injection er with er1 _ er2
          subst er1 er2
          have hcm := hcr m (by rw [List.length_map]; exact hml)
          obtain ⟨gm, cm, eu, hom⟩ := hwr.row m (by rw [List.length_map]; exact hml)
          rw [eu] at hcm
          rw [row_at m hml] at hcm hom
          have hrl : (rowI (R.getD m [])).length = c := by
            rw [rowI_len]
            refine HROW.out _ ?_
            rw [List.getD_eq_getElem?_getD, List.getElem?_eq_getElem hml]; exact List.getElem_mem hml
          have hgr : gr < wr.heap.size := by
            rcases hwr.own.2 with ⟨h0, _⟩ | ⟨g, cap, cur, h1, _, hg, _⟩
            · cases h0
            · injection h1 with h1
              injection h1 with h1
              injection h1 with h1
              rw [h1]; exact (Array.getElem?_eq_some_iff.1 hg).1
          have HCELL : Hid (∀ i, i < (rowI (R.getD m [])).length → wr.cell? ⟨gm, i, none⟩ = some (.int .i64 ((rowI (R.getD m [])).getD i 0))) := Lib.hid fun i hi => by
            have := (own_cells hom (by omega)).2 i hi
            rwa [Nat.zero_add] at this
          have hgm : gm < wr.heap.size := (own_cells hom (by omega)).1
          have HTK : Hid ((A ++ (R.take (m + 1)).map fun r => k :: r).map rowI = (A ++ (R.take m).map fun r => k :: r).map rowI ++ [[(k : Int)] ++ rowI (R.getD m [])]) := Lib.hid (by
            have e : R.take (m + 1) = R.take m ++ [R.getD m []] := by rw [List.take_add_one, List.getElem?_eq_getElem hml, List.getD_eq_getElem?_getD, List.getElem?_eq_getElem hml]; rfl
            rw [e]
            simp only [List.map_append, List.append_assoc, List.map_cons, List.map_nil]
            rfl)
          have hll : (rowI (R.getD m [])).length ≤ 6 := by omega
          have hwl : ((A ++ (R.take m).map fun r => k :: r).map rowI).length ≤ 1000000 := by
            simp only [List.length_map, List.length_append, List.length_take]; omega
          clear hwr hcr eu hom hrl
          generalize ((A ++ (R.take m).map fun r => k :: r).map rowI) = W at *
          generalize rowI (R.getD m []) = Lr at *
          have hs4 : w.heap.size ≤ wr.heap.size := hs3
          obtain ⟨va, capa, hva⟩ := HW.out.form
          subst hva
          have HGT : Hid (∀ r, (Value.slice va W.length capa).ownBlock = some r → w.heap.size ≤ r ∧ r < wr.heap.size) := Lib.hid fun r e => HW.out.own.lt r e
          go_wp2_with (first
            | (at_builtin; (refine wpList_appIn rfl _ _ rfl w.heap.size _ [(k : Int)] Lr rfl (own_one_int (halloc_at _ _ _ rfl) (by omega)) gm cm rfl (fun i hi => ((Below.refl wr.heap.size wr).alloc (Nat.le_refl _) _).cell (p := ⟨gm, i, none⟩) hgm |>.trans (HCELL.out i hi)) (by simp) (by omega) (by simp; omega) ?_; intro v1 w1 hown1 hg1; obtain ⟨g1, c1, e1⟩ := own_some hown1 (by simp); rw [show ([(k : Int)] ++ Lr).length = Lr.length + 1 by simp] at e1; subst e1; have HO1 := Lib.hid hown1; have HG1 := Lib.hid (part_one hg1); have HWA := Lib.hid (wds_turn HW.out (w' := w1) (fun b _ hb => part_one hg1 |>.2 b hb)); have HB1 := Lib.hid (part_bel HB.out hg1); have hz1 : wr.heap.size < w1.heap.size := (part_one hg1).1; clear hown1 hg1))
            | (at_builtin; (refine wpList_appW2 rfl _ _ rfl w.heap.size (.slice va W.length capa) W.length us rfl ((HWA.out.below ((Below.refl _ _).alloc (Nat.le_refl _) _)).own) _ 1 (.slice (some ⟨g1, 0, none⟩) (Lr.length + 1) c1) rfl rfl (halloc_at _ _ _ rfl) (by omega) (by simp; omega) ?_; intro v7 w7 hown7 hg7 hat7; have HWN := Lib.hid (wds_app (g := g1) (c := c1) (L := (k : Int) :: Lr) (HWA.out.below ((Below.refl _ _).alloc (Nat.le_refl _) _)) (own_bel HO1.out ((Below.refl _ _).alloc (Nat.le_refl _) _)) hown7 hg7); have HB7 : Hid (Below w.heap.size w w7) := Lib.hid (Below.grown (HB1.out.alloc (by omega) _) hg7 (by simp; omega) (fun q e => (HGT.out q e).1)); have HG7 : Hid (∀ b, b < w1.heap.size → (∀ r, (Value.slice va W.length capa).ownBlock = some r → r ≠ b) → w7.heap[b]? = w1.heap[b]?) := Lib.hid (part_two hg7); have hz7 : w1.heap.size < w7.heap.size := part_size hg7; have HAT : Hid (v7.ownBlock = (Value.slice va W.length capa).ownBlock ∨ v7.ownBlock = some (w1.heap.size + 1)) := Lib.hid (by simpa using hat7); clear hown7 hg7 hat7)))
          go_roundw
          case rel =>
            refine ⟨m + 1, _, by omega, by go_num, by rw [HTK.out]; exact HWN.out, fun r e => ?_, HB7.out, by omega, fun b h1 h2 => ?_⟩
            · rcases HAT.out with h | h
              · exact HVB.out r (by rw [← h]; exact e)
              · rw [h] at e; injection e with e; right; omega
            · refine (HG7.out b (by omega) (fun r e h => ?_)).trans ((HG1.out.2 b (by omega)).trans (HSM.out b h1 h2))
              rcases HVB.out r e with h3 | h3 <;> omega
          case measure => simp [intOf]; omega
        · obtain rfl : m = R.length := by omega
          rw [List.take_length] at HW
          rw [← HAS.out] at HW
          go_wp2_with fail
          go_roundw
          case rel => exact ⟨k + 1, us, by omega, Or.inl (by omega), by go_num, HW.out, HB.out⟩
          case measure => simp [intOf]; omega
    · have he : accR n c f k = accR n c f n := by
        rcases hkn with h | h
        · have : k = n := by omega
          rw [this]
        · have h2 : k - f = 0 := by omega
          have h3 : n - f = 0 := by omega
          unfold accR; rw [h2, h3]
      rw [he] at HWD
      obtain ⟨va, capa, hva⟩ := HWD.out.form
      subst hva
      go_wp2_with fail
      go_ret
      exact ⟨va, capa, us, rfl, HWD.out, HBR.out⟩

theorem sparts_any (n : Nat) (hn : n ≤ 6) (c : Nat) : ∀ (_ : c ≤ 6) (f : Nat) (_ : f ≤ 7) (w : World),
    Calls Try.prog 95 #[.int .i64 (n : Int), .int .i64 (f : Int), .int .i64 (c : Int)] w (RetWds w.heap.size ((partsR n c f).map rowI) w) := by
  induction c with
  | zero => intro _ f _ w; exact sparts_zero n f w
  | succ c ih => intro hc f hf w; exact sparts_succ n hn c hc (ih (by omega)) f hf w

end Go.Proofs.Ytpkapgidpgmdoaa
