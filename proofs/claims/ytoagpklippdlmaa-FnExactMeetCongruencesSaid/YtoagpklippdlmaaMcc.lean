/- Meets of congruences: pairs of numbers as keys; the contracts of impl.numbersByFirst at pairs and of MeetCongruences on both sides. The contracts of MeetCongruences, on both sides. -/
import Derived.Test.YtoagpklippdlmaaIcg
import Derived.Test.YtoagpklippdlmaaKey
import Derived.Test.YtoagpklippdlmaaNm
import Derived.StillTailTactics
namespace Go.Proofs.Ytoagpklippdlmaa
open Go Go.RowKit Go.Maps

set_option maxRecDepth 100000 in
theorem law2 : Keyed Try.prog 78 := Keyed.of_law (deep_law_laid laidOut (m := 5) (by omega) (of_decide_eq_true (by kernel_rfl)) (by kernel_rfl) (by kernel_rfl))

theorem cells2 : Try.prog.cellsOf 78 = 2 := by kernel_rfl

theorem lits_2 (d : Nat) (x y : Int) (hx : (Lit.int .i64 x).wf = true) (hy : (Lit.int .i64 y).wf = true) : Try.prog.keyLits (d + 1 + 1) 78 [.int .i64 x, .int .i64 y] = some [.int .i64 x, .int .i64 y] := by
  unfold Program.keyLits
  simp only [Try.underlying78, cells2, cellsI]
  simp [List.range_succ, List.range_zero, lits_int _ _ hx, lits_int _ _ hy]

/-- What a pair reads as, as a key. -/
def k2L (x y : Int) : Lit := .string (keyBytes [.int .i64 x, .int .i64 y])

theorem keyOf_2 {x y : Int} (hx : (Lit.int .i64 x).wf = true) (hy : (Lit.int .i64 y).wf = true) : keyOf Try.prog 78 (.agg #[.int .i64 x, .int .i64 y]) = some (k2L x y) := by
  obtain ⟨d, hd⟩ : ∃ d, Try.prog.types.size + 1 = d + 1 + 1 := ⟨Try.prog.types.size - 1, by
    have := of_decide_eq_true types_many
    omega⟩
  have hk : Try.prog.keyType 78 = true := by kernel_rfl
  have hf : (Value.agg #[.int .i64 x, .int .i64 y]).formed Try.prog 78 = true := by
    unfold Value.formed
    simp only [Try.underlying78, cells2]
    rfl
  have hc : (Value.agg #[.int .i64 x, .int .i64 y]).cells.toList = [.int .i64 x, .int .i64 y] := rfl
  unfold keyOf
  simp only [Try.underlying78]
  rw [hk, hf, hd, hc, lits_2 d _ _ hx hy]
  rfl

theorem k2L_key (x y : Int) : WideAt.IsKeyLit (k2L x y) := trivial

theorem k2L_inj {a b c d : Int} (ha : (Lit.int .i64 a).wf = true) (hb : (Lit.int .i64 b).wf = true) (hc : (Lit.int .i64 c).wf = true) (hd : (Lit.int .i64 d).wf = true) (e : k2L a b = k2L c d) : a = c ∧ b = d := by
  have h1 := keyOf_2 ha hb
  rw [e] at h1
  have h2 := law2.inj h1 (keyOf_2 hc hd)
  have h3 : (#[.int .i64 a, .int .i64 b] : Array Value) = #[.int .i64 c, .int .i64 d] := by injection h2
  have h4 := congrArg Array.toList h3
  simp only [List.cons.injEq, Value.int.injEq, true_and, and_true] at h4
  exact h4

/-- The map behind k rounds, by keys that stand for the values. -/
def kE (ky : Nat → Lit) (t : Nat → Int) : Nat → DataW Unit
  | 0 => .map []
  | k + 1 => if fst1 t k = k then (kE ky t k).put (ky k) (.lit (.int .i64 (rkK t k))) else kE ky t k

/-- Keys that stand for values. -/
structure Ky (ky : Nat → Lit) (t : Nat → Int) : Prop where
  key : ∀ i, WideAt.IsKeyLit (ky i)
  inj : ∀ i j, ky i = ky j ↔ t i = t j

theorem kE_new {ky : Nat → Lit} {t : Nat → Int} {k : Nat} (h : fst1 t k = k) : kE ky t (k + 1) = (kE ky t k).put (ky k) (.lit (.int .i64 (rkK t k))) := by
  show (if fst1 t k = k then _ else _) = _
  rw [if_pos h]

theorem kE_old {ky : Nat → Lit} {t : Nat → Int} {k : Nat} (h : fst1 t k ≠ k) : kE ky t (k + 1) = kE ky t k := by
  show (if fst1 t k = k then _ else _) = _
  rw [if_neg h]

theorem kE_tidy {ky : Nat → Lit} {t : Nat → Int} (K : Ky ky t) : ∀ k, Tidy (kE ky t k)
  | 0 => tidy_empty
  | k + 1 => by
    by_cases h : fst1 t k = k
    · rw [kE_new h]; exact (kE_tidy K k).put (K.key k) _
    · rw [kE_old h]; exact kE_tidy K k

theorem has_kE {ky : Nat → Lit} {t : Nat → Int} (K : Ky ky t) (j : Nat) : ∀ k, Maps.has (kE ky t k) (ky j) = (List.range k).any fun i => t i == t j
  | 0 => rfl
  | k + 1 => by
    rw [List.range_succ, List.any_append]
    obtain ⟨a1, a2, a3⟩ := fst1_at t k
    by_cases h : fst1 t k = k
    · rw [kE_new h]
      by_cases e : t j = t k
      · rw [(K.inj j k).2 e, has_put_same (kE_tidy K k).isMap (K.key k)]; simp [e]
      · rw [has_put_other (fun c => e ((K.inj j k).1 c)), has_kE K j k]
        have : (t k == t j) = false := by rw [beq_eq_false_iff_ne]; exact fun c => e c.symm
        simp [this]
    · rw [kE_old h, has_kE K j k]
      by_cases e : t k = t j
      · have : ((List.range k).any fun i => t i == t j) = true := by
          rw [List.any_eq_true]
          exact ⟨fst1 t k, by simp; omega, by rw [a1, e]; simp⟩
        rw [this]; rfl
      · have : (t k == t j) = false := by rw [beq_eq_false_iff_ne]; exact e
        simp [this]

theorem has_kE_new {ky : Nat → Lit} {t : Nat → Int} (K : Ky ky t) (k : Nat) : Maps.has (kE ky t k) (ky k) = !decide (fst1 t k = k) := by
  rw [has_kE K]
  obtain ⟨a1, a2, a3⟩ := fst1_at t k
  by_cases h : fst1 t k = k
  · rw [decide_eq_true h, Bool.not_true, List.any_eq_false]
    intro i hi
    rw [h] at a3
    simpa using a3 i (by simpa using hi)
  · rw [decide_eq_false h, Bool.not_false, List.any_eq_true]
    exact ⟨fst1 t k, by simp; omega, by rw [a1]; simp⟩

theorem atKey_kE {ky : Nat → Lit} {t : Nat → Int} (K : Ky ky t) (z : DataW Unit) : ∀ k i, i < k → (kE ky t k).atKey (ky i) z = .lit (.int .i64 (kvK t i))
  | 0, i, h => by omega
  | k + 1, i, hi => by
    obtain ⟨a1, a2, a3⟩ := fst1_at t k
    by_cases h : fst1 t k = k
    · rw [kE_new h]
      by_cases e : t i = t k
      · rw [(K.inj i k).2 e, atKey_put_same (kE_tidy K k).isMap (K.key k), kvK_same e, kvK_first h]
      · rw [atKey_put_other (fun c => e ((K.inj i k).1 c)), atKey_kE K z k i (by
          by_cases c : i = k
          · subst c; exact absurd rfl e
          · omega)]
    · rw [kE_old h]
      by_cases c : i = k
      · subst c
        rw [← (K.inj _ _).2 a1, atKey_kE K z i (fst1 t i) (by omega), kvK_same a1]
      · exact atKey_kE K z k i (by omega)

theorem size_kE {ky : Nat → Lit} {t : Nat → Int} (K : Ky ky t) : ∀ k, Maps.size (kE ky t k) = rkK t k
  | 0 => rfl
  | k + 1 => by
    rw [rkK_succ]
    by_cases h : fst1 t k = k
    · rw [kE_new h, if_pos h, size_put (kE_tidy K k), has_kE_new K, decide_eq_true h, size_kE K k]
      rfl
    · rw [kE_old h, if_neg h, size_kE K k]

/-- The cells of pairs. -/
def qcl (P : List (Int × Int)) : List Value := P.flatMap fun x => [.int .i64 x.1, .int .i64 x.2]

theorem qcl_app (P Q : List (Int × Int)) : qcl (P ++ Q) = qcl P ++ qcl Q := by unfold qcl; rw [List.flatMap_append]

theorem qcl_one : ∀ (P : List (Int × Int)) (u : Value), u ∈ qcl P → u.oneCell' = true
  | [], u, h => by cases h
  | x :: P, u, h => by
    unfold qcl at h
    rw [List.flatMap_cons] at h
    rcases List.mem_append.1 h with h | h
    · simp at h; rcases h with rfl | rfl <;> rfl
    · exact qcl_one P u h

theorem qcl_at : ∀ (P : List (Int × Int)) (j : Nat), j < P.length → (qcl P)[j * 2]? = some (.int .i64 (P.getD j (0, 0)).1) ∧ (qcl P)[j * 2 + 1]? = some (.int .i64 (P.getD j (0, 0)).2)
  | [], j, h => by simp at h
  | x :: P, 0, _ => ⟨rfl, rfl⟩
  | x :: P, j + 1, h => by
    have ih := qcl_at P j (by simpa using h)
    rw [show (j + 1) * 2 = j * 2 + 2 by omega]
    exact ih

/-- The first k pairs. -/
def prL (tX tY : Nat → Int) (k : Nat) : List (Int × Int) := (List.range k).map fun i => (tX i, tY i)
theorem prL_len (tX tY : Nat → Int) (k : Nat) : (prL tX tY k).length = k := by unfold prL; simp
theorem prL_succ (tX tY : Nat → Int) (k : Nat) : prL tX tY (k + 1) = prL tX tY k ++ [(tX k, tY k)] := by unfold prL; rw [List.range_succ, List.map_append]; rfl
theorem prL_at (tX tY : Nat → Int) (k j : Nat) (h : j < k) : (prL tX tY k).getD j (0, 0) = (tX j, tY j) := by unfold prL; simp [h]

/-- A list of pairs of numbers that came in. -/
def InQ (w : World) (a : Option Addr) (m : Nat) (tX tY : Nat → Int) : Prop :=
  m = 0 ∨ ∃ b, a = some ⟨b, 0, none⟩ ∧ b < w.heap.size ∧ ∀ j, j < m → w.cell? ⟨b, j * 2, none⟩ = some (.int .i64 (tX j)) ∧ w.cell? ⟨b, j * 2 + 1, none⟩ = some (.int .i64 (tY j))

theorem InQ.below {w w' : World} {a : Option Addr} {m : Nat} {tX tY : Nat → Int} (h : InQ w a m tX tY) (hb : Below w.heap.size w w') : InQ w' a m tX tY := by
  rcases h with h0 | ⟨b, ha, hlt, hc⟩
  · exact Or.inl h0
  · exact Or.inr ⟨b, ha, Nat.lt_of_lt_of_le hlt hb.size, fun j hj => ⟨(hb.cell (p := ⟨b, j * 2, none⟩) hlt).trans (hc j hj).1, (hb.cell (p := ⟨b, j * 2 + 1, none⟩) hlt).trans (hc j hj).2⟩⟩

/-- A list of pairs of numbers of the call's own. -/
def OwnQ (w : World) (B : Nat) (v : Value) (P : List (Int × Int)) : Prop := w.ownsRow B 78 2 v P.length (qcl P)

theorem ownQ_in {w : World} {B : Nat} {v : Value} {m : Nat} {tX tY : Nat → Int} (h : OwnQ w B v (prL tX tY m)) : ∃ a cap, v = .slice a m cap ∧ InQ w a m tX tY := by
  have hl := prL_len tX tY m
  rcases h.2 with ⟨h1, h0⟩ | ⟨g, cap, cur, h1, hB, hg, hn, hcap, hsz, htk⟩
  · rw [hl] at h0
    exact ⟨none, 0, by rw [h1, h0], Or.inl h0⟩
  · rw [hl] at h1 htk
    refine ⟨_, cap, h1, Or.inr ⟨g, rfl, (Array.getElem?_eq_some_iff.1 hg).1, fun j hj => ?_⟩⟩
    have hx := qcl_at (prL tX tY m) j (by rw [hl]; exact hj)
    rw [prL_at tX tY m j hj] at hx
    have e : ∀ i, i < m * 2 → cur[i]? = (qcl (prL tX tY m))[i]? := fun i hi => by
      rw [← htk, List.getElem?_take, if_pos (by omega), Array.getElem?_toList]
    rw [Joins.cell_of_block hg, Joins.cell_of_block hg, e _ (by omega), e _ (by omega)]
    exact hx

theorem info_2 : (Try.prog.info? 78).map (fun i => (i.zero, i.size, i.bytes)) = some (some (.agg #[.int .i64 0, .int .i64 0]), 2, 16) := by kernel_rfl

/-- append of a pair onto a list of pairs of the call's own. -/
theorem wpList_appQ {ops : Array Oper} {rest : List Oper} {o : Oper} {ac : Act} {Q : Exit → Act → World → Prop} {w : World} (hgd : o.guard = none) (s x : Operand)
    (ho : o.op = .call { callee := .builtin .append, args := #[s, x], argTypes := #[77, 77] })
    (base : Nat) (v : Value) (P : List (Int × Int)) (hs : ac.eval s = v) (hown : OwnQ w base v P) (b c : Nat) (p q : Int) (hx : ac.eval x = .slice (some ⟨b, 0, none⟩) 1 c) (hb : w.heap[b]? = some (.cells #[.int .i64 p, .int .i64 q] 78 (0, 0)))
    (hlen : P.length ≤ 1000000) (hbase : base ≤ w.heap.size)
    (h : ∀ v' w', OwnQ w' base v' (P ++ [(p, q)]) → w.grownBy w' v.ownBlock → wpList Try.prog ops Q rest (ac.put o.dst v') w') : wpList Try.prog ops Q (o :: rest) ac w := by
  obtain ⟨i0, hi, hz0, hz1, hz2⟩ := info_parts info_2
  refine wpList_append_own_at w hgd s x _ ho base 78 i0 _ 2 16 Try.underlying77 hi hz0 hz1 hz2 rfl (by decide) v P.length (qcl P) hs hown ⟨b, 0, none⟩ 1 c (qcl [(p, q)]) hx rfl (fun j u hj => ?_) (qcl_one _) (by unfold maxLen; omega) (by omega) hbase ?_
  · have hadd : (⟨b, 0, none⟩ : Addr).add j = ⟨b, j, none⟩ := by cases j <;> simp [Addr.add]
    rw [hadd, Joins.cell_of_block hb j, ← hj]
    simp [qcl]
  · intro v' w' h1 h2 _ _
    refine h v' w' ?_ h2
    unfold OwnQ
    rw [qcl_app, List.length_append]
    exact h1

theorem cell_one_sx {w : World} {g : Nat} (hg : w.heap.size = g) (x : Value) (t : TypeId) : ∀ j u, [x][j]? = some u → (w.alloc (.cells #[x] t)).cell? ((⟨g, 0, none⟩ : Addr).add j) = some u := by
  subst hg
  exact cell_one_new w x t

set_option maxRecDepth 100000 in
set_option maxHeartbeats 2000000 in
theorem nbq_any (m : Nat) (hn : m ≤ 1000) (tX tY t : Nat → Int) (K : Ky (fun i => k2L (tX i) (tY i)) t) (hwf : ∀ i, (Lit.int .i64 (tX i)).wf = true ∧ (Lit.int .i64 (tY i)).wf = true) (a : Option Addr) (c : Nat) (w : World) (hr : InQ w a m tX tY) :
    Calls Try.prog 64 #[.slice a m c] w (RetOwn w.heap.size (kerK t m) w) := by
  have HR := Lib.hid hr
  have HWF := Lib.hid hwf
  have HK := Lib.hid K
  have hmm := @run_makeMap Try.prog
  obtain ⟨i0, hi, hz0', hz1', hz2'⟩ := info_parts info_int
  clear hr hwf K
  go_enter Try.func64, Try.ntmps64
  go_wp2_with fail
  clear hmm
  go_loopw [3, 6, 7, 8, 12] (fun v _ _ _ i wr => ∃ k : Nat, k ≤ m ∧ i = .int .i64 k ∧ wr.ownsMap Try.prog 78 (plainElem Try.prog 2) w.heap.size k (kE (fun i => k2L (tX i) (tY i)) t k) ∧ wr.ownsRow (w.heap.size + 1) 2 1 v (kerK t k).length ((kerK t k).map (Value.int .i64)) ∧
      Below w.heap.size w wr ∧ w.heap.size < wr.heap.size) (fun _ _ _ _ i _ => m - (intOf i).toNat)
  case atStart =>
    refine ⟨0, by omega, rfl, World.ownsMap_made _ _ _ _, World.ownsRow_nil _ _ _ _, ?_, by simp⟩
    · (repeat' (first | (with_reducible exact Below.refl _ _) | (with_reducible refine Below.alloc ?_ ?_ _) | (with_reducible refine Below.setCell ?_ ?_ _) | (with_reducible refine Below.drew ?_) | (with_reducible refine below_drewN ?_ _) | (with_reducible refine Below.trans ?_ (Below.mono (Hid.out (by assumption)) ?_)) | omega | (simp; done) | (simp; omega)))
  case round =>
    obtain ⟨k, hk, rfl, hmap, hown, hb, hsz⟩ := hrel
    have Hb := Lib.hid hb
    have hlen := kerK_len t k
    have hws := hb.size
    by_cases hkm : k < m
    · have hkm' : (k : Int) < (m : Int) := by omega
      obtain ⟨b, rfl, hlt, hin⟩ := (HR.out.below hb).resolve_left (by omega)
      obtain ⟨x1, x2⟩ := hin k hkm
      have hrk := rkK_le t k
      obtain ⟨hw1, hw2⟩ := HWF.out k
      have hkey := keyOf_2 hw1 hw2
      have hwf : (Lit.int .i64 (rkK t k : Int)).wf = true := WalkArith.wf_i64 (by omega)
      have hhas := has_kE_new HK.out k
      have hsize := size_kE HK.out k
      have hrow := hown
      clear hb hin hw1 hw2
      by_cases hn : fst1 t k = k
      · rw [decide_eq_true hn, Bool.not_true] at hhas
        have HKV := Lib.hid (kvK_first hn)
        have HND := Lib.hid (kE_new (ky := fun i => k2L (tX i) (tY i)) hn)
        clear hn
        generalize tX k = X at *
        generalize tY k = Y at *
        generalize kE (fun i => k2L (tX i) (tY i)) t k = D at *
        go_wp2_with (first
          | (at_lookup; refine wpList_lookup_own_ok_int _ rfl _ _ 107 rfl 78 2 .i64 law2 Try.underlying107 Try.underlying2 (zeroI _) w.heap.size k _ rfl (hmap.alloc _) _ _ rfl hkey ?_; intro c hat hwc)
          | (at_len; refine wpList_len_own _ rfl _ 107 rfl 78 2 Try.underlying107 _ w.heap.size k _ rfl (hmap.alloc _) ?_)
          | (at_mapUpdate; refine wpList_mapUpdate_own _ rfl _ _ _ 107 rfl 78 2 law2 Try.underlying107 _ w.heap.size k _ rfl (hmap.alloc _) (by unfold maxLen; omega) _ _ _ rfl rfl hkey _ [] (plainElem_int Try.underlying2 hwf) ?_; intro w1 hmap1 hgrow1)
          | (at_builtin; refine wpList_append_own _ rfl _ _ 26 rfl (w.heap.size + 1) 2 i0 (.int .i64 0) 1 8 Try.underlying26 hi hz0' hz1' hz2' rfl (by decide) _ _ _ rfl (((hown.alloc _).kept hgrow1 (Or.inr (row_ne hown (Nat.lt_succ_self _)).symm)).alloc _) ⟨w1.heap.size, 0, none⟩ 1 1 [.int .i64 (rkK t k : Int)] rfl rfl (cell_one_new _ _ _) (ints_oneCell .i64 [(rkK t k : Int)]) (by unfold maxLen; omega) (by omega) (by have := hgrow1.size; simp at this; simp; omega) ?_; intro v' w2 hown' hgrow2 _))
        have hr1 := (hown.alloc (.cells #[.int .i64 X, .int .i64 Y] 78)).kept hgrow1 (Or.inr (row_ne hown (Nat.lt_succ_self _)).symm)
        have s1 := hgrow1.size
        have s2 := hgrow2.size
        simp at s1 s2
        have HM2 := Lib.hid ((hmap1.alloc _).kept hgrow2 (row_ne hr1 (Nat.lt_succ_self _)))
        have HO2 := Lib.hid hown'
        have HB2 : Hid (Below w.heap.size w w2) := Lib.hid ((((Hb.out.alloc hws _).grown hgrow1 (by simp; omega) (fun j hj => by cases hj; omega)).alloc (by omega) _).grown hgrow2 (by simp; omega) (fun j hj => Nat.le_trans (by omega) (hr1.lt j hj).1))
        clear hmap hmap1 hown hown' hgrow1 hgrow2 hr1 hrow
        go_roundw
        case rel =>
          refine ⟨k + 1, by omega, by go_num, by rw [HND.out]; exact HM2.out, ?_, HB2.out, by omega⟩
          rw [kerK_succ, HKV.out]; simpa using HO2.out
        case measure => simp [intOf]; omega
      · rw [decide_eq_false hn, Bool.not_false] at hhas
        obtain ⟨a1, a2, a3⟩ := fst1_at t k
        have HAT : Hid (∀ z, (kE (fun i => k2L (tX i) (tY i)) t k).atKey (k2L (tX k) (tY k)) z = .lit (.int .i64 (kvK t k))) := Lib.hid fun z => by
          have := atKey_kE HK.out z k (fst1 t k) (by omega)
          rw [(HK.out.inj _ _).2 a1, kvK_same a1] at this
          exact this
        have HND := Lib.hid (kE_old (ky := fun i => k2L (tX i) (tY i)) hn)
        have hkv := kvK_bd t k
        clear hn a1 a2 a3
        generalize tX k = X at *
        generalize tY k = Y at *
        generalize kE (fun i => k2L (tX i) (tY i)) t k = D at *
        go_wp2_with (first
          | (at_lookup; refine wpList_lookup_own_ok_int _ rfl _ _ 107 rfl 78 2 .i64 law2 Try.underlying107 Try.underlying2 (zeroI _) w.heap.size k _ rfl (hmap.alloc _) _ _ rfl hkey ?_; intro c hat hwc)
          | (at_builtin; refine wpList_append_own _ rfl _ _ 26 rfl (w.heap.size + 1) 2 i0 (.int .i64 0) 1 8 Try.underlying26 hi hz0' hz1' hz2' rfl (by decide) _ _ _ rfl ((hown.alloc _).alloc _) ⟨wr.heap.size + 1, 0, none⟩ 1 1 [.int .i64 c] rfl rfl (cell_one_sx (by simp) _ _) (ints_oneCell .i64 [c]) (by unfold maxLen; omega) (by omega) (by simp; omega) ?_; intro v' w2 hown' hgrow2 _))
        have hcv : c = kvK t k := by
          rw [HAT.out] at hat
          injection hat with hat
          injection hat with _ hat
          exact hat.symm
        have s2 := hgrow2.size
        simp at s2
        have HM2 := Lib.hid (((hmap.alloc _).alloc _).kept hgrow2 (row_ne hown (Nat.lt_succ_self _)))
        have HO2 := Lib.hid hown'
        have HB2 : Hid (Below w.heap.size w w2) := Lib.hid (((Hb.out.alloc hws _).alloc (by simp; omega) _).grown hgrow2 (by simp; omega) (fun j hj => Nat.le_trans (by omega) (hown.lt j hj).1))
        have HCV := Lib.hid hcv
        clear hmap hown hown' hgrow2 hrow hcv hat hwc
        go_roundw
        case rel =>
          refine ⟨k + 1, by omega, by go_num, by rw [HND.out]; exact HM2.out.mono (Nat.le_succ _), ?_, HB2.out, by omega⟩
          rw [kerK_succ, ← HCV.out]; simpa using HO2.out
        case measure => simp [intOf]; omega
    · obtain rfl : k = m := by omega
      have HO := Lib.hid hown
      clear hmap hown hb
      go_wp2_with fail
      go_ret
      exact ⟨_, rfl, Joins.ownsRow_le HO.out (by omega), Hb.out⟩

end Go.Proofs.Ytoagpklippdlmaa

namespace Go.Proofs.Ytoagpklippdlmaa
open Go Go.RowKit

theorem Rd.low2 {w : World} {B B2 : Nat} {a : Option Addr} {J : List Int} (h : Rd w B a J) (hB : B2 ≤ B) : Rd w B2 a J := by
  refine ⟨h.1, ?_⟩
  rcases h.2 with h0 | ⟨g, ha, hg, rest⟩
  · exact Or.inl h0
  · exact Or.inr ⟨g, ha, Nat.le_trans hB hg, rest⟩

/-- append of a pair, at a step of a region that draws its order. -/
theorem step_appQ {w : World} {ops : Array Oper} {o : Oper} {a : Act} {K : Act → World → Prop} {Q : Exit → Act → World → Prop} {E : Prop} (hgd : o.guard = none) (s x : Operand)
    (ho : o.op = .call { callee := .builtin .append, args := #[s, x], argTypes := #[77, 77] })
    (base : Nat) (v : Value) (P : List (Int × Int)) (hs : a.eval s = v) (hown : OwnQ w base v P) (b c : Nat) (p q : Int) (hx : a.eval x = .slice (some ⟨b, 0, none⟩) 1 c) (hb : w.heap[b]? = some (.cells #[.int .i64 p, .int .i64 q] 78 (0, 0)))
    (hlen : P.length ≤ 1000000) (hbase : base ≤ w.heap.size)
    (h : ∀ v' w', OwnQ w' base v' (P ++ [(p, q)]) → w.grownBy w' v.ownBlock → K (a.put o.dst v') w') : if Region.wanted o (yielded ops a.tmps) = true then Oper.wp Try.prog o a w K Q else E := by
  obtain ⟨i0, hi, hz0, hz1, hz2⟩ := info_parts info_2
  refine step_append_own hgd s x _ ho base 78 i0 _ 2 16 Try.underlying77 hi hz0 hz1 hz2 rfl (by decide) v P.length (qcl P) hs hown ⟨b, 0, none⟩ 1 c (qcl [(p, q)]) hx rfl (fun j u hj => ?_) (qcl_one _) (by unfold maxLen; omega) (by omega) hbase ?_
  · have hadd : (⟨b, 0, none⟩ : Addr).add j = ⟨b, j, none⟩ := by cases j <;> simp [Addr.add]
    rw [hadd, Joins.cell_of_block hb j, ← hj]
    simp [qcl]
  · intro v' w' h1 h2
    refine h v' w' ?_ h2
    unfold OwnQ
    rw [qcl_app, List.length_append]
    exact h1

/-- A number that stands for a pair. -/
def two (m : Nat) (tX tY : Nat → Int) (i : Nat) : Int := tX i * (m : Int) + tY i

/-- The first k of them. -/
def twoL (m : Nat) (tX tY : Nat → Int) (k : Nat) : List Int := (List.range k).map (two m tX tY)
theorem twoL_len (m : Nat) (tX tY : Nat → Int) (k : Nat) : (twoL m tX tY k).length = k := by unfold twoL; simp
theorem twoL_succ (m : Nat) (tX tY : Nat → Int) (k : Nat) : twoL m tX tY (k + 1) = twoL m tX tY k ++ [two m tX tY k] := by unfold twoL; rw [List.range_succ, List.map_append]; rfl
theorem twoL_ker (m : Nat) (tX tY : Nat → Int) : kerK (tL (twoL m tX tY m)) m = kerK (two m tX tY) m :=
  kerK_congr fun i j hi hj => by
    have h : ∀ i, i < m → tL (twoL m tX tY m) i = two m tX tY i := fun i hi => by unfold tL twoL; simp [hi]
    rw [h i hi, h j hj]

theorem two_inj {m : Nat} {x y a b : Int} (hy : 0 ≤ y ∧ y < m) (hb : 0 ≤ b ∧ b < m) : x * (m : Int) + y = a * (m : Int) + b ↔ x = a ∧ y = b := by
  refine ⟨fun h => ?_, fun ⟨h1, h2⟩ => by rw [h1, h2]⟩
  have h1 : (x * (m : Int) + y) / (m : Int) = x := by
    rw [Int.add_comm, Int.add_mul_ediv_right _ _ (by omega), Int.ediv_eq_zero_of_lt hy.1 hy.2, Int.zero_add]
  have h2 : (a * (m : Int) + b) / (m : Int) = a := by
    rw [Int.add_comm, Int.add_mul_ediv_right _ _ (by omega), Int.ediv_eq_zero_of_lt hb.1 hb.2, Int.zero_add]
  rw [h, h2] at h1
  subst h1
  exact ⟨rfl, by omega⟩

/-- The numbers of classes lie within m, past the end too. -/
theorem cls_in {X : List Int} {m : Nat} (h : Cls X m) (hm : 1 ≤ m) (i : Nat) : 0 ≤ tL X i ∧ tL X i < m := by
  by_cases hi : i < m
  · have := h.bd hi
    omega
  · have : tL X i = 0 := by
      unfold tL
      rw [List.getD_eq_getElem?_getD, List.getElem?_eq_none (by rw [h.1]; omega)]
      rfl
    omega

theorem two_ky {X Y : List Int} {m : Nat} (hX : Cls X m) (hY : Cls Y m) (hm : 1 ≤ m) (hm2 : m ≤ 30) : Ky (fun i => k2L (tL X i) (tL Y i)) (two m (tL X) (tL Y)) :=
  ⟨fun _ => k2L_key _ _, fun i j => by
    have x1 := cls_in hX hm i
    have x2 := cls_in hX hm j
    have y1 := cls_in hY hm i
    have y2 := cls_in hY hm j
    refine Iff.trans ⟨fun h => ?_, fun h => ?_⟩ (two_inj y1 y2).symm
    · exact k2L_inj (WalkArith.wf_i64 (by omega)) (WalkArith.wf_i64 (by omega)) (WalkArith.wf_i64 (by omega)) (WalkArith.wf_i64 (by omega)) h
    · show k2L _ _ = k2L _ _
      rw [h.1, h.2]⟩

theorem two_bd {m : Nat} {x y : Int} (hm2 : m ≤ 30) (hx : 0 ≤ x ∧ x < m) (hy : 0 ≤ y ∧ y < m) : 0 ≤ x * (m : Int) ∧ x * (m : Int) ≤ 900 ∧ 0 ≤ x * (m : Int) + y ∧ x * (m : Int) + y ≤ 930 := by
  have h1 : 0 ≤ x * (m : Int) := Int.mul_nonneg hx.1 (by omega)
  have h2 : x * (m : Int) ≤ 30 * 30 := Int.mul_le_mul (by omega) (by omega) (by omega) (by omega)
  omega

/-- The meet of two congruences; nothing with an error. -/
noncomputable def meL (L : List MapN) (X Y : List Int) : List Int := if cgC L [X, Y] = 0 then kerK (two (elsK L).length (tL X) (tL Y)) (elsK L).length else []

theorem meL_0 {L : List MapN} {X Y : List Int} (h : cgC L [X, Y] = 0) : meL L X Y = kerK (two (elsK L).length (tL X) (tL Y)) (elsK L).length := by unfold meL; rw [if_pos h]
theorem meL_no {L : List MapN} {X Y : List Int} (h : cgC L [X, Y] ≠ 0) : meL L X Y = [] := by unfold meL; rw [if_neg h]

set_option maxRecDepth 100000 in
set_option maxHeartbeats 4000000 in
theorem smee_any (L : List MapN) (hl : L.length ≤ 1048576) (X : List Int) (hx : X.length ≤ 1048576) (_ : ∀ x ∈ X, (Lit.int .i64 x).wf = true) (Y : List Int) (hy : Y.length ≤ 1048576) (_ : ∀ x ∈ Y, (Lit.int .i64 x).wf = true) (a : Option Addr) (c : Nat) (_ : a = none → c = 0) (ax : Option Addr) (cx : Nat) (ay : Option Addr) (cy : Nat) (w : World) (hr : InRowM w a L) (hrx : InRow w ax X) (hry : InRow w ay Y) :
    Calls Try.prog 35 #[.slice a L.length c, .slice ax X.length cx, .slice ay Y.length cy] w (RetRow w.heap.size (meL L X Y) (cgC L [X, Y]) w) := by
  have HS := Lib.hid (sbo_any L hl X hx Y hy a c ax cx ay cy w hr hrx hry)
  have HRX := Lib.hid hrx
  have HRY := Lib.hid hry
  obtain ⟨i0, hi, hz0', hz1', hz2'⟩ := info_parts info_int
  clear hr hrx hry
  go_enter Try.func35, Try.ntmps35
  go_wp2_with fail
  refine HS.out.mono ?_
  rintro e w1 ⟨hb, ⟨hc, rfl⟩ | ⟨hc, hmon, hle, hcl, a1, c1, rfl, htb⟩⟩
  · have HB := Lib.hid hb
    have HE := Lib.hid (meL_no hc)
    have hne : (cgC L [X, Y] != 0) = true := by simpa using hc
    clear hb hc
    generalize cgC L [X, Y] = C at *
    go_wp2_with fail
    go_ret2
    exact ⟨none, 0, by rw [HE.out]; rfl, ⟨by rw [HE.out]; simp, Or.inl HE.out⟩, HB.out⟩
  · have hX : Cls X (elsK L).length := (hcl 0 (by simp)).1
    have hY : Cls Y (elsK L).length := (hcl 1 (by simp)).1
    have hlx : X.length = (elsK L).length := hX.1
    have hly : Y.length = (elsK L).length := hY.1
    have HB := Lib.hid hb
    have HX1 := Lib.hid (HRX.out.below hb)
    have HY1 := Lib.hid (HRY.out.below hb)
    have HE := Lib.hid (meL_0 hc)
    have HC0 := Lib.hid hc
    have hs1 := hb.size
    have hm1 := mon_pos hmon
    have HIX := Lib.hid (cls_in hX hm1)
    have HIY := Lib.hid (cls_in hY hm1)
    have HNM := Lib.hid fun (Z : List Int) (hZ : Z.length = (elsK L).length) a c w hr => named_any Z (by omega) a c w hr
    clear hb hc hcl hmon htb HS hX hY
    generalize (elsK L).length = m at *
    rw [hlx, hly]
    have HLX := Lib.hid hlx
    have HLY := Lib.hid hly
    clear hlx hly
    go_wp2_with fail
    go_loopw [10, 11] (fun v i wr => ∃ k : Nat, k ≤ m ∧ i = .int .i64 k ∧ wr.ownsRow w1.heap.size 2 1 v (twoL m (tL X) (tL Y) k).length ((twoL m (tL X) (tL Y) k).map (Value.int .i64)) ∧ Below w1.heap.size w1 wr) (fun _ i _ => m - (intOf i).toNat)
    case atStart => exact ⟨0, by omega, rfl, own_empty _ _ (Nat.le_refl _), (Below.refl _ _).alloc (Nat.le_refl _) _⟩
    case round =>
      obtain ⟨k, hk, rfl, hown, hb2⟩ := hrel
      have HO := Lib.hid hown
      have HB2 := Lib.hid hb2
      have hws := hb2.size
      have hlen := twoL_len m (tL X) (tL Y) k
      by_cases hkm : k < m
      · have hkm' : (k : Int) < (m : Int) := by omega
        obtain ⟨b, off, rfl, hlt, hin⟩ := HX1.out.resolve_left (fun e => by have := HLX.out; rw [e] at this; simp at this; omega)
        obtain ⟨b', off', rfl, hlt', hin'⟩ := HY1.out.resolve_left (fun e => by have := HLY.out; rw [e] at this; simp at this; omega)
        have e1 := hin k (by rw [HLX.out]; exact hkm)
        have e2 := hin' k (by rw [HLY.out]; exact hkm)
        rw [show X.getD k 0 = tL X k from rfl] at e1
        rw [show Y.getD k 0 = tL Y k from rfl] at e2
        have HCE : Hid (∀ z, Below w1.heap.size w1 z → z.cell? ⟨b, off + k, none⟩ = some (.int .i64 (tL X k)) ∧ z.cell? ⟨b', off' + k, none⟩ = some (.int .i64 (tL Y k))) := Lib.hid fun z hz => ⟨(hz.cell (p := ⟨b, off + k, none⟩) hlt).trans e1, (hz.cell (p := ⟨b', off' + k, none⟩) hlt').trans e2⟩
        obtain ⟨e1, e2⟩ := HCE.out wr hb2
        obtain ⟨d1, d2, d3, d4⟩ := two_bd hle (HIX.out k) (HIY.out k)
        have hw1 : IntKind.i64.wrap (tL X k * (m : Int)) = tL X k * (m : Int) := IntWalk.i64_in _ (by omega)
        have hw2 : IntKind.i64.wrap (tL X k * (m : Int) + tL Y k) = tL X k * (m : Int) + tL Y k := IntWalk.i64_in _ (by omega)
        have HSU : Hid (twoL m (tL X) (tL Y) (k + 1) = twoL m (tL X) (tL Y) k ++ [tL X k * (m : Int) + tL Y k]) := Lib.hid (twoL_succ m (tL X) (tL Y) k)
        clear hown hb2 hin hin' d1 d2 d3 d4
        generalize tL X k = U at *
        generalize tL Y k = V at *
        generalize twoL m (tL X) (tL Y) k = R0 at *
        go_wp2_with fail
        go_region_held3 (fun w' => w'.cell? ⟨b, off + k, none⟩ = some (.int .i64 U) ∧ w'.cell? ⟨b', off' + k, none⟩ = some (.int .i64 V)) (first | exact ⟨e1, e2⟩ | exact HCE.out _ (HB2.out.alloc hws _) | exact HCE.out _ (HB2.out.alloc hws _).drew | exact ⟨f1, f2⟩)
          (first
            | (refine step_append_own rfl (.tmp 29) (.tmp 42) 26 rfl w1.heap.size 2 i0 (.int .i64 0) 1 8 Try.underlying26 hi hz0' hz1' hz2' rfl (by decide) u10 R0.length (R0.map (Value.int .i64)) rfl (HO.out.alloc _) ⟨wr.heap.size, 0, none⟩ 1 1 [Value.int .i64 (U * (m : Int) + V)] rfl rfl (cell_one_new _ _ _) (ints_oneCell .i64 [U * (m : Int) + V]) (by unfold maxLen; omega) (by omega) (Nat.le_trans hws (by simp)) ?_; intro v7 w7 hown7 hgrow7; have HO7 := Lib.hid hown7; have HB7 : Hid (Below w1.heap.size w1 w7) := Lib.hid (Below.grown (w := (wr.alloc (.cells #[.int .i64 (U * (m : Int) + V)] 2)).drew) (HB2.out.alloc hws _).drew hgrow7 (Nat.le_trans hws (by simp)) (fun r e => (HO.out.lt r e).1)); obtain ⟨f1, f2⟩ := HCE.out w7 HB7.out; clear hown7 hgrow7))
        have HO2 : Hid (w7.ownsRow w1.heap.size 2 1 v7 (twoL m (tL X) (tL Y) (k + 1)).length ((twoL m (tL X) (tL Y) (k + 1)).map (Value.int .i64))) := Lib.hid (by
          have h := HO7.out
          rw [HSU.out, List.map_append, List.length_append]
          exact h)
        clear HO7
        go_wp2_with fail
        go_roundw
        case rel => exact ⟨k + 1, by omega, by go_num, HO2.out, HB7.out⟩
        case measure => simp [intOf]; omega
      · obtain rfl : k = m := by omega
        obtain ⟨a2, c2, rfl, hrd⟩ := own_rd (show Own _ _ _ _ from hown) (by omega)
        rw [hlen]
        have hnm := HNM.out _ hlen a2 c2 wr hrd.inRow
        rw [hlen, twoL_ker] at hnm
        have HNN := Lib.hid hnm
        have hkl := kerK_len (two k (tL X) (tL Y)) k
        clear hown hb2 hnm hrd
        go_wp2_with fail
        refine HNN.out.mono ?_
        rintro e w3 ⟨v, rfl, hown, hb3⟩
        obtain ⟨a3, c3, rfl, hrd⟩ := own_rd hown (by omega)
        have HB3 : Hid (Below w.heap.size w w3) := Lib.hid ((HB.out.trans (HB2.out.mono hs1)).trans (hb3.mono (by omega)))
        have HRD := Lib.hid (hrd.low2 (Nat.le_trans hs1 hws))
        clear hown hrd hb3
        rw [hkl]
        go_wp2_with fail
        go_ret2
        exact ⟨a3, c3, by rw [HE.out, HC0.out, hkl]; rfl, by rw [HE.out]; exact HRD.out, HB3.out⟩

set_option maxRecDepth 100000 in
set_option maxHeartbeats 4000000 in
theorem imee_any (L : List MapN) (hl : L.length ≤ 1048576) (X : List Int) (_ : X.length ≤ 1048576) (hwx : ∀ x ∈ X, (Lit.int .i64 x).wf = true) (Y : List Int) (_ : Y.length ≤ 1048576) (hwy : ∀ x ∈ Y, (Lit.int .i64 x).wf = true) (a : Option Addr) (c : Nat) (hc0 : a = none → c = 0) (ax : Option Addr) (cx : Nat) (ay : Option Addr) (cy : Nat) (w : World) (hr : InRowM w a L) (hrx : InRow w ax X) (hry : InRow w ay Y) :
    Calls Try.prog 36 #[.slice a L.length c, .slice ax X.length cx, .slice ay Y.length cy] w (RetRow w.heap.size (meL L X Y) (cgC L [X, Y]) w) := by
  have hba : Below w.heap.size w (w.alloc (.cells #[.slice ax X.length cx, .slice ay Y.length cy] 26)) := (Below.refl _ _).alloc (Nat.le_refl _) _
  have HS := Lib.hid (icgf_any a c hc0 L hl [X, Y] (by simp) (two_j (Q := fun Z => ∀ x ∈ Z, (Lit.int .i64 x).wf = true) hwx hwy) (some ⟨w.heap.size, 0, none⟩) 2 _ (hr.below hba) (rows_two (c1 := cx) (c2 := cy) hrx hry))
  have HBA := Lib.hid hba
  have HRX := Lib.hid hrx
  have HRY := Lib.hid hry
  have HN0 := Lib.hid fun w => nbq_any 0 (by omega) (fun _ => 0) (fun _ => 0) (fun _ => 0) ⟨fun _ => k2L_key _ _, fun _ _ => by simp⟩ (fun _ => ⟨WalkArith.wf_i64 (by omega), WalkArith.wf_i64 (by omega)⟩) none 0 w (Or.inl rfl)
  clear hr hrx hry hba hc0
  go_enter Try.func36, Try.ntmps36
  go_wp2_with fail
  refine HS.out.mono ?_
  rintro e w1 ⟨hb, ⟨hc, rfl⟩ | ⟨hc, hmon, hle, hcl, a1, c1, a2, c2, rfl, htb, hia⟩⟩
  · have HB := Lib.hid (HBA.out.trans (hb.mono (by simp)))
    have HE := Lib.hid (meL_no hc)
    clear hb hc
    generalize cgC L [X, Y] = C at *
    go_wp2_with fail
    refine wp_loop_rounds 1 ?_
    rw [rounds_succ]
    go_wp2_with fail
    refine (HN0.out _).mono ?_
    rintro e w2 ⟨v, rfl, hown, hb2⟩
    obtain ⟨a3, c3, rfl, hrd⟩ := own_rd hown (by rw [kerK_len]; omega)
    have HB2 : Hid (Below w.heap.size w w2) := Lib.hid (HB.out.trans (hb2.mono HB.out.size))
    clear hown hrd hb2
    rw [kerK_len]
    go_wp2_with fail
    go_ret2
    exact ⟨a3, c3, by rw [HE.out]; rfl, ⟨by rw [HE.out]; simp, Or.inl HE.out⟩, HB2.out⟩
  · have hX : Cls X (elsK L).length := by have := (hcl 0 (by simp)).1; exact this
    have hY : Cls Y (elsK L).length := by have := (hcl 1 (by simp)).1; exact this
    have hlx : X.length = (elsK L).length := hX.1
    have hly : Y.length = (elsK L).length := hY.1
    have HB := Lib.hid (HBA.out.trans (hb.mono (by simp)))
    have HX1 := Lib.hid ((HRX.out.below HBA.out).below hb)
    have HY1 := Lib.hid ((HRY.out.below HBA.out).below hb)
    have HE := Lib.hid (meL_0 hc)
    have HC0 := Lib.hid hc
    have hs1 := HB.out.size
    have hm1 := mon_pos hmon
    have HNQ := Lib.hid fun a c w hr => nbq_any (elsK L).length (by omega) (tL X) (tL Y) (two (elsK L).length (tL X) (tL Y)) (two_ky hX hY hm1 hle) (fun i => by
      have h1 := cls_in hX hm1 i
      have h2 := cls_in hY hm1 i
      exact ⟨WalkArith.wf_i64 (by omega), WalkArith.wf_i64 (by omega)⟩) a c w hr
    have hkl := kerK_len (two (elsK L).length (tL X) (tL Y)) (elsK L).length
    clear hb hc hcl hmon htb HS hX hY hia HN0
    generalize kerK (two (elsK L).length (tL X) (tL Y)) (elsK L).length = J at *
    generalize (elsK L).length = m at *
    rw [hlx, hly]
    have HLX := Lib.hid hlx
    have HLY := Lib.hid hly
    clear hlx hly
    go_wp2_with fail
    go_loopw [11, 12, 24] (fun v _ i wr => ∃ k : Nat, k ≤ m ∧ i = .int .i64 k ∧ OwnQ wr w1.heap.size v (prL (tL X) (tL Y) k) ∧ Below w1.heap.size w1 wr) (fun _ _ i _ => m - (intOf i).toNat)
    case atStart => exact ⟨0, by omega, rfl, World.ownsRow_nil _ _ _ _, Below.refl _ _⟩
    case round =>
      obtain ⟨k, hk, rfl, hown, hb2⟩ := hrel
      have HO := Lib.hid hown
      have HB2 := Lib.hid hb2
      have hws := hb2.size
      have hlen := prL_len (tL X) (tL Y) k
      by_cases hkm : k < m
      · have hkm' : (k : Int) < (m : Int) := by omega
        obtain ⟨b, off, rfl, hlt, hin⟩ := HX1.out.resolve_left (fun e => by have := HLX.out; rw [e] at this; simp at this; omega)
        obtain ⟨b', off', rfl, hlt', hin'⟩ := HY1.out.resolve_left (fun e => by have := HLY.out; rw [e] at this; simp at this; omega)
        have e1 := hin k (by rw [HLX.out]; exact hkm)
        have e2 := hin' k (by rw [HLY.out]; exact hkm)
        rw [show X.getD k 0 = tL X k from rfl] at e1
        rw [show Y.getD k 0 = tL Y k from rfl] at e2
        have HCE : Hid (∀ z, Below w1.heap.size w1 z → z.cell? ⟨b, off + k, none⟩ = some (.int .i64 (tL X k)) ∧ z.cell? ⟨b', off' + k, none⟩ = some (.int .i64 (tL Y k))) := Lib.hid fun z hz => ⟨(hz.cell (p := ⟨b, off + k, none⟩) hlt).trans e1, (hz.cell (p := ⟨b', off' + k, none⟩) hlt').trans e2⟩
        obtain ⟨e1, e2⟩ := HCE.out wr hb2
        have HSU := Lib.hid (prL_succ (tL X) (tL Y) k)
        clear hown hb2 hin hin'
        generalize prL (tL X) (tL Y) k = P0 at *
        generalize tL X k = U at *
        generalize tL Y k = V at *
        go_wp2_with fail
        go_region_held3 (fun w' => w'.cell? ⟨b, off + k, none⟩ = some (.int .i64 U) ∧ w'.cell? ⟨b', off' + k, none⟩ = some (.int .i64 V)) (first | exact ⟨e1, e2⟩ | exact HCE.out _ (HB2.out.alloc hws _) | exact HCE.out _ (HB2.out.alloc hws _).drew | exact ⟨f1, f2⟩)
          (first
            | (refine step_appQ rfl (.tmp 27) (.tmp 37) rfl w1.heap.size u11 P0 rfl (show OwnQ _ _ _ _ from (HO.out : wr.ownsRow _ _ _ _ _ _).alloc _) wr.heap.size 1 U V rfl (halloc_at wr _ _ rfl) (by omega) (Nat.le_trans hws (by simp)) ?_; intro v7 w7 hown7 hgrow7; have HO7 := Lib.hid hown7; have HB7 : Hid (Below w1.heap.size w1 w7) := Lib.hid (Below.grown (w := (wr.alloc (.cells #[.int .i64 U, .int .i64 V] 78)).drew) (HB2.out.alloc hws _).drew hgrow7 (Nat.le_trans hws (by simp)) (fun r e => (HO.out.lt r e).1)); obtain ⟨f1, f2⟩ := HCE.out w7 HB7.out; clear hown7 hgrow7))
        go_wp2_with fail
        go_roundw
        case rel => exact ⟨k + 1, by omega, by go_num, by rw [HSU.out]; exact HO7.out, HB7.out⟩
        case measure => simp [intOf]; omega
      · obtain rfl : k = m := by omega
        obtain ⟨a3, c3, rfl, hq⟩ := ownQ_in hown
        have HQ := Lib.hid (HNQ.out a3 c3 wr hq)
        clear hown hb2 hq
        go_wp2_with fail
        refine HQ.out.mono ?_
        rintro e w3 ⟨v, rfl, hown, hb3⟩
        obtain ⟨a4, c4, rfl, hrd⟩ := own_rd hown (by omega)
        have HB3 : Hid (Below w.heap.size w w3) := Lib.hid ((HB.out.trans (HB2.out.mono hs1)).trans (hb3.mono (by omega)))
        have HRD := Lib.hid (hrd.low2 (Nat.le_trans hs1 hws))
        clear hown hrd hb3
        rw [hkl]
        go_wp2_with fail
        go_ret2
        exact ⟨a4, c4, by rw [HE.out, HC0.out, hkl]; rfl, by rw [HE.out]; exact HRD.out, HB3.out⟩

end Go.Proofs.Ytoagpklippdlmaa
