/- Sets of points as keys of Go's maps; lists of sets; the contract of impl.numbersByFirst at sets of points. Strong parts of a list of maps, told without Go: the part of a point, the first points, the parts as classes of a numbering. The contracts of impl.orbitsOfPoints and impl.StrongParts. -/
import Derived.Test.YtpphihjbgikjkaaCg
import Derived.Test.YtpphihjbgikjkaaKey
import Derived.Test.YtpphihjbgikjkaaSl
import Derived.StillTailTactics
import Derived.Test.YtpphihjbgikjkaaRso
import Derived.Test.YtpphihjbgikjkaaPcl
import Derived.Test.YtpphihjbgikjkaaOio
import Derived.Test.YtpphihjbgikjkaaRlo
namespace Go.Proofs.Ytpphihjbgikjkaa
open Go Go.RowKit Go.Maps

set_option maxRecDepth 100000 in
theorem law5 : Keyed Try.prog 60 := Keyed.of_law (deep_law_laid laidOut (m := 5) (by omega) (of_decide_eq_true (by kernel_rfl)) (by kernel_rfl) (by kernel_rfl))

theorem cells5P : Try.prog.cellsOf 60 = 5 := by kernel_rfl
theorem cellsB : Try.prog.cellsOf 4 = 1 := by kernel_rfl

theorem lits_bool (d : Nat) (b : Bool) : Try.prog.keyLits (d + 1) 4 [.bool b] = some [.bool b] := by
  unfold Program.keyLits
  simp only [Try.underlying4]

theorem lits_5 (d : Nat) (b0 b1 b2 b3 b4 : Bool) : Try.prog.keyLits (d + 1 + 1) 60 [.bool b0, .bool b1, .bool b2, .bool b3, .bool b4] = some [.bool b0, .bool b1, .bool b2, .bool b3, .bool b4] := by
  unfold Program.keyLits
  simp only [Try.underlying60, cells5P, cellsB]
  simp [List.range_succ, List.range_zero, lits_bool]

/-- What a set reads as, as a key. -/
def k5L (s : Nat → Bool) : Lit := .string (keyBytes [.bool (s 0), .bool (s 1), .bool (s 2), .bool (s 3), .bool (s 4)])

theorem keyOf_5 (s : Nat → Bool) : keyOf Try.prog 60 (.agg (cells5 s)) = some (k5L s) := by
  obtain ⟨d, hd⟩ : ∃ d, Try.prog.types.size + 1 = d + 1 + 1 := ⟨Try.prog.types.size - 1, by
    have := of_decide_eq_true types_many
    omega⟩
  have hk : Try.prog.keyType 60 = true := by kernel_rfl
  have hf : (Value.agg (cells5 s)).formed Try.prog 60 = true := by
    unfold Value.formed
    simp only [Try.underlying60, cells5P]
    rfl
  have hc : (Value.agg (cells5 s)).cells.toList = [.bool (s 0), .bool (s 1), .bool (s 2), .bool (s 3), .bool (s 4)] := rfl
  unfold keyOf
  simp only [Try.underlying60]
  rw [hk, hf, hd, hc, lits_5 d]
  rfl

theorem k5L_inj {a b : Nat → Bool} : k5L a = k5L b ↔ ∀ j, j < 5 → a j = b j := by
  constructor
  · intro e
    have h1 := keyOf_5 a
    rw [e] at h1
    have h2 := law5.inj h1 (keyOf_5 b)
    have h3 : cells5 a = cells5 b := by injection h2
    unfold cells5 at h3
    have h4 := congrArg Array.toList h3
    simp only [List.cons.injEq, Value.bool.injEq, and_true] at h4
    intro j hj
    rcases (by omega : j = 0 ∨ j = 1 ∨ j = 2 ∨ j = 3 ∨ j = 4) with rfl | rfl | rfl | rfl | rfl
    · exact h4.1
    · exact h4.2.1
    · exact h4.2.2.1
    · exact h4.2.2.2.1
    · exact h4.2.2.2.2
  · intro h
    unfold k5L
    rw [h 0 (by omega), h 1 (by omega), h 2 (by omega), h 3 (by omega), h 4 (by omega)]

/-- The map behind k rounds, by keys that stand for the values. -/
def kE (ky : Nat → Lit) (t : Nat → Int) : Nat → DataW Unit
  | 0 => .map []
  | k + 1 => if fst1 t k = k then (kE ky t k).put (ky k) (.lit (.int .i64 (rkK t k))) else kE ky t k

/-- Keys that stand for values. -/
structure Ky (ky : Nat → Lit) (t : Nat → Int) : Prop where
  key : ∀ i, WideAt.IsKeyLit (ky i)
  inj : ∀ i j, ky i = ky j ↔ t i = t j

theorem kE_new {ky : Nat → Lit} {t : Nat → Int} {k : Nat} (h : fst1 t k = k) : kE ky t (k + 1) = (kE ky t k).put (ky k) (.lit (.int .i64 (rkK t k))) := by
  show (if fst1 t k = k then _ else _) = _
  rw [if_pos h]

theorem kE_old {ky : Nat → Lit} {t : Nat → Int} {k : Nat} (h : fst1 t k ≠ k) : kE ky t (k + 1) = kE ky t k := by
  show (if fst1 t k = k then _ else _) = _
  rw [if_neg h]

theorem kE_tidy {ky : Nat → Lit} {t : Nat → Int} (K : Ky ky t) : ∀ k, Tidy (kE ky t k)
  | 0 => tidy_empty
  | k + 1 => by
    by_cases h : fst1 t k = k
    · rw [kE_new h]; exact (kE_tidy K k).put (K.key k) _
    · rw [kE_old h]; exact kE_tidy K k

theorem has_kE {ky : Nat → Lit} {t : Nat → Int} (K : Ky ky t) (j : Nat) : ∀ k, Maps.has (kE ky t k) (ky j) = (List.range k).any fun i => t i == t j
  | 0 => rfl
  | k + 1 => by
    rw [List.range_succ, List.any_append]
    obtain ⟨a1, a2, a3⟩ := fst1_at t k
    by_cases h : fst1 t k = k
    · rw [kE_new h]
      by_cases e : t j = t k
      · rw [(K.inj j k).2 e, has_put_same (kE_tidy K k).isMap (K.key k)]; simp [e]
      · rw [has_put_other (fun c => e ((K.inj j k).1 c)), has_kE K j k]
        have : (t k == t j) = false := by rw [beq_eq_false_iff_ne]; exact fun c => e c.symm
        simp [this]
    · rw [kE_old h, has_kE K j k]
      by_cases e : t k = t j
      · have : ((List.range k).any fun i => t i == t j) = true := by
          rw [List.any_eq_true]
          exact ⟨fst1 t k, by simp; omega, by rw [a1, e]; simp⟩
        rw [this]; rfl
      · have : (t k == t j) = false := by rw [beq_eq_false_iff_ne]; exact e
        simp [this]

theorem has_kE_new {ky : Nat → Lit} {t : Nat → Int} (K : Ky ky t) (k : Nat) : Maps.has (kE ky t k) (ky k) = !decide (fst1 t k = k) := by
  rw [has_kE K]
  obtain ⟨a1, a2, a3⟩ := fst1_at t k
  by_cases h : fst1 t k = k
  · rw [decide_eq_true h, Bool.not_true, List.any_eq_false]
    intro i hi
    rw [h] at a3
    simpa using a3 i (by simpa using hi)
  · rw [decide_eq_false h, Bool.not_false, List.any_eq_true]
    exact ⟨fst1 t k, by simp; omega, by rw [a1]; simp⟩

theorem atKey_kE {ky : Nat → Lit} {t : Nat → Int} (K : Ky ky t) (z : DataW Unit) : ∀ k i, i < k → (kE ky t k).atKey (ky i) z = .lit (.int .i64 (kvK t i))
  | 0, i, h => by omega
  | k + 1, i, hi => by
    obtain ⟨a1, a2, a3⟩ := fst1_at t k
    by_cases h : fst1 t k = k
    · rw [kE_new h]
      by_cases e : t i = t k
      · rw [(K.inj i k).2 e, atKey_put_same (kE_tidy K k).isMap (K.key k), kvK_same e, kvK_first h]
      · rw [atKey_put_other (fun c => e ((K.inj i k).1 c)), atKey_kE K z k i (by
          by_cases c : i = k
          · subst c; exact absurd rfl e
          · omega)]
    · rw [kE_old h]
      by_cases c : i = k
      · subst c
        rw [← (K.inj _ _).2 a1, atKey_kE K z i (fst1 t i) (by omega), kvK_same a1]
      · exact atKey_kE K z k i (by omega)

theorem size_kE {ky : Nat → Lit} {t : Nat → Int} (K : Ky ky t) : ∀ k, Maps.size (kE ky t k) = rkK t k
  | 0 => rfl
  | k + 1 => by
    rw [rkK_succ]
    by_cases h : fst1 t k = k
    · rw [kE_new h, if_pos h, size_put (kE_tidy K k), has_kE_new K, decide_eq_true h, size_kE K k]
      rfl
    · rw [kE_old h, if_neg h, size_kE K k]

/-- The cells of sets. -/
def pcl (P : List (Nat → Bool)) : List Value := P.flatMap fun s => [.bool (s 0), .bool (s 1), .bool (s 2), .bool (s 3), .bool (s 4)]

theorem pcl_app (P Q : List (Nat → Bool)) : pcl (P ++ Q) = pcl P ++ pcl Q := by unfold pcl; rw [List.flatMap_append]

theorem pcl_one : ∀ (P : List (Nat → Bool)) (u : Value), u ∈ pcl P → u.oneCell' = true
  | [], u, h => by cases h
  | x :: P, u, h => by
    unfold pcl at h
    rw [List.flatMap_cons] at h
    rcases List.mem_append.1 h with h | h
    · simp at h; rcases h with rfl | rfl | rfl | rfl | rfl <;> rfl
    · exact pcl_one P u h

theorem pcl_at : ∀ (P : List (Nat → Bool)) (j i : Nat), i < 5 → j < P.length → (pcl P)[j * 5 + i]? = some (.bool ((P.getD j (fun _ => false)) i))
  | [], j, i, _, h => by simp at h
  | x :: P, 0, i, hi, _ => by rcases (by omega : i = 0 ∨ i = 1 ∨ i = 2 ∨ i = 3 ∨ i = 4) with rfl | rfl | rfl | rfl | rfl <;> rfl
  | x :: P, j + 1, i, hi, h => by
    have ih := pcl_at P j i hi (by simpa using h)
    rw [show (j + 1) * 5 + i = j * 5 + i + 5 by omega]
    exact ih

/-- The first k sets. -/
def psL (s : Nat → Nat → Bool) (k : Nat) : List (Nat → Bool) := (List.range k).map s
theorem psL_len (s : Nat → Nat → Bool) (k : Nat) : (psL s k).length = k := by unfold psL; simp
theorem psL_succ (s : Nat → Nat → Bool) (k : Nat) : psL s (k + 1) = psL s k ++ [s k] := by unfold psL; rw [List.range_succ, List.map_append]; rfl
theorem psL_at (s : Nat → Nat → Bool) (k j : Nat) (h : j < k) : (psL s k).getD j (fun _ => false) = s j := by unfold psL; simp [h]

/-- A list of sets that came in. -/
def InP (w : World) (a : Option Addr) (m : Nat) (s : Nat → Nat → Bool) : Prop :=
  m = 0 ∨ ∃ b, a = some ⟨b, 0, none⟩ ∧ b < w.heap.size ∧ ∀ j, j < m → ∀ i, i < 5 → w.cell? ⟨b, j * 5 + i, none⟩ = some (.bool (s j i))

theorem InP.below {w w' : World} {a : Option Addr} {m : Nat} {s : Nat → Nat → Bool} (h : InP w a m s) (hb : Below w.heap.size w w') : InP w' a m s := by
  rcases h with h0 | ⟨b, ha, hlt, hc⟩
  · exact Or.inl h0
  · exact Or.inr ⟨b, ha, Nat.lt_of_lt_of_le hlt hb.size, fun j hj i hi => (hb.cell (p := ⟨b, j * 5 + i, none⟩) hlt).trans (hc j hj i hi)⟩

/-- A list of sets of the call's own. -/
def OwnP (w : World) (B : Nat) (v : Value) (P : List (Nat → Bool)) : Prop := w.ownsRow B 60 5 v P.length (pcl P)

theorem ownP_in {w : World} {B : Nat} {v : Value} {m : Nat} {s : Nat → Nat → Bool} (h : OwnP w B v (psL s m)) : ∃ a cap, v = .slice a m cap ∧ InP w a m s := by
  have hl := psL_len s m
  rcases h.2 with ⟨h1, h0⟩ | ⟨g, cap, cur, h1, hB, hg, hn, hcap, hsz, htk⟩
  · rw [hl] at h0
    exact ⟨none, 0, by rw [h1, h0], Or.inl h0⟩
  · rw [hl] at h1 htk
    refine ⟨_, cap, h1, Or.inr ⟨g, rfl, (Array.getElem?_eq_some_iff.1 hg).1, fun j hj i hi => ?_⟩⟩
    have hx := pcl_at (psL s m) j i hi (by rw [hl]; exact hj)
    rw [psL_at s m j hj] at hx
    have e : ∀ i, i < m * 5 → cur[i]? = (pcl (psL s m))[i]? := fun i hi => by
      rw [← htk, List.getElem?_take, if_pos (by omega), Array.getElem?_toList]
    rw [Joins.cell_of_block hg, e _ (by omega)]
    exact hx

theorem info_5 : (Try.prog.info? 60).map (fun i => (i.zero, i.size, i.bytes)) = some (some (.agg #[.bool false, .bool false, .bool false, .bool false, .bool false]), 5, 5) := by kernel_rfl

/-- append of a set onto a list of sets of the call's own. -/
theorem wpList_appP {ops : Array Oper} {rest : List Oper} {o : Oper} {ac : Act} {Q : Exit → Act → World → Prop} {w : World} (hgd : o.guard = none) (s x : Operand)
    (ho : o.op = .call { callee := .builtin .append, args := #[s, x], argTypes := #[69, 69] })
    (base : Nat) (v : Value) (P : List (Nat → Bool)) (hs : ac.eval s = v) (hown : OwnP w base v P) (b c : Nat) (p : Nat → Bool) (hx : ac.eval x = .slice (some ⟨b, 0, none⟩) 1 c) (hb : w.heap[b]? = some (.cells (cells5 p) 60 (0, 0)))
    (hlen : P.length ≤ 1000000) (hbase : base ≤ w.heap.size)
    (h : ∀ v' w', OwnP w' base v' (P ++ [p]) → w.grownBy w' v.ownBlock → wpList Try.prog ops Q rest (ac.put o.dst v') w') : wpList Try.prog ops Q (o :: rest) ac w := by
  obtain ⟨i0, hi, hz0, hz1, hz2⟩ := info_parts info_5
  refine wpList_append_own_at w hgd s x _ ho base 60 i0 _ 5 5 Try.underlying69 hi hz0 hz1 hz2 rfl (by decide) v P.length (pcl P) hs hown ⟨b, 0, none⟩ 1 c (pcl [p]) hx rfl (fun j u hj => ?_) (pcl_one _) (by unfold maxLen; omega) (by omega) hbase ?_
  · have hadd : (⟨b, 0, none⟩ : Addr).add j = ⟨b, j, none⟩ := by cases j <;> simp [Addr.add]
    rw [hadd, Joins.cell_of_block hb j, ← hj]
    simp [pcl, cells5]
  · intro v' w' h1 h2 _ _
    refine h v' w' ?_ h2
    unfold OwnP
    rw [pcl_app, List.length_append]
    exact h1

theorem cell_one_sx {w : World} {g : Nat} (hg : w.heap.size = g) (x : Value) (t : TypeId) : ∀ j u, [x][j]? = some u → (w.alloc (.cells #[x] t)).cell? ((⟨g, 0, none⟩ : Addr).add j) = some u := by
  subst hg
  exact cell_one_new w x t



end Go.Proofs.Ytpphihjbgikjkaa

namespace Go.Proofs.Ytpphihjbgikjkaa
open Go Go.RowKit

/-- The strong part of a point. -/
noncomputable def prtS (L : List MapN) (p : Nat) : Nat → Bool := fun q => rchS L p q && rchS L q p
theorem prtS_iff {L : List MapN} {p q : Nat} : prtS L p q = true ↔ Rch L p q ∧ Rch L q p := by unfold prtS; rw [Bool.and_eq_true, rchS_true, rchS_true]
/-- The number of what a point reaches. -/
noncomputable def orM (L : List MapN) (p : Nat) : Int := mask (rchS L p)
theorem orM_iff {L : List MapN} {n : Nat} (hok : LOk L n) {p q : Nat} (hp : p < n) (hq : q < n) : orM L p = orM L q ↔ prtS L p q = true := by
  have hn5 := hok.n5
  constructor
  · intro h
    have he := mask_ext h
    refine prtS_iff.2 ⟨rchS_true.1 ?_, rchS_true.1 ?_⟩
    · rw [he q (by omega)]; exact rchS_true.2 (Rch.refl L q)
    · rw [← he p (by omega)]; exact rchS_true.2 (Rch.refl L p)
  · intro h
    obtain ⟨h1, h2⟩ := prtS_iff.1 h
    have e : rchS L p = rchS L q := by
      funext j
      rw [Bool.eq_iff_iff, rchS_true, rchS_true]
      exact ⟨fun h => h2.trans h, fun h => h1.trans h⟩
    unfold orM
    rw [e]
theorem prtS_out {L : List MapN} {n : Nat} (hok : LOk L n) {p q : Nat} (hp : p < n) (hq : n ≤ q) : prtS L p q = false := by
  rw [Bool.eq_false_iff]
  intro h
  have := (prtS_iff.1 h).1.lt hok hp
  omega

/-- The points before k that are the first ones of their parts. -/
noncomputable def fsP (L : List MapN) (k : Nat) : List Nat := (List.range k).filter fun p => fst1 (orM L) p == p
theorem fsP_len (L : List MapN) (k : Nat) : (fsP L k).length = rkK (orM L) k := rfl
theorem fsP_yes {L : List MapN} {k : Nat} (h : fst1 (orM L) k = k) : fsP L (k + 1) = fsP L k ++ [k] := by unfold fsP; rw [List.range_succ, List.filter_append]; simp [h]
theorem fsP_no {L : List MapN} {k : Nat} (h : fst1 (orM L) k ≠ k) : fsP L (k + 1) = fsP L k := by unfold fsP; rw [List.range_succ, List.filter_append]; simp [h]
theorem fsP_in {L : List MapN} {k p : Nat} (h : p ∈ fsP L k) : p < k ∧ fst1 (orM L) p = p := by
  unfold fsP at h
  rw [List.mem_filter, List.mem_range, beq_iff_eq] at h
  exact h

/-- The points of the parts of the first k points. -/
noncomputable def metB (L : List MapN) (k : Nat) : Nat → Bool := fun q => (List.range k).any fun p => prtS L p q
theorem metB_succ (L : List MapN) (k : Nat) : unB (metB L k) (prtS L k) = metB L (k + 1) := by
  funext q
  unfold unB metB
  rw [List.range_succ, List.any_append]
  simp
theorem metB_iff {L : List MapN} {k q : Nat} : metB L k q = true ↔ ∃ p, p < k ∧ prtS L p q = true := by
  unfold metB
  rw [List.any_eq_true]
  exact ⟨fun ⟨p, h1, h2⟩ => ⟨p, List.mem_range.1 h1, h2⟩, fun ⟨p, h1, h2⟩ => ⟨p, List.mem_range.2 h1, h2⟩⟩
theorem metB_own {L : List MapN} {n : Nat} (hok : LOk L n) {k : Nat} (hk : k < n) : metB L k k = !decide (fst1 (orM L) k = k) := by
  obtain ⟨a1, a2, a3⟩ := fst1_at (orM L) k
  by_cases h : fst1 (orM L) k = k
  · rw [decide_eq_true h, Bool.not_true, Bool.eq_false_iff]
    intro hm
    obtain ⟨p, hp, hs⟩ := metB_iff.1 hm
    exact a3 p (by omega) ((orM_iff hok (by omega) hk).2 hs)
  · rw [decide_eq_false h, Bool.not_false]
    exact metB_iff.2 ⟨_, by omega, (orM_iff hok (by omega) hk).1 a1⟩
theorem metB_old {L : List MapN} {n : Nat} (hok : LOk L n) {k : Nat} (hk : k < n) (h : fst1 (orM L) k ≠ k) : metB L (k + 1) = metB L k := by
  have hm : metB L k k = true := by rw [metB_own hok hk, decide_eq_false h]; rfl
  obtain ⟨p, hp, hs⟩ := metB_iff.1 hm
  rw [← metB_succ]
  funext q
  unfold unB
  cases hq : prtS L k q
  · rw [Bool.or_false]
  · rw [Bool.or_true]
    obtain ⟨h1, h2⟩ := prtS_iff.1 hs
    obtain ⟨h3, h4⟩ := prtS_iff.1 hq
    exact (metB_iff.2 ⟨p, hp, prtS_iff.2 ⟨h1.trans h3, h4.trans h2⟩⟩).symm

/-- A set's points below k. -/
def cutK (s : Nat → Bool) (k : Nat) : Nat → Bool := fun i => decide (i < k) && s i
theorem cutK_zero (s : Nat → Bool) : cutK s 0 = fun _ => false := by funext i; simp [cutK]
theorem cutK_yes {s : Nat → Bool} {k : Nat} (h : s k = true) : setB (cutK s k) k = cutK s (k + 1) := by
  funext i
  unfold setB cutK
  by_cases e : i = k
  · subst e; simp [h]
  · rw [if_neg e, show decide (i < k + 1) = decide (i < k) by rw [decide_eq_decide]; omega]
theorem cutK_no {s : Nat → Bool} {k : Nat} (h : s k = false) : cutK s (k + 1) = cutK s k := by
  funext i
  unfold cutK
  by_cases e : i = k
  · subst e; simp [h]
  · rw [show decide (i < k + 1) = decide (i < k) by rw [decide_eq_decide]; omega]
theorem cutK_all {s : Nat → Bool} {n : Nat} (h : ∀ i, n ≤ i → s i = false) : cutK s n = s := by
  funext i
  unfold cutK
  by_cases e : i < n
  · simp [e]
  · rw [h i (by omega)]; simp

/-- The parts as masks, and as lists. -/
noncomputable def prM (L : List MapN) (k : Nat) : List Int := (fsP L k).map fun p => mask (prtS L p)
noncomputable def prR (L : List MapN) (k : Nat) : List (List Int) := (fsP L k).map fun p => asc (prtS L p)
theorem prM_len (L : List MapN) (k : Nat) : (prM L k).length = rkK (orM L) k := by unfold prM; rw [List.length_map]; rfl
theorem prR_len (L : List MapN) (k : Nat) : (prR L k).length = rkK (orM L) k := by unfold prR; rw [List.length_map]; rfl
theorem prM_yes {L : List MapN} {k : Nat} (h : fst1 (orM L) k = k) : prM L (k + 1) = prM L k ++ [mask (prtS L k)] := by unfold prM; rw [fsP_yes h, List.map_append]; rfl
theorem prM_no {L : List MapN} {k : Nat} (h : fst1 (orM L) k ≠ k) : prM L (k + 1) = prM L k := by unfold prM; rw [fsP_no h]
/-- The set of part number i. -/
noncomputable def prB (L : List MapN) (k i : Nat) : Nat → Bool := prtS L ((fsP L k).getD i 0)
theorem prM_at (L : List MapN) (k i : Nat) (h : i < rkK (orM L) k) : (prM L k).getD i 0 = mask (prB L k i) := by
  have h' : i < (fsP L k).length := h
  unfold prM prB
  rw [List.getD_eq_getElem?_getD, List.getElem?_map, List.getD_eq_getElem?_getD, List.getElem?_eq_getElem h']
  rfl
theorem prR_at (L : List MapN) (k i : Nat) (h : i < rkK (orM L) k) : (prR L k)[i]'(by rw [prR_len]; exact h) = asc (prB L k i) := by
  have h' : i < (fsP L k).length := h
  unfold prR prB
  rw [List.getElem_map, List.getD_eq_getElem?_getD, List.getElem?_eq_getElem h']
  rfl

/-- A numbering by the first one is a partition. -/
theorem nx_ker (t : Nat → Int) (n : Nat) : ∀ k, k ≤ n → nxK (kerK t n) k = rkK t k
  | 0, _ => rfl
  | k + 1, h => by
    have ih := nx_ker t n k (by omega)
    have hv := kerK_getD t n k (by omega)
    rw [rkK_succ]
    by_cases e : fst1 t k = k
    · rw [if_pos e, nxK_new (by rw [hv, ih]; exact (kvK_new t k).2 e), ih]
    · rw [if_neg e, nxK_old (by rw [hv, ih]; exact fun h => e ((kvK_new t k).1 h)), ih]
theorem par_ker (t : Nat → Int) (n : Nat) : parB (kerK t n) n = true := by
  refine parB_iff.2 ⟨kerK_len t n, fun k hk => okP_iff.2 ?_⟩
  rw [kerK_getD t n k hk, nx_ker t n k (by omega)]
  obtain ⟨a1, a2, a3⟩ := fst1_at t k
  have := rkK_mono t (fst1 t k) k a2
  unfold kvK
  omega

theorem row_prt {L : List MapN} {n : Nat} (hok : LOk L n) {k : Nat} (hk : k < n) (h : fst1 (orM L) k = k) : rowP (kerK (orM L) n) (rkK (orM L) k) n = asc (prtS L k) := by
  have hn5 := hok.n5
  have e5 : List.range 5 = List.range n ++ (List.range 5).drop n := by
    rcases (by omega : n = 0 ∨ n = 1 ∨ n = 2 ∨ n = 3 ∨ n = 4 ∨ n = 5) with rfl | rfl | rfl | rfl | rfl | rfl <;> rfl
  have h2 : ((List.range 5).drop n).filter (prtS L k) = [] := by
    rw [List.filter_eq_nil_iff]
    intro a ha
    have : n ≤ a := by
      rcases (by omega : n = 0 ∨ n = 1 ∨ n = 2 ∨ n = 3 ∨ n = 4 ∨ n = 5) with rfl | rfl | rfl | rfl | rfl | rfl <;> simp [List.range, List.range.loop] at ha <;> omega
    rw [prtS_out hok hk this]; simp
  unfold rowP asc ascK
  rw [e5, List.filter_append, h2, List.append_nil]
  congr 1
  apply List.filter_congr
  intro q hq
  have hq := List.mem_range.1 hq
  rw [kerK_getD _ _ _ hq, Bool.eq_iff_iff, beq_iff_eq, ← kvK_first h, kvK_iff, orM_iff hok hq hk, prtS_iff, prtS_iff]
  exact ⟨fun h => ⟨h.2, h.1⟩, fun h => ⟨h.2, h.1⟩⟩

theorem cls_prt {L : List MapN} {n : Nat} (hok : LOk L n) : clsK (kerK (orM L) n) n = prR L n := by
  unfold clsK
  rw [nx_ker _ _ _ (Nat.le_refl n)]
  have key : ∀ k, k ≤ n → (List.range (rkK (orM L) k)).map (fun c => rowP (kerK (orM L) n) c n) = prR L k := by
    intro k
    induction k with
    | zero => intro _; rfl
    | succ k ih =>
      intro hk
      rw [rkK_succ]
      by_cases e : fst1 (orM L) k = k
      · unfold prR
        rw [if_pos e, List.range_succ, List.map_append, ih (by omega), fsP_yes e, List.map_append]
        unfold prR
        congr 1
        show [rowP (kerK (orM L) n) (rkK (orM L) k) n] = [asc (prtS L k)]
        rw [row_prt hok (by omega) e]
      · unfold prR
        rw [if_neg e, ih (by omega), fsP_no e]
        rfl
  exact key n (Nat.le_refl n)

theorem prR_full {L : List MapN} {n : Nat} (hok : LOk L n) (j : Nat) (hj : j < (prR L n).length) : (prR L n).getD j [] ≠ [] := by
  rw [← cls_prt hok] at hj ⊢
  exact clsK_full (fun k hk => (parB_iff.1 (par_ker (orM L) n)).2 k hk) j hj

end Go.Proofs.Ytpphihjbgikjkaa

namespace Go.Proofs.Ytpphihjbgikjkaa
open Go Go.RowKit Go.Maps

set_option maxRecDepth 100000 in
set_option maxHeartbeats 4000000 in
theorem iops_any (L : List MapN) {n : Nat} (hok : LOk L n) (a : Option Addr) (cap : Nat) (w : World) (hr : InRowM w a L) :
    Calls Try.prog 44 #[.slice a L.length cap] w fun e w' => ∃ v, e = .returned v ∧ OwnP w' w.heap.size v (psL (rchS L) n) ∧ Below w.heap.size w w' := by
  have hn5 := hok.n5
  have hl : 0 < L.length := by have := hok.len1; omega
  have hl' : (0 : Int) < (L.length : Int) := by omega
  obtain ⟨b, off, rfl, hbl, hat⟩ := hr.at0 hl
  have h0 := hat.1
  rw [hok.pts 0 hl] at h0
  have HO := Lib.hid fun c hc wx (hb : Below w.heap.size w wx) => iorb_any L hok c hc (some ⟨b, off, none⟩) cap wx (hr.below hb)
  have HSU := Lib.hid (psL_succ (rchS L))
  have HLN := Lib.hid (psL_len (rchS L))
  clear hat hr hok
  generalize rchS L = s at *
  go_enter Try.func44, Try.ntmps44
  go_wp2_with fail
  go_loopw [3, 4, 9] (fun v _ i wr => ∃ k : Nat, k ≤ n ∧ i = .int .i64 (k : Int) ∧ OwnP wr w.heap.size v (psL s k) ∧ Below w.heap.size w wr) (fun _ _ i _ => n - (intOf i).toNat)
  case atStart => exact ⟨0, by omega, rfl, World.ownsRow_nil _ _ _ _, Below.refl _ _⟩
  case round =>
    obtain ⟨k, hk, rfl, hown, hb⟩ := hrel
    have HW := Lib.hid hown
    have HB := Lib.hid hb
    have hsr := hb.size
    clear hown hb
    obtain ⟨wo, hwo⟩ : ∃ wo, wo = wr := ⟨_, rfl⟩
    subst hwo
    by_cases hkn : k < n
    · have hkn' : (k : Int) < (n : Int) := by omega
      go_wp2_with fail
      refine (HO.out k hkn _ HB.out).mono ?_
      rintro e w1 ⟨rfl, hb⟩
      have HB1 := Lib.hid hb
      have hs1 := hb.size
      have HW1 : Hid (OwnP w1 w.heap.size u3 (psL s k)) := Lib.hid ((Turn.of_below (S := fun _ => False) hb).own HW.out (fun _ _ h => h))
      clear hb
      simp only [cells5]
      go_wp2_with (at_builtin; refine wpList_appP rfl _ _ rfl w.heap.size _ (psL s k) rfl (World.ownsRow.alloc HW1.out _) w1.heap.size 1 (s k) rfl (halloc_at _ _ _ rfl) (by rw [HLN.out]; omega) (by simp; omega) ?_; intro v2 w2 ho2 hg2)
      rw [← HSU.out] at ho2
      have HO2 := Lib.hid ho2
      have HB2 : Hid (Below w.heap.size w w2) := Lib.hid (((HB.out.trans (HB1.out.mono hsr)).alloc (by omega) _).grown hg2 (by simp; omega) (fun r e => (HW.out.lt r e).1))
      clear ho2 hg2
      go_roundw
      case rel => exact ⟨k + 1, by omega, by go_num, HO2.out, HB2.out⟩
      case measure => simp [intOf]; omega
    · obtain rfl : k = n := by omega
      have hkn' : ¬ ((k : Int) < (k : Int)) := by omega
      go_wp2_with fail
      go_ret
      exact ⟨_, rfl, HW.out, HB.out⟩

/-- The strong parts, and none with an error. -/
noncomputable def sprL (L : List MapN) : List (List Int) := if chkC L [] = 0 then prR L (fst0 L).toNat else []

theorem ky_orM {L : List MapN} : Ky (fun i => k5L (rchS L i)) (orM L) :=
  ⟨fun _ => trivial, fun i j => by
    rw [k5L_inj]
    exact ⟨fun h => by unfold orM mask; rw [h 0 (by omega), h 1 (by omega), h 2 (by omega), h 3 (by omega), h 4 (by omega)], fun h => mask_ext h⟩⟩



end Go.Proofs.Ytpphihjbgikjkaa
