/- The contract of spec.l07Last; rows of rows, and the places that are met, as spec.l07Apart keeps them. -/
import Derived.Test.YtiakoplfknkhmaaSrp
import Derived.Test.YtiakoplfknkhmaaBits
namespace Go.Proofs.Ytiakoplfknkhmaa
open Go Go.RowKit Go.Maps

theorem memB_last (S : List Int) (x : Nat) : memB S x = lastB S x := by
  have h := memB_contains (L := S) (x : Int) (by omega)
  rw [Int.toNat_natCast] at h
  exact h

set_option maxHeartbeats 1000000 in
theorem sla_any (n c : Nat) (F : Int) (S : List Int) (hs : S.length ≤ 1048576) (p : Int) (h5 : p ≤ 5) (hp : ptsB p S = true) (a b : Option Addr) (d x : Nat) (hx : x < 5) (w : World) (h : InRow w b S) :
    Calls Try.prog 70 #[.agg #[.slice a n c, .int .i64 F, .slice b S.length d], .int .i64 (x : Int)] w fun e w' => e = .returned (.bool (lastB S x)) ∧ Below w.heap.size w w' := by
  have HB := Lib.hid fun wx (hb : Below w.heap.size w wx) => sbits_any p h5 S hp hs b d wx (h.below hb)
  have hand := and_mask (memB S) x hx
  rw [memB_last] at hand
  clear h hp
  generalize mask (memB S) = M at *
  go_enter Try.func70, Try.ntmps70
  go_wp2_with fail
  refine (HB.out _ (by (repeat' (first | (with_reducible exact Below.refl _ _) | (with_reducible refine Below.alloc ?_ ?_ _) | (with_reducible refine Below.setCell ?_ ?_ _) | (with_reducible refine Below.drew ?_) | (with_reducible refine below_drewN ?_ _) | (with_reducible refine Below.trans ?_ (Below.mono (Hid.out (by assumption)) ?_)) | omega | (simp; done) | (simp; omega))))).mono ?_
  rintro e w1 ⟨rfl, rfl⟩
  go_wp2_with fail
  go_ret
  exact ⟨rfl, (Below.refl _ _).alloc (Nat.le_refl _) _⟩

/-- A row of rows. -/
structure Wdz (w : World) (B : Nat) (v : Value) (us : List Value) (W : List (List Int)) : Prop where
  own : w.ownsRow B 23 1 v W.length us
  row : ∀ j, j < W.length → Own w B (us.getD j undef) (W.getD j [])

theorem Wdz.turn {w w' : World} {B : Nat} {v : Value} {us : List Value} {W : List (List Int)} {S : Nat → Prop} (h : Wdz w B v us W) (ht : Turn w w' S) (h1 : ∀ r, v.ownBlock = some r → ¬ S r)
    (h2 : ∀ j, j < W.length → ∀ r, (us.getD j undef).ownBlock = some r → ¬ S r) : Wdz w' B v us W :=
  ⟨ht.own h.own h1, fun j hj => ht.own (h.row j hj) (h2 j hj)⟩

theorem Wdz.below {w w' : World} {B : Nat} {v : Value} {us : List Value} {W : List (List Int)} (h : Wdz w B v us W) (hb : Below w.heap.size w w') : Wdz w' B v us W :=
  h.turn (S := fun _ => False) (Turn.of_below hb) (fun _ _ h => h) (fun _ _ _ _ h => h)

theorem Wdz.at_ {w : World} {B : Nat} {v : Value} {us : List Value} {W : List (List Int)} (h : Wdz w B v us W) {j : Nat} (hj : j < W.length) :
    ∃ g cap, v = .slice (some ⟨g, 0, none⟩) W.length cap ∧ g < w.heap.size ∧ w.cell? ⟨g, j, none⟩ = some (us.getD j undef) := by
  rcases h.own.2 with ⟨_, h1⟩ | ⟨g, cap, cur, h1, _, hg, _, _, _, htk⟩
  · omega
  · refine ⟨g, cap, h1, (Array.getElem?_eq_some_iff.1 hg).1, ?_⟩
    have hl : us.length = W.length := by have := h.own.1; omega
    have e : cur.toList[j]? = us[j]? := by rw [← htk, List.getElem?_take, if_pos (by omega)]
    rw [Joins.cell_of_block hg j, ← Array.getElem?_toList, e, List.getElem?_eq_getElem (by omega), List.getD_eq_getElem?_getD, List.getElem?_eq_getElem (by omega)]
    rfl

theorem own_tne {w : World} {b1 b2 T1 T2 s1 s2 n1 n2 : Nat} {v1 v2 : Value} {x1 x2 : List Value} (hT : T1 ≠ T2) (h1 : w.ownsRow b1 T1 s1 v1 n1 x1) (h2 : w.ownsRow b2 T2 s2 v2 n2 x2) (r : Nat) (e1 : v1.ownBlock = some r) : v2.ownBlock ≠ some r := by
  intro e2
  rcases h1.2 with ⟨rfl, _⟩ | ⟨g1, c1, cur1, rfl, _, hg1, _⟩
  · simp [Value.ownBlock] at e1
  · rcases h2.2 with ⟨rfl, _⟩ | ⟨g2, c2, cur2, rfl, _, hg2, _⟩
    · simp [Value.ownBlock] at e2
    · simp [Value.ownBlock] at e1 e2
      subst e1 e2
      rw [hg1] at hg2
      injection hg2 with h
      injection h with _ h
      exact hT h

theorem wpList_appZ {ops : Array Oper} {rest : List Oper} {o : Oper} {ac : Act} {Q : Exit → Act → World → Prop} {w : World} (hgd : o.guard = none) (s x : Operand)
    (ho : o.op = .call { callee := .builtin .append, args := #[s, x], argTypes := #[57, 57] })
    (base : Nat) (v : Value) (us : List Value) (W : List (List Int)) (hs : ac.eval s = v) (hp : Wdz w base v us W) (b c : Nat) (u : Value) (L : List Int) (hu : Own w base u L) (hu1 : u.oneCell' = true) (hx : ac.eval x = .slice (some ⟨b, 0, none⟩) 1 c) (hb : w.heap[b]? = some (.cells #[u] 23 (0, 0)))
    (hlen : W.length ≤ 1000) (hbase : base ≤ w.heap.size)
    (h : ∀ v' w', Wdz w' base v' (us ++ [u]) (W ++ [L]) → w.grownBy w' v.ownBlock → (v'.ownBlock = v.ownBlock ∨ v'.ownBlock = some w.heap.size) → wpList Try.prog ops Q rest (ac.put o.dst v') w') : wpList Try.prog ops Q (o :: rest) ac w := by
  obtain ⟨i0, hi, hz0, hz1, hz2⟩ := info_parts info_rows
  refine wpList_append_own_at w hgd s x _ ho base 23 i0 _ 1 24 Try.underlying57 hi hz0 hz1 hz2 rfl (by decide) v W.length us hs hp.own ⟨b, 0, none⟩ 1 c [u] hx rfl (cell_one_blk7 hb) (fun z hz => by rw [List.mem_singleton.1 hz]; exact hu1) (by unfold maxLen; omega) (by omega) hbase ?_
  intro v' w' h1 h2 _ h4
  have hap : ∀ {u2 : Value} {X : List Int}, Own w base u2 X → Own w' base u2 X := fun ho => World.ownsRow.kept ho h2 (by
    cases e : Value.ownBlock _ with
    | none => exact Or.inl rfl
    | some r => exact Or.inr fun e2 => own_tne (by decide) ho hp.own r e e2.symm)
  refine h v' w' ⟨by rw [List.length_append]; exact h1, fun j hj => ?_⟩ h2 h4
  have hl : us.length = W.length := by have := hp.own.1; omega
  rw [List.length_append] at hj
  by_cases e : j < W.length
  · rw [List.getD_eq_getElem?_getD, List.getElem?_append_left (by omega), ← List.getD_eq_getElem?_getD, List.getD_eq_getElem?_getD (l := W ++ [L]), List.getElem?_append_left e, ← List.getD_eq_getElem?_getD]
    exact hap (hp.row j e)
  · have ej : j = W.length := by simp at hj; omega
    subst ej
    rw [List.getD_eq_getElem?_getD, List.getElem?_append_right (by omega), List.getD_eq_getElem?_getD (l := W ++ [L]), List.getElem?_append_right (by omega)]
    rw [hl]
    simp
    exact hap hu

/-- The places that are met, as truths by numbers. -/
def MetR (w : World) (g m n : Nat) (Q : List ((Nat × Nat) × List Int)) : Prop :=
  ∃ C : Array Value, w.heap[g]? = some (.cells C 4 (0, 0)) ∧ ∀ c, c < n → C[c]? = some (.bool (metB Q (c / m, c % m)))

theorem MetR.same {w w' : World} {g m n : Nat} {Q : List ((Nat × Nat) × List Int)} (h : MetR w g m n Q) (e : w'.heap[g]? = w.heap[g]?) : MetR w' g m n Q := by
  obtain ⟨C, h1, h2⟩ := h
  exact ⟨C, e.trans h1, h2⟩

theorem MetR.cell {w : World} {g m n : Nat} {Q : List ((Nat × Nat) × List Int)} (h : MetR w g m n Q) (hm : 0 < m) {x y : Nat} (hy : y < m) (hn : x * m + y < n) :
    w.cell? ⟨g, x * m + y, none⟩ = some (.bool (metB Q (x, y))) ∧ w.frozen? ⟨g, x * m + y, none⟩ = false ∧ g < w.heap.size := by
  obtain ⟨C, h1, h2⟩ := h
  have e1 : (x * m + y) / m = x := by rw [Nat.mul_comm, Nat.mul_add_div hm, Nat.div_eq_of_lt hy]; rfl
  have e2 : (x * m + y) % m = y := by rw [Nat.mul_comm, Nat.mul_add_mod, Nat.mod_eq_of_lt hy]
  have h3 := h2 _ hn
  rw [e1, e2] at h3
  exact ⟨(Joins.cell_of_block h1 _).trans h3, Joins.unfrozen_of_block h1 _, (Array.getElem?_eq_some_iff.1 h1).1⟩

theorem MetR.set {w : World} {g m n : Nat} {Q : List ((Nat × Nat) × List Int)} (h : MetR w g m n Q) (hm : 0 < m) {x y : Nat} (hy : y < m) (hn : x * m + y < n) (wd : List Int) :
    MetR (w.setCell ⟨g, x * m + y, none⟩ (.bool true)) g m n (Q ++ [((x, y), wd)]) := by
  obtain ⟨C, h1, h2⟩ := h
  have e1 : (x * m + y) / m = x := by rw [Nat.mul_comm, Nat.mul_add_div hm, Nat.div_eq_of_lt hy]; rfl
  have e2 : (x * m + y) % m = y := by rw [Nat.mul_comm, Nat.mul_add_mod, Nat.mod_eq_of_lt hy]
  refine ⟨_, Joins.block_setCell h1 _, fun c hc => ?_⟩
  have hsz : x * m + y < C.size := (Array.getElem?_eq_some_iff.1 (h2 _ hn)).1
  rw [metB_app]
  by_cases e : c = x * m + y
  · subst e
    rw [e1, e2]
    simp [hsz]
  · rw [Array.getElem?_setIfInBounds_ne (Ne.symm e), h2 c hc]
    have hne : (x, y) ≠ (c / m, c % m) := fun h => by
      injection h with h3 h4
      apply e
      have := Nat.div_add_mod c m
      rw [← h3, ← h4, Nat.mul_comm] at this
      exact this.symm
    simp [hne]

theorem metR_ne {w : World} {g m n B e s k : Nat} {Q : List ((Nat × Nat) × List Int)} {v : Value} {xs : List Value} (hT : e ≠ 4) (h : MetR w g m n Q) (ho : w.ownsRow B e s v k xs) : v.ownBlock ≠ some g := by
  obtain ⟨C, hb, _⟩ := h
  rcases ho.2 with ⟨rfl, _⟩ | ⟨g2, c, cur, rfl, _, hg, _⟩
  · simp [Value.ownBlock]
  · intro e2
    have e' : g2 = g := by simpa [Value.ownBlock] using e2
    subst e'
    rw [hg] at hb
    injection hb with h
    injection h with _ h
    exact hT h

end Go.Proofs.Ytiakoplfknkhmaa
