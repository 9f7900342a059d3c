/- The contract of spec.l10Partitions, a recursion; a list of rows appended to another. -/
import Derived.Test.YtpphihjbgikjkaaDoorPkl
import Derived.Test.YtpphihjbgikjkaaDoorTrn
import Derived.Test.YtpphihjbgikjkaaDoorOwy
namespace Go.Proofs.YtpphihjbgikjkaaDoor
open Go Go.RowKit

theorem rc_len : ∀ (f : Nat) (b : List Int) (m : Nat), (rcL f b m).length = (rcL f [] m).length
  | 0, _, _ => rfl
  | f + 1, b, m => by
    rw [rcL, rcL, List.length_flatMap, List.length_flatMap]
    congr 1
    apply List.map_congr_left
    intro c _
    rw [rc_len f (b ++ [(c : Int)]), rc_len f ([] ++ [(c : Int)])]
theorem rc_bd0 : ∀ f, f ≤ 4 → ∀ m, m ≤ 5 - f → (rcL f [] m).length ≤ 100 ∧ 0 < (rcL f [] m).length := by decide +kernel
theorem rc_bd {f m : Nat} (hf : f ≤ 4) (hm : m + f ≤ 5) (b : List Int) : (rcL f b m).length ≤ 100 ∧ 0 < (rcL f b m).length := by
  rw [rc_len]
  exact rc_bd0 f hf m (by omega)
theorem rcJ_le (f : Nat) (b : List Int) (m : Nat) {c : Nat} : ∀ {d : Nat}, c ≤ d → (rcJ f b m c).length ≤ (rcJ f b m d).length
  | 0, h => by rw [show c = 0 by omega]; exact Nat.le_refl _
  | d + 1, h => by
    by_cases e : c = d + 1
    · rw [e]; exact Nat.le_refl _
    · have := rcJ_le f b m (c := c) (d := d) (by omega)
      rw [rcJ_succ, List.length_append]
      omega

theorem getD_app1 {A : Type} {l m : List A} {j : Nat} {d : A} (h : j < l.length) : (l ++ m).getD j d = l.getD j d := by
  rw [List.getD_eq_getElem?_getD, List.getElem?_append_left h, ← List.getD_eq_getElem?_getD]
theorem getD_app2 {A : Type} {l m : List A} {j : Nat} {d : A} (h : l.length ≤ j) : (l ++ m).getD j d = m.getD (j - l.length) d := by
  rw [List.getD_eq_getElem?_getD, List.getElem?_append_right h, ← List.getD_eq_getElem?_getD]

theorem wpList_appTT {ops : Array Oper} {rest : List Oper} {o : Oper} {ac : Act} {Q : Exit → Act → World → Prop} {w : World} (hgd : o.guard = none) (s x : Operand)
    (ho : o.op = .call { callee := .builtin .append, args := #[s, x], argTypes := #[24, 24] })
    (base : Nat) (v : Value) (us : List Value) (W : List (List Int)) (hs : ac.eval s = v) (hp : Trw w base v us W) (v2 : Value) (us2 : List Value) (W2 : List (List Int)) (hx : ac.eval x = v2) (hp2 : Trw w base v2 us2 W2)
    (hne : 0 < W2.length) (hsep : ∀ i j, i < W.length → j < W2.length → (us.getD i undef).ownBlock ≠ (us2.getD j undef).ownBlock)
    (hlen : W.length + W2.length ≤ 1000) (hbase : base ≤ w.heap.size)
    (h : ∀ v' w', Trw w' base v' (us ++ us2) (W ++ W2) → w.grownBy w' v.ownBlock → wpList Tryd.prog ops Q rest (ac.put o.dst v') w') : wpList Tryd.prog ops Q (o :: rest) ac w := by
  obtain ⟨i0, hi, hz0, hz1, hz2⟩ := info_parts info_sl
  have hl := hp.trn.len
  have hl2 := hp2.trn.len
  obtain ⟨g2, c2, e2, _, _, _, _⟩ := hp2.trn.cell hne
  have hcells : ∀ j u, us2[j]? = some u → w.cell? ((⟨g2, 0, none⟩ : Addr).add j) = some u := fun j u hu => by
    have hj : j < us2.length := by
      rcases Nat.lt_or_ge j us2.length with h | h
      · exact h
      · rw [List.getElem?_eq_none h] at hu; cases hu
    obtain ⟨g3, c3, e3, _, _, hc, _⟩ := hp2.trn.cell (c := j) (by omega)
    rw [e2] at e3
    injection e3 with e3 _ _
    injection e3 with e3
    injection e3 with e3
    subst e3
    have hadd : (⟨g2, 0, none⟩ : Addr).add j = ⟨g2, j, none⟩ := by cases j <;> simp [Addr.add]
    rw [hadd, hc, List.getD_eq_getElem?_getD, hu]
    rfl
  refine wpList_append_own_at w hgd s x _ ho base 36 i0 _ 1 24 Tryd.underlying24 hi hz0 hz1 hz2 rfl (by decide) v W.length us hs hp.own ⟨g2, 0, none⟩ W2.length c2 us2 (by rw [hx, e2]) (by omega) hcells (fun z hz => ?_) (by unfold maxLen; omega) (by omega) hbase ?_
  · obtain ⟨j, hj, rfl⟩ := List.getElem_of_mem hz
    obtain ⟨gj, cj, ej, _, _⟩ := own_blk (hp2.row j (by omega)) (hp2.full j (by omega))
    rw [List.getD_eq_getElem?_getD, List.getElem?_eq_getElem hj] at ej
    have ej' : us2[j] = .slice (some ⟨gj, 0, none⟩) (W2.getD j []).length cj := ej
    rw [ej']; rfl
  intro v' w' h1 h2 _ _
  have hap : ∀ {u2 : Value} {X : List Int}, Own w base u2 X → Own w' base u2 X := fun ho => World.ownsRow.kept ho h2 (by
    cases e : Value.ownBlock _ with
    | none => exact Or.inl rfl
    | some r => exact Or.inr fun e2 => trw_tne (by decide) ho hp.own r e e2.symm)
  refine h v' w' ⟨by rw [List.length_append]; exact h1, fun j hj => ?_, fun j hj => ?_, fun i j hij hj => ?_⟩ h2
  · rw [List.length_append] at hj
    by_cases e : j < W.length
    · rw [getD_app1 (by omega), getD_app1 e]; exact hap (hp.row j e)
    · rw [getD_app2 (by omega), getD_app2 (by omega), hl]; exact hap (hp2.row _ (by omega))
  · rw [List.length_append] at hj
    by_cases e : j < W.length
    · rw [getD_app1 e]; exact hp.full j e
    · rw [getD_app2 (by omega)]; exact hp2.full _ (by omega)
  · rw [List.length_append] at hj
    by_cases e : j < W.length
    · rw [getD_app1 (by omega), getD_app1 (by omega)]; exact hp.ne i j hij e
    · rw [getD_app2 (l := us) (j := j) (by omega), hl]
      by_cases e3 : i < W.length
      · rw [getD_app1 (by omega)]; exact hsep i _ e3 (by omega)
      · rw [getD_app2 (by omega), hl]; exact hp2.ne _ _ (by omega) (by omega)

theorem Trw.low10 {w : World} {B B2 : Nat} {v : Value} {us : List Value} {W : List (List Int)} (h : Trw w B v us W) (hb : B2 ≤ B) : Trw w B2 v us W :=
  ⟨Joins.ownsRow_le h.own hb, fun j hj => Joins.ownsRow_le (h.row j hj) hb, h.full, h.ne⟩

/-- What the recursion returns. -/
def SprA (f : Nat) : Prop := ∀ (n : Nat) (P : List Int) (m : Nat) (vb : Value) (B : Nat) (w : World), P ≠ [] → P.length + f = n → n ≤ 5 → m ≤ P.length → Own w B vb P → B ≤ w.heap.size →
  Calls Tryd.prog 60 #[vb, .int .i64 (m : Int), .int .i64 (n : Int)] w fun e w' => ∃ v us, e = .returned v ∧ Trw w' B v us (rcL f P m) ∧ Below w.heap.size w w'

set_option maxRecDepth 100000 in
set_option maxHeartbeats 4000000 in
theorem spr_zero : SprA 0 := by
  intro n P m vb B w hne hl hn hm hown hB
  obtain ⟨g, c, rfl, hgB, hgl⟩ := own_blk hown hne
  have HO := Lib.hid hown
  have HNE := Lib.hid hne
  have hq : ((P.length : Int) == (n : Int)) = true := by simp; omega
  clear hown hne hl
  go_enter Tryd.func60, Tryd.ntmps60
  go_wp2_with fail
  go_ret
  refine ⟨_, [.slice (some ⟨g, 0, none⟩) P.length c], rfl, ⟨⟨rfl, Or.inr ⟨_, 1, _, rfl, hB, halloc_at _ _ _ rfl, Nat.le_refl _, by unfold maxLen; omega, rfl, rfl⟩⟩, fun j hj => ?_, fun j hj => ?_, fun i j hij hj => ?_⟩, (Below.refl _ _).alloc (Nat.le_refl _) _⟩
  · have : j = 0 := by simp [rcL] at hj; omega
    subst this
    exact World.ownsRow.alloc HO.out _
  · have : j = 0 := by simp [rcL] at hj; omega
    subst this
    exact HNE.out
  · simp [rcL] at hj; omega

set_option maxRecDepth 100000 in
set_option maxHeartbeats 8000000 in
theorem spr_succ (f : Nat) (hf : f ≤ 3) (ih : SprA f) : SprA (f + 1) := by
  intro n P m vb B w hne hl hn hm hown hB
  obtain ⟨i0, hi, hz0, hz1, hz2⟩ := info_parts info_int
  obtain ⟨g, c0, rfl, hgB, hgl⟩ := own_blk hown hne
  have HO := Lib.hid hown
  have HNE := Lib.hid hne
  have HIH := Lib.hid ih
  have HLN := Lib.hid hl
  have hq : ((P.length : Int) == (n : Int)) = false := by simp; omega
  have hP5 : P.length ≤ 4 := by omega
  have HRC := Lib.hid (rcJ_all f P m)
  clear hown hne hl ih
  go_enter Tryd.func60, Tryd.ntmps60
  go_wp2_with fail
  go_loopw [7, 8] (fun v i wr => ∃ (c : Nat) (us : List Value), c ≤ m + 1 ∧ i = .int .i64 (c : Int) ∧ Trw wr w.heap.size v us (rcJ f P m c) ∧ Below w.heap.size w wr) (fun _ i _ => m + 1 - (intOf i).toNat)
  case atStart => exact ⟨0, [], by omega, rfl, by rw [rcJ_zero]; exact trw_nil _ _ (Nat.le_refl _), (Below.refl _ _).alloc (Nat.le_refl _) _⟩
  case round =>
    obtain ⟨c, us, hc, rfl, ht, hb⟩ := hrel
    have HT := Lib.hid ht
    have HB := Lib.hid hb
    have hsr := hb.size
    obtain ⟨av, cv, rfl⟩ := ht.trn.form
    clear ht hb
    obtain ⟨wo, hwo⟩ : ∃ wo, wo = wr := ⟨_, rfl⟩
    subst hwo
    by_cases hcm : c < m + 1
    · have hcm' : (c : Int) ≤ (m : Int) := by omega
      have HSU := Lib.hid (rcJ_succ f P m c)
      have HOW := Lib.hid (own_own ((Turn.of_below (S := fun _ => False) HB.out).own HO.out (fun _ _ h => h)) (by omega))
      have hmx : max (m : Int) ((c : Int) + 1) = ((max m (c + 1) : Nat) : Int) := by omega
      have HLJ : Hid ((rcJ f P m c).length ≤ 100) := Lib.hid (by
        have h1 := rcJ_le f P m (show c ≤ m + 1 by omega)
        rw [rcJ_all] at h1
        have := (rc_bd (f := f + 1) (m := m) (by omega) (by have := HLN.out; omega) P).1
        omega)
      go_wp2_with fail
      refine HOW.out.mono ?_
      rintro e w5 ⟨v5, rfl, hown5, hb5⟩
      have HO5 := Lib.hid hown5
      have HB5 := Lib.hid hb5
      have hz5 := hb5.size
      clear hown5 hb5
      obtain ⟨M, hM⟩ : ∃ M, M = max m (c + 1) := ⟨_, rfl⟩
      rw [← hM] at hmx HSU
      have hM5 : M ≤ P.length + 1 := by omega
      have HLR := Lib.hid (rc_bd (f := f) (m := M) (by omega) (by have := HLN.out; omega) (P ++ [(c : Int)]))
      clear hM
      go_wp2_with (at_builtin; refine wpList_append_own_at _ rfl _ _ 36 rfl wo.heap.size 2 i0 (.int .i64 0) 1 8 Tryd.underlying36 hi hz0 hz1 hz2 rfl (by decide) v5 P.length (P.map (Value.int .i64)) rfl (World.ownsRow.alloc HO5.out _) ⟨w5.heap.size, 0, none⟩ 1 1 [.int .i64 (c : Int)] rfl rfl (cell_one_new _ _ _) (by intro u hu; simp at hu; subst hu; rfl) (by unfold maxLen; omega) (by omega) (by simp; omega) ?_; intro v6 w6 ho6 hg6 _ _)
      have HO6 : Hid (Own w6 wo.heap.size v6 (P ++ [(c : Int)])) := Lib.hid (by unfold Own; simpa using ho6)
      have HB6 : Hid (Below wo.heap.size wo w6) := Lib.hid ((HB5.out.alloc (by omega) _).grown hg6 (by simp; omega) (fun r e => (HO5.out.lt r e).1))
      have hz6 := HB6.out.size
      clear ho6 hg6
      refine (HIH.out n (P ++ [(c : Int)]) M v6 wo.heap.size w6 (by simp) (by have := HLN.out; simp; omega) hn (by simp; omega) HO6.out hz6).mono ?_
      rintro e w7 ⟨v7, us7, rfl, ht7, hb7⟩
      obtain ⟨a7, c7, rfl⟩ := ht7.trn.form
      have HT7 := Lib.hid ht7
      have HB7 : Hid (Below wo.heap.size wo w7) := Lib.hid (HB6.out.trans (hb7.mono hz6))
      have hz7 := hb7.size
      clear ht7 hb7
      have HSEP : Hid (∀ i j, i < (rcJ f P m c).length → j < (rcL f (P ++ [(c : Int)]) M).length → (us.getD i undef).ownBlock ≠ (us7.getD j undef).ownBlock) := Lib.hid fun i j hi hj e => by
        obtain ⟨g2, c2, e2, _, hl2⟩ := own_blk (HT.out.row i hi) (HT.out.full i hi)
        obtain ⟨g3, c3, e3, hl3, _⟩ := own_blk (HT7.out.row j hj) (HT7.out.full j hj)
        rw [e2, e3] at e
        simp [Value.ownBlock] at e
        omega
      go_wp2_with (at_builtin; refine wpList_appTT rfl _ _ rfl w.heap.size _ us (rcJ f P m c) rfl (HT.out.below HB7.out) _ us7 (rcL f (P ++ [(c : Int)]) M) rfl (HT7.out.low10 hsr) HLR.out.2 HSEP.out (by have := HLR.out.1; have := HLJ.out; omega) (by omega) ?_; intro v8 w8 ho8 hg8)
      rw [← HSU.out] at ho8
      have HO8 := Lib.hid ho8
      have HB8 : Hid (Below w.heap.size w w8) := Lib.hid ((HB.out.trans (HB7.out.mono hsr)).grown hg8 (by omega) (fun r e => (HT.out.own.lt r e).1))
      clear ho8 hg8
      go_roundw
      case rel => exact ⟨c + 1, _, by omega, by go_num, HO8.out, HB8.out⟩
      case measure => simp [intOf]; omega
    · obtain rfl : c = m + 1 := by omega
      have hcm' : ¬ (((m + 1 : Nat) : Int) ≤ (m : Int)) := by omega
      rw [HRC.out] at HT
      go_wp2_with fail
      go_ret
      exact ⟨_, rfl, ⟨us, HT.out.low10 hB⟩, HB.out⟩

theorem spr_any : ∀ f, f ≤ 4 → SprA f
  | 0, _ => spr_zero
  | f + 1, h => spr_succ f (by omega) (spr_any f (by omega))

end Go.Proofs.YtpphihjbgikjkaaDoor
