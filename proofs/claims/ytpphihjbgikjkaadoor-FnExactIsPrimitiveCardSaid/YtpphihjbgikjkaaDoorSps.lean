/- The contract of spec.l10Partitions, a recursion; a list of rows appended to another. The contracts of spec.l10All and spec.InvariantPartitions. -/
import Derived.Test.YtpphihjbgikjkaaDoorPip
import Derived.Test.YtpphihjbgikjkaaDoorPcl
import Derived.Test.YtpphihjbgikjkaaDoorOwy
import Derived.Test.YtpphihjbgikjkaaDoorIsi
namespace Go.Proofs.YtpphihjbgikjkaaDoor
open Go Go.RowKit

theorem rc_len : ∀ (f : Nat) (b : List Int) (m : Nat), (rcL f b m).length = (rcL f [] m).length
  | 0, _, _ => rfl
  | f + 1, b, m => by
    rw [rcL, rcL, List.length_flatMap, List.length_flatMap]
    congr 1
    apply List.map_congr_left
    intro c _
    rw [rc_len f (b ++ [(c : Int)]), rc_len f ([] ++ [(c : Int)])]
theorem rc_bd0 : ∀ f, f ≤ 4 → ∀ m, m ≤ 5 - f → (rcL f [] m).length ≤ 100 ∧ 0 < (rcL f [] m).length := by decide +kernel
theorem rc_bd {f m : Nat} (hf : f ≤ 4) (hm : m + f ≤ 5) (b : List Int) : (rcL f b m).length ≤ 100 ∧ 0 < (rcL f b m).length := by
  rw [rc_len]
  exact rc_bd0 f hf m (by omega)
theorem rcJ_le (f : Nat) (b : List Int) (m : Nat) {c : Nat} : ∀ {d : Nat}, c ≤ d → (rcJ f b m c).length ≤ (rcJ f b m d).length
  | 0, h => by rw [show c = 0 by omega]; exact Nat.le_refl _
  | d + 1, h => by
    by_cases e : c = d + 1
    · rw [e]; exact Nat.le_refl _
    · have := rcJ_le f b m (c := c) (d := d) (by omega)
      rw [rcJ_succ, List.length_append]
      omega

theorem getD_app1 {A : Type} {l m : List A} {j : Nat} {d : A} (h : j < l.length) : (l ++ m).getD j d = l.getD j d := by
  rw [List.getD_eq_getElem?_getD, List.getElem?_append_left h, ← List.getD_eq_getElem?_getD]
theorem getD_app2 {A : Type} {l m : List A} {j : Nat} {d : A} (h : l.length ≤ j) : (l ++ m).getD j d = m.getD (j - l.length) d := by
  rw [List.getD_eq_getElem?_getD, List.getElem?_append_right h, ← List.getD_eq_getElem?_getD]

theorem wpList_appTT {ops : Array Oper} {rest : List Oper} {o : Oper} {ac : Act} {Q : Exit → Act → World → Prop} {w : World} (hgd : o.guard = none) (s x : Operand)
    (ho : o.op = .call { callee := .builtin .append, args := #[s, x], argTypes := #[24, 24] })
    (base : Nat) (v : Value) (us : List Value) (W : List (List Int)) (hs : ac.eval s = v) (hp : Trw w base v us W) (v2 : Value) (us2 : List Value) (W2 : List (List Int)) (hx : ac.eval x = v2) (hp2 : Trw w base v2 us2 W2)
    (hne : 0 < W2.length) (hsep : ∀ i j, i < W.length → j < W2.length → (us.getD i undef).ownBlock ≠ (us2.getD j undef).ownBlock)
    (hlen : W.length + W2.length ≤ 1000) (hbase : base ≤ w.heap.size)
    (h : ∀ v' w', Trw w' base v' (us ++ us2) (W ++ W2) → w.grownBy w' v.ownBlock → wpList Tryd.prog ops Q rest (ac.put o.dst v') w') : wpList Tryd.prog ops Q (o :: rest) ac w := by
  obtain ⟨i0, hi, hz0, hz1, hz2⟩ := info_parts info_sl
  have hl := hp.trn.len
  have hl2 := hp2.trn.len
  obtain ⟨g2, c2, e2, _, _, _, _⟩ := hp2.trn.cell hne
  have hcells : ∀ j u, us2[j]? = some u → w.cell? ((⟨g2, 0, none⟩ : Addr).add j) = some u := fun j u hu => by
    have hj : j < us2.length := by
      rcases Nat.lt_or_ge j us2.length with h | h
      · exact h
      · rw [List.getElem?_eq_none h] at hu; cases hu
    obtain ⟨g3, c3, e3, _, _, hc, _⟩ := hp2.trn.cell (c := j) (by omega)
    rw [e2] at e3
    injection e3 with e3 _ _
    injection e3 with e3
    injection e3 with e3
    subst e3
    have hadd : (⟨g2, 0, none⟩ : Addr).add j = ⟨g2, j, none⟩ := by cases j <;> simp [Addr.add]
    rw [hadd, hc, List.getD_eq_getElem?_getD, hu]
    rfl
  refine wpList_append_own_at w hgd s x _ ho base 36 i0 _ 1 24 Tryd.underlying24 hi hz0 hz1 hz2 rfl (by decide) v W.length us hs hp.own ⟨g2, 0, none⟩ W2.length c2 us2 (by rw [hx, e2]) (by omega) hcells (fun z hz => ?_) (by unfold maxLen; omega) (by omega) hbase ?_
  · obtain ⟨j, hj, rfl⟩ := List.getElem_of_mem hz
    obtain ⟨gj, cj, ej, _, _⟩ := own_blk (hp2.row j (by omega)) (hp2.full j (by omega))
    rw [List.getD_eq_getElem?_getD, List.getElem?_eq_getElem hj] at ej
    have ej' : us2[j] = .slice (some ⟨gj, 0, none⟩) (W2.getD j []).length cj := ej
    rw [ej']; rfl
  intro v' w' h1 h2 _ _
  have hap : ∀ {u2 : Value} {X : List Int}, Own w base u2 X → Own w' base u2 X := fun ho => World.ownsRow.kept ho h2 (by
    cases e : Value.ownBlock _ with
    | none => exact Or.inl rfl
    | some r => exact Or.inr fun e2 => trw_tne (by decide) ho hp.own r e e2.symm)
  refine h v' w' ⟨by rw [List.length_append]; exact h1, fun j hj => ?_, fun j hj => ?_, fun i j hij hj => ?_⟩ h2
  · rw [List.length_append] at hj
    by_cases e : j < W.length
    · rw [getD_app1 (by omega), getD_app1 e]; exact hap (hp.row j e)
    · rw [getD_app2 (by omega), getD_app2 (by omega), hl]; exact hap (hp2.row _ (by omega))
  · rw [List.length_append] at hj
    by_cases e : j < W.length
    · rw [getD_app1 e]; exact hp.full j e
    · rw [getD_app2 (by omega)]; exact hp2.full _ (by omega)
  · rw [List.length_append] at hj
    by_cases e : j < W.length
    · rw [getD_app1 (by omega), getD_app1 (by omega)]; exact hp.ne i j hij e
    · rw [getD_app2 (l := us) (j := j) (by omega), hl]
      by_cases e3 : i < W.length
      · rw [getD_app1 (by omega)]; exact hsep i _ e3 (by omega)
      · rw [getD_app2 (by omega), hl]; exact hp2.ne _ _ (by omega) (by omega)

theorem Trw.low10 {w : World} {B B2 : Nat} {v : Value} {us : List Value} {W : List (List Int)} (h : Trw w B v us W) (hb : B2 ≤ B) : Trw w B2 v us W :=
  ⟨Joins.ownsRow_le h.own hb, fun j hj => Joins.ownsRow_le (h.row j hj) hb, h.full, h.ne⟩

/-- What the recursion returns. -/
def SprA (f : Nat) : Prop := ∀ (n : Nat) (P : List Int) (m : Nat) (vb : Value) (B : Nat) (w : World), P ≠ [] → P.length + f = n → n ≤ 5 → m ≤ P.length → Own w B vb P → B ≤ w.heap.size →
  Calls Tryd.prog 60 #[vb, .int .i64 (m : Int), .int .i64 (n : Int)] w fun e w' => ∃ v us, e = .returned v ∧ Trw w' B v us (rcL f P m) ∧ Below w.heap.size w w'

set_option maxRecDepth 100000 in
set_option maxHeartbeats 4000000 in
theorem spr_zero : SprA 0 := by
  intro n P m vb B w hne hl hn hm hown hB
  obtain ⟨g, c, rfl, hgB, hgl⟩ := own_blk hown hne
  have HO := Lib.hid hown
  have HNE := Lib.hid hne
  have hq : ((P.length : Int) == (n : Int)) = true := by simp; omega
  clear hown hne hl
  go_enter Tryd.func60, Tryd.ntmps60
  go_wp2_with fail
  go_ret
  refine ⟨_, [.slice (some ⟨g, 0, none⟩) P.length c], rfl, ⟨⟨rfl, Or.inr ⟨_, 1, _, rfl, hB, halloc_at _ _ _ rfl, Nat.le_refl _, by unfold maxLen; omega, rfl, rfl⟩⟩, fun j hj => ?_, fun j hj => ?_, fun i j hij hj => ?_⟩, (Below.refl _ _).alloc (Nat.le_refl _) _⟩
  · have : j = 0 := by simp [rcL] at hj; omega
    subst this
    exact World.ownsRow.alloc HO.out _
  · have : j = 0 := by simp [rcL] at hj; omega
    subst this
    exact HNE.out
  · simp [rcL] at hj; omega

set_option maxRecDepth 100000 in
set_option maxHeartbeats 8000000 in
theorem spr_succ (f : Nat) (hf : f ≤ 3) (ih : SprA f) : SprA (f + 1) := by
  intro n P m vb B w hne hl hn hm hown hB
  obtain ⟨i0, hi, hz0, hz1, hz2⟩ := info_parts info_int
  obtain ⟨g, c0, rfl, hgB, hgl⟩ := own_blk hown hne
  have HO := Lib.hid hown
  have HNE := Lib.hid hne
  have HIH := Lib.hid ih
  have HLN := Lib.hid hl
  have hq : ((P.length : Int) == (n : Int)) = false := by simp; omega
  have hP5 : P.length ≤ 4 := by omega
  have HRC := Lib.hid (rcJ_all f P m)
  clear hown hne hl ih
  go_enter Tryd.func60, Tryd.ntmps60
  go_wp2_with fail
  go_loopw [7, 8] (fun v i wr => ∃ (c : Nat) (us : List Value), c ≤ m + 1 ∧ i = .int .i64 (c : Int) ∧ Trw wr w.heap.size v us (rcJ f P m c) ∧ Below w.heap.size w wr) (fun _ i _ => m + 1 - (intOf i).toNat)
  case atStart => exact ⟨0, [], by omega, rfl, by rw [rcJ_zero]; exact trw_nil _ _ (Nat.le_refl _), (Below.refl _ _).alloc (Nat.le_refl _) _⟩
  case round =>
    obtain ⟨c, us, hc, rfl, ht, hb⟩ := hrel
    have HT := Lib.hid ht
    have HB := Lib.hid hb
    have hsr := hb.size
    obtain ⟨av, cv, rfl⟩ := ht.trn.form
    clear ht hb
    obtain ⟨wo, hwo⟩ : ∃ wo, wo = wr := ⟨_, rfl⟩
    subst hwo
    by_cases hcm : c < m + 1
    · have hcm' : (c : Int) ≤ (m : Int) := by omega
      have HSU := Lib.hid (rcJ_succ f P m c)
      have HOW := Lib.hid (own_own ((Turn.of_below (S := fun _ => False) HB.out).own HO.out (fun _ _ h => h)) (by omega))
      have hmx : max (m : Int) ((c : Int) + 1) = ((max m (c + 1) : Nat) : Int) := by omega
      have HLJ : Hid ((rcJ f P m c).length ≤ 100) := Lib.hid (by
        have h1 := rcJ_le f P m (show c ≤ m + 1 by omega)
        rw [rcJ_all] at h1
        have := (rc_bd (f := f + 1) (m := m) (by omega) (by have := HLN.out; omega) P).1
        omega)
      go_wp2_with fail
      refine HOW.out.mono ?_
      rintro e w5 ⟨v5, rfl, hown5, hb5⟩
      have HO5 := Lib.hid hown5
      have HB5 := Lib.hid hb5
      have hz5 := hb5.size
      clear hown5 hb5
      obtain ⟨M, hM⟩ : ∃ M, M = max m (c + 1) := ⟨_, rfl⟩
      rw [← hM] at hmx HSU
      have hM5 : M ≤ P.length + 1 := by omega
      have HLR := Lib.hid (rc_bd (f := f) (m := M) (by omega) (by have := HLN.out; omega) (P ++ [(c : Int)]))
      clear hM
      go_wp2_with (at_builtin; refine wpList_append_own_at _ rfl _ _ 36 rfl wo.heap.size 2 i0 (.int .i64 0) 1 8 Tryd.underlying36 hi hz0 hz1 hz2 rfl (by decide) v5 P.length (P.map (Value.int .i64)) rfl (World.ownsRow.alloc HO5.out _) ⟨w5.heap.size, 0, none⟩ 1 1 [.int .i64 (c : Int)] rfl rfl (cell_one_new _ _ _) (by intro u hu; simp at hu; subst hu; rfl) (by unfold maxLen; omega) (by omega) (by simp; omega) ?_; intro v6 w6 ho6 hg6 _ _)
      have HO6 : Hid (Own w6 wo.heap.size v6 (P ++ [(c : Int)])) := Lib.hid (by unfold Own; simpa using ho6)
      have HB6 : Hid (Below wo.heap.size wo w6) := Lib.hid ((HB5.out.alloc (by omega) _).grown hg6 (by simp; omega) (fun r e => (HO5.out.lt r e).1))
      have hz6 := HB6.out.size
      clear ho6 hg6
      refine (HIH.out n (P ++ [(c : Int)]) M v6 wo.heap.size w6 (by simp) (by have := HLN.out; simp; omega) hn (by simp; omega) HO6.out hz6).mono ?_
      rintro e w7 ⟨v7, us7, rfl, ht7, hb7⟩
      obtain ⟨a7, c7, rfl⟩ := ht7.trn.form
      have HT7 := Lib.hid ht7
      have HB7 : Hid (Below wo.heap.size wo w7) := Lib.hid (HB6.out.trans (hb7.mono hz6))
      have hz7 := hb7.size
      clear ht7 hb7
      have HSEP : Hid (∀ i j, i < (rcJ f P m c).length → j < (rcL f (P ++ [(c : Int)]) M).length → (us.getD i undef).ownBlock ≠ (us7.getD j undef).ownBlock) := Lib.hid fun i j hi hj e => by
        obtain ⟨g2, c2, e2, _, hl2⟩ := own_blk (HT.out.row i hi) (HT.out.full i hi)
        obtain ⟨g3, c3, e3, hl3, _⟩ := own_blk (HT7.out.row j hj) (HT7.out.full j hj)
        rw [e2, e3] at e
        simp [Value.ownBlock] at e
        omega
      go_wp2_with (at_builtin; refine wpList_appTT rfl _ _ rfl w.heap.size _ us (rcJ f P m c) rfl (HT.out.below HB7.out) _ us7 (rcL f (P ++ [(c : Int)]) M) rfl (HT7.out.low10 hsr) HLR.out.2 HSEP.out (by have := HLR.out.1; have := HLJ.out; omega) (by omega) ?_; intro v8 w8 ho8 hg8)
      rw [← HSU.out] at ho8
      have HO8 := Lib.hid ho8
      have HB8 : Hid (Below w.heap.size w w8) := Lib.hid ((HB.out.trans (HB7.out.mono hsr)).grown hg8 (by omega) (fun r e => (HT.out.own.lt r e).1))
      clear ho8 hg8
      go_roundw
      case rel => exact ⟨c + 1, _, by omega, by go_num, HO8.out, HB8.out⟩
      case measure => simp [intOf]; omega
    · obtain rfl : c = m + 1 := by omega
      have hcm' : ¬ (((m + 1 : Nat) : Int) ≤ (m : Int)) := by omega
      rw [HRC.out] at HT
      go_wp2_with fail
      go_ret
      exact ⟨_, rfl, ⟨us, HT.out.low10 hB⟩, HB.out⟩

theorem spr_any : ∀ f, f ≤ 4 → SprA f
  | 0, _ => spr_zero
  | f + 1, h => spr_succ f (by omega) (spr_any f (by omega))

end Go.Proofs.YtpphihjbgikjkaaDoor

namespace Go.Proofs.YtpphihjbgikjkaaDoor
open Go Go.RowKit

set_option maxRecDepth 100000 in
set_option maxHeartbeats 8000000 in
theorem sall_any (L : List MapN) {n : Nat} (hok : LOk L n) (a : Option Addr) (cap : Nat) (w : World) (hr : InRowM w a L) :
    Calls Tryd.prog 44 #[.slice a L.length cap] w fun e w' => ∃ v us, e = .returned v ∧ Trw w' w.heap.size v us (ipL L n) ∧ Below w.heap.size w w' := by
  obtain ⟨i0, hi, hz0, hz1, hz2⟩ := info_parts info_sl
  have hn5 := hok.n5
  have hn1 := hok.n1
  have hl : 0 < L.length := by have := hok.len1; omega
  have hl' : (0 : Int) < (L.length : Int) := by omega
  have HIV := Lib.hid fun P (hp : P.length = n) a2 c2 wx (hb : Below w.heap.size w wx) h2 => sinv_any L hok P hp a cap a2 c2 wx (hr.below hb) h2
  obtain ⟨b, off, rfl, hbl, hat⟩ := hr.at0 hl
  have h0 := hat.1
  rw [hok.pts 0 hl] at h0
  clear hr hat hok
  obtain ⟨wz, hwz⟩ : ∃ wz, wz = w.alloc (.cells #[.int .i64 0] 2) := ⟨_, rfl⟩
  have hzz : wz.heap.size = w.heap.size + 1 := by rw [hwz]; simp
  have HOZ : Hid (Own wz w.heap.size (.slice (some ⟨w.heap.size, 0, none⟩) 1 1) [0]) := Lib.hid (by
    rw [hwz]
    exact ⟨rfl, Or.inr ⟨_, 1, _, rfl, Nat.le_refl _, halloc_at _ _ _ rfl, Nat.le_refl _, by unfold maxLen; omega, rfl, rfl⟩⟩)
  have HBZ : Hid (Below w.heap.size w wz) := Lib.hid (by rw [hwz]; exact (Below.refl _ _).alloc (Nat.le_refl _) _)
  have hx := (HBZ.out.cell (p := ⟨b, off, none⟩) hbl).trans h0
  have HWZ := Lib.hid hwz
  have HSP := Lib.hid (spr_any (n - 1) (by omega) n [0] 1 _ w.heap.size wz (by simp) (by simp; omega) hn5 (by simp) HOZ.out (by omega))
  rw [rc_pk (n - 1) (by omega), show n - 1 + 1 = n by omega] at HSP
  rw [show ((1 : Nat) : Int) = 1 from rfl] at HSP
  rw [hwz] at hx
  clear hwz h0
  go_enter Tryd.func44, Tryd.ntmps44
  go_wp2_with fail
  rw [← HWZ.out]
  refine HSP.out.mono ?_
  rintro e w2 ⟨v, us, rfl, ht, hb⟩
  have HTB := Lib.hid ht
  obtain ⟨av, cv, rfl⟩ := ht.trn.form
  have HB2 : Hid (Below w.heap.size w w2) := Lib.hid (HBZ.out.trans (hb.mono (by omega)))
  have hz2' := hb.size
  have HPL := Lib.hid (pk_len n hn5)
  obtain ⟨N, hN⟩ : ∃ N, N = (pkL n).length := ⟨_, rfl⟩
  have HN := Lib.hid hN
  rw [← hN] at HPL HTB ⊢
  have hN52 := HPL.out
  clear hN ht hb
  go_wp2_with fail
  go_loopw [4, 5] (fun v i wr => ∃ j : Nat, j ≤ N ∧ i = .int .i64 (j : Int) ∧ wr.ownsRow w2.heap.size 36 1 v (slI L (pkL n) n j).length ((slI L (pkL n) n j).map fun i => us.getD i undef) ∧ Below w2.heap.size w2 wr) (fun _ i _ => N - (intOf i).toNat)
  case atStart => exact ⟨0, by omega, rfl, ⟨rfl, Or.inr ⟨_, 0, #[], rfl, Nat.le_refl _, halloc_at _ _ _ rfl, Nat.le_refl _, Nat.zero_le _, rfl, rfl⟩⟩, (Below.refl _ _).alloc (Nat.le_refl _) _⟩
  case round =>
    obtain ⟨j, hj, rfl, hown, hb⟩ := hrel
    have HO := Lib.hid hown
    have HB := Lib.hid hb
    have hsr := hb.size
    have HBW : Hid (Below w.heap.size w wr) := Lib.hid (HB2.out.trans (hb.mono (by omega)))
    clear hown hb
    obtain ⟨wo, hwo⟩ : ∃ wo, wo = wr := ⟨_, rfl⟩
    subst hwo
    have HSL := Lib.hid (slI_len L (pkL n) n j)
    by_cases hjN : j < N
    · have hjN' : (j : Int) < (N : Int) := by omega
      have hjl : j < (pkL n).length := by rw [← HN.out]; exact hjN
      obtain ⟨g, cap4, e, hgB, hgl, hcell, hfr⟩ := HTB.out.trn.cell hjl
      injection e with e1 e2 e3
      subst e1 e3
      have hpar := pk_par n hn5 _ (pk_in hjl)
      have hrow := HTB.out.row j hjl
      have HSY := Lib.hid fun h => slI_yes (L := L) (W := pkL n) (n := n) (j := j) h
      have HSN := Lib.hid fun h => slI_no (L := L) (W := pkL n) (n := n) (j := j) h
      obtain ⟨P, hP⟩ : ∃ P, P = (pkL n).getD j [] := ⟨_, rfl⟩
      rw [← hP] at hpar hrow HSY HSN
      have hPl := (parB_iff.1 hpar).1
      obtain ⟨a2, c2, hu, hrd⟩ := own_rd hrow (by omega)
      have HU := Lib.hid hu
      rw [hu] at hcell
      have hce := (HB.out.cell (p := ⟨g, j, none⟩) hgl).trans hcell
      have hgl2 : g < wo.heap.size := by omega
      have HIQ := Lib.hid (HIV.out P hPl a2 c2 wo HBW.out (hrd.inRow.below HB.out))
      clear hcell hu hrd hrow hP hpar hPl e2
      cases hiv : invB L P n
      · rw [hiv] at HIQ
        have HS2 := Lib.hid (HSN.out hiv)
        clear hiv HSY HSN
        go_wp2_with fail
        refine HIQ.out.mono ?_
        rintro e w5 ⟨rfl, hb5⟩
        have HB5 : Hid (Below w2.heap.size w2 w5) := Lib.hid (HB.out.trans (hb5.mono hsr))
        have HO5 : Hid (w5.ownsRow w2.heap.size 36 1 u4 (slI L (pkL n) n j).length ((slI L (pkL n) n j).map fun i => us.getD i undef)) := Lib.hid ((Turn.of_below (S := fun _ => False) hb5).own HO.out (fun _ _ h => h))
        clear hb5
        go_wp2_with fail
        go_roundw
        case rel => exact ⟨j + 1, by omega, by go_num, by rw [HS2.out]; exact HO5.out, HB5.out⟩
        case measure => simp [intOf]; omega
      · rw [hiv] at HIQ
        have HS2 := Lib.hid (HSY.out hiv)
        clear hiv HSY HSN
        go_wp2_with fail
        refine HIQ.out.mono ?_
        rintro e w5 ⟨rfl, hb5⟩
        have HB5 : Hid (Below w2.heap.size w2 w5) := Lib.hid (HB.out.trans (hb5.mono hsr))
        have hz5 := hb5.size
        have hce5 := (hb5.cell (p := ⟨g, j, none⟩) hgl2).trans hce
        have hgl5 : g < w5.heap.size := by omega
        have HO5 : Hid (w5.ownsRow w2.heap.size 36 1 u4 (slI L (pkL n) n j).length ((slI L (pkL n) n j).map fun i => us.getD i undef)) := Lib.hid ((Turn.of_below (S := fun _ => False) hb5).own HO.out (fun _ _ h => h))
        clear hb5 hce
        go_wp2_with (at_builtin; refine wpList_append_own _ rfl _ _ 24 rfl w2.heap.size 36 i0 _ 1 24 Tryd.underlying24 hi hz0 hz1 hz2 rfl (by decide) u4 _ _ rfl (World.ownsRow.alloc HO5.out _) ⟨w5.heap.size, 0, none⟩ 1 1 [.slice a2 P.length c2] rfl rfl (cell_one8 (halloc_at _ _ _ rfl)) (by intro u hu; simp at hu; subst hu; rfl) (by have := HSL.out; unfold maxLen; omega) (by have := HSL.out; omega) (by simp; omega) ?_; intro v6 w6 ho6 hg6 _)
        have HO6 : Hid (w6.ownsRow w2.heap.size 36 1 v6 (slI L (pkL n) n (j + 1)).length ((slI L (pkL n) n (j + 1)).map fun i => us.getD i undef)) := Lib.hid (by
          rw [HS2.out, List.length_append, List.map_append]
          have e : List.map (fun i => us.getD i undef) [j] = [.slice a2 P.length c2] := by rw [List.map_cons, HU.out]; rfl
          rw [e]
          exact ho6)
        have HB6 : Hid (Below w2.heap.size w2 w6) := Lib.hid ((HB5.out.alloc (by omega) _).grown hg6 (by simp; omega) (fun r e => (HO5.out.lt r e).1))
        clear ho6 hg6
        go_roundw
        case rel => exact ⟨j + 1, by omega, by go_num, HO6.out, HB6.out⟩
        case measure => simp [intOf]; omega
    · obtain rfl : j = N := by omega
      have hjN' : ¬ ((j : Int) < (j : Int)) := by omega
      have HSE := (HTB.out.below HB.out).sel (s := slI L (pkL n) n j) (by omega) HO.out (fun i h => by rw [← HN.out]; exact slI_lt h) (fun a b hab hb => slI_asc hab hb)
      rw [HN.out] at HSE
      have hip : (slI L (pkL n) n (pkL n).length).map (fun i => (pkL n).getD i []) = ipL L n := rfl
      rw [hip] at HSE
      have HSE := Lib.hid HSE
      clear hip
      go_wp2_with fail
      go_ret
      exact ⟨_, rfl, ⟨_, HSE.out⟩, HBW.out⟩

set_option maxRecDepth 100000 in
set_option maxHeartbeats 4000000 in
theorem sIvp_any (L : List MapN) (hl1 : L.length ≤ 1048576) (a : Option Addr) (cap : Nat) (_ : a = none → cap = 0) (w : World) (hr : InRowM w a L) :
    Calls Tryd.prog 24 #[.slice a L.length cap] w (RetT w.heap.size (ivpL L) (chkC L []) w) := by
  have HG := Lib.hid (given_any a none cap 0 L [] hl1 (by simp) w hr (Or.inl rfl))
  by_cases hC : chkC L [] = 0
  · obtain ⟨n, hok, hn⟩ := LOk.of hC
    have hsp : ivpL L = ipL L n := by unfold ivpL; rw [if_pos hC, hn, Int.toNat_natCast]
    rw [hsp, hC]
    rw [hC] at HG
    have hn5 := hok.n5
    have HS := Lib.hid fun wx (hb : Below w.heap.size w wx) => sall_any L hok a cap wx (hr.below hb)
    have hlen : (ipL L n).length ≤ 52 := by unfold ipL; rw [List.length_map]; have := slI_len L (pkL n) n (pkL n).length; have := pk_len n hn5; omega
    have HLEN := Lib.hid hlen
    have HROW := Lib.hid (ip_row L hn5)
    have HMK := Lib.hid (ip_mk L hn5)
    clear hr hC hok hn hsp hlen
    generalize ipL L n = R at *
    go_enter Tryd.func24, Tryd.ntmps24
    go_wp2_with fail
    refine HG.out.mono ?_
    rintro e w1 ⟨rfl, hb⟩
    have HB1 := Lib.hid hb
    have hz1 := hb.size
    clear hb
    go_wp2_with fail
    refine (HS.out _ HB1.out).mono ?_
    rintro e w2 ⟨v, us, rfl, ht, hb⟩
    obtain ⟨a4, c4, rfl, hrt⟩ := ht.rdT (by have := HLEN.out; omega) (fun j hj => by have := HROW.out j hj; omega)
    have HRT := Lib.hid hrt
    have HB2 := Lib.hid hb
    clear ht hrt hb
    go_wp2_with fail
    go_ret2
    exact retT_of rfl HRT.out (by omega) HMK.out (HB1.out.trans (HB2.out.mono hz1))
  · have hsp : ivpL L = [] := by unfold ivpL; rw [if_neg hC]
    rw [hsp]
    have hne : (chkC L [] != 0) = true := by simpa using hC
    clear hr hC hsp
    generalize chkC L [] = C at *
    go_enter Tryd.func24, Tryd.ntmps24
    go_wp2_with fail
    refine HG.out.mono ?_
    rintro e w1 ⟨rfl, hb⟩
    have HB1 := Lib.hid hb
    clear hb
    go_wp2_with fail
    go_ret2
    exact retT_nil HB1.out _

end Go.Proofs.YtpphihjbgikjkaaDoor
