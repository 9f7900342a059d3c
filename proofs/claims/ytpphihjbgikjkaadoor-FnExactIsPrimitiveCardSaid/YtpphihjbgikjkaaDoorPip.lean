/- All partitions of few points, told without Go: level by level, and branch by branch. The contract of impl.partitionsOf. The contract of impl.InvariantPartitions. -/
import Derived.Test.YtpphihjbgikjkaaDoorLoi
import Derived.Test.YtpphihjbgikjkaaDoorClone
import Derived.Test.YtpphihjbgikjkaaDoorOwy
import Derived.Test.YtpphihjbgikjkaaDoorRlo
namespace Go.Proofs.YtpphihjbgikjkaaDoor
open Go Go.RowKit

/-- What follows a partition of one point less. -/
def exL (P : List Int) (c : Nat) : List (List Int) := (List.range c).map fun (i : Nat) => P ++ [(i : Int)]
theorem exL_len (P : List Int) (c : Nat) : (exL P c).length = c := by simp [exL]
theorem exL_succ (P : List Int) (c : Nat) : exL P (c + 1) = exL P c ++ [P ++ [(c : Int)]] := by simp [exL, List.range_succ]
/-- The partitions of k points, in order. -/
def pkL : Nat → List (List Int)
  | 0 => [[]]
  | k + 1 => (pkL k).flatMap fun P => exL P (nxK P k + 1)
/-- What follows the first j partitions of k points. -/
def pkJ (k j : Nat) : List (List Int) := ((pkL k).take j).flatMap fun P => exL P (nxK P k + 1)
theorem pkJ_zero (k : Nat) : pkJ k 0 = [] := by simp [pkJ]
theorem pkJ_succ {k j : Nat} (h : j < (pkL k).length) : pkJ k (j + 1) = pkJ k j ++ exL ((pkL k).getD j []) (nxK ((pkL k).getD j []) k + 1) := by
  unfold pkJ
  rw [List.take_add_one, List.getElem?_eq_getElem h, List.flatMap_append, List.getD_eq_getElem?_getD, List.getElem?_eq_getElem h]
  simp
theorem pkJ_all (k : Nat) : pkJ k (pkL k).length = pkL (k + 1) := by unfold pkJ; rw [List.take_length]; rfl

theorem pk_len : ∀ k, k ≤ 5 → (pkL k).length ≤ 52 := by decide +kernel
theorem pk_par : ∀ k, k ≤ 5 → ∀ P ∈ pkL k, parB P k = true := by
  intro k hk
  rcases (by omega : k = 0 ∨ k = 1 ∨ k = 2 ∨ k = 3 ∨ k = 4 ∨ k = 5) with rfl | rfl | rfl | rfl | rfl | rfl <;> decide +kernel
theorem pk_in {k j : Nat} (h : j < (pkL k).length) : (pkL k).getD j [] ∈ pkL k := by
  rw [List.getD_eq_getElem?_getD, List.getElem?_eq_getElem h]
  exact List.getElem_mem h
theorem pkJ_len {k : Nat} (j : Nat) (hk : k ≤ 4) : (pkJ k j).length ≤ 52 := by
  have h1 : (pkJ k j).length ≤ (pkJ k (pkL k).length).length := by
    unfold pkJ
    rw [List.take_length]
    have hs : ((pkL k).take j).Sublist (pkL k) := List.take_sublist _ _
    generalize (pkL k).take j = A at *
    generalize pkL k = B at *
    induction hs with
    | slnil => simp
    | cons a _ ih => rw [List.flatMap_cons, List.length_append]; omega
    | cons_cons a _ ih => rw [List.flatMap_cons, List.flatMap_cons, List.length_append, List.length_append]; omega
  rw [pkJ_all] at h1
  have := pk_len (k + 1) (by omega)
  omega

/-- The partitions that begin with some numbers. -/
def rcL : Nat → List Int → Nat → List (List Int)
  | 0, b, _ => [b]
  | f + 1, b, m => (List.range (m + 1)).flatMap fun (c : Nat) => rcL f (b ++ [(c : Int)]) (max m (c + 1))
/-- The first c branches. -/
def rcJ (f : Nat) (b : List Int) (m c : Nat) : List (List Int) := (List.range c).flatMap fun (c : Nat) => rcL f (b ++ [(c : Int)]) (max m (c + 1))
theorem rcJ_zero (f : Nat) (b : List Int) (m : Nat) : rcJ f b m 0 = [] := rfl
theorem rcJ_succ (f : Nat) (b : List Int) (m c : Nat) : rcJ f b m (c + 1) = rcJ f b m c ++ rcL f (b ++ [(c : Int)]) (max m (c + 1)) := by
  unfold rcJ
  rw [List.range_succ, List.flatMap_append]
  simp
theorem rcJ_all (f : Nat) (b : List Int) (m : Nat) : rcJ f b m (m + 1) = rcL (f + 1) b m := rfl
theorem rc_pk : ∀ f, f ≤ 4 → rcL f [0] 1 = pkL (f + 1) := by decide +kernel
theorem rc_full : ∀ (f : Nat) (b : List Int) (m : Nat), b ≠ [] → ∀ P ∈ rcL f b m, P ≠ []
  | 0, b, m, hb, P, hP => by
    rw [rcL, List.mem_singleton] at hP
    rw [hP]; exact hb
  | f + 1, b, m, hb, P, hP => by
    rw [rcL, List.mem_flatMap] at hP
    obtain ⟨c, _, h⟩ := hP
    exact rc_full f _ _ (by simp) P h

/-- The invariant ones among the first j of some partitions, by their places. -/
def slI (L : List MapN) (W : List (List Int)) (n j : Nat) : List Nat := (List.range j).filter fun i => invB L (W.getD i []) n
theorem slI_yes {L : List MapN} {W : List (List Int)} {n j : Nat} (h : invB L (W.getD j []) n = true) : slI L W n (j + 1) = slI L W n j ++ [j] := by unfold slI; rw [List.range_succ, List.filter_append, List.filter_cons, if_pos h]; rfl
theorem slI_no {L : List MapN} {W : List (List Int)} {n j : Nat} (h : invB L (W.getD j []) n = false) : slI L W n (j + 1) = slI L W n j := by unfold slI; rw [List.range_succ, List.filter_append, List.filter_cons, if_neg (by rw [h]; exact Bool.false_ne_true), List.filter_nil, List.append_nil]
theorem slI_lt {L : List MapN} {W : List (List Int)} {n j i : Nat} (h : i ∈ slI L W n j) : i < j := by unfold slI at h; rw [List.mem_filter, List.mem_range] at h; exact h.1
theorem slI_len (L : List MapN) (W : List (List Int)) (n j : Nat) : (slI L W n j).length ≤ j := by
  unfold slI; exact Nat.le_trans (List.length_filter_le _ _) (by simp)
theorem slI_asc {L : List MapN} {W : List (List Int)} {n j a b : Nat} (hab : a < b) (hb : b < (slI L W n j).length) : (slI L W n j).getD a 0 < (slI L W n j).getD b 0 := by
  have hp : (slI L W n j).Pairwise (· < ·) := List.Pairwise.filter _ List.pairwise_lt_range
  rw [List.pairwise_iff_getElem] at hp
  have := hp a b (by omega) hb hab
  rw [List.getD_eq_getElem?_getD, List.getD_eq_getElem?_getD, List.getElem?_eq_getElem hb, List.getElem?_eq_getElem (by omega)]
  exact this
/-- The invariant partitions. -/
def ipL (L : List MapN) (n : Nat) : List (List Int) := (slI L (pkL n) n (pkL n).length).map fun i => (pkL n).getD i []
def ivpL (L : List MapN) : List (List Int) := if chkC L [] = 0 then ipL L (fst0 L).toNat else []

end Go.Proofs.YtpphihjbgikjkaaDoor

namespace Go.Proofs.YtpphihjbgikjkaaDoor
open Go Go.RowKit

theorem clone_nil10 (w : World) : Calls Tryd.prog 61 #[.slice none 0 0] w (RetOwn w.heap.size [] w) := by
  have hnil : ∀ w : World, (binOp .eql 36 (.slice none 0 0) (.slice none 0 0)).run Tryd.prog w = .ok (.bool true) w := fun w => by kernel_rfl
  go_enter Tryd.func61, Tryd.ntmps61
  go_wp2_with fail
  go_ret
  exact ⟨_, rfl, World.ownsRow_nil _ _ _ _, Below.refl _ _⟩

theorem clone_own {w : World} {B : Nat} {v : Value} {L : List Int} (h : Own w B v L) (hn : L.length ≤ 2000000) : Calls Tryd.prog 61 #[v] w (RetOwn w.heap.size L w) := by
  obtain ⟨a, cap, rfl, hr⟩ := own_rd h hn
  rcases own_shape h with ⟨e, hl⟩ | ⟨g, c2, e, _, _⟩
  · injection e with e1 e2 e3
    subst e1
    have : L = [] := List.length_eq_zero_iff.1 e2
    subst this
    subst e3
    exact clone_nil10 w
  · injection e with e1 e2 e3
    subst e1
    exact clone_any g 0 L.length cap L rfl hn w (own_cells7 h hn).2

set_option maxRecDepth 100000 in
set_option maxHeartbeats 8000000 in
theorem ipo_any (n : Nat) (hn : n ≤ 5) (w : World) :
    Calls Tryd.prog 45 #[.int .i64 (n : Int)] w fun e w' => ∃ v us, e = .returned v ∧ Trn w' w.heap.size v us (pkL n) ∧ Below w.heap.size w w' := by
  obtain ⟨i0, hi, hz0, hz1, hz2⟩ := info_parts info_int
  go_enter Tryd.func45, Tryd.ntmps45
  go_wp2_with fail
  go_loopw [3, 4, 5, 7, 8, 9, 12] (fun v _ _ _ _ _ i wr => ∃ (k : Nat) (us : List Value), k ≤ n ∧ i = .int .i64 (k : Int) ∧ Trn wr w.heap.size v us (pkL k) ∧ Below w.heap.size w wr) (fun _ _ _ _ _ _ i _ => n - (intOf i).toNat)
  case atStart =>
    refine ⟨0, [.slice none 0 0], by omega, rfl, ⟨⟨rfl, Or.inr ⟨_, 1, _, rfl, Nat.le_refl _, halloc_at _ _ _ rfl, Nat.le_refl _, by unfold maxLen; omega, rfl, rfl⟩⟩, fun j hj => ?_, fun i j hij hj => ?_⟩, (Below.refl _ _).alloc (Nat.le_refl _) _⟩
    · have : j = 0 := by simp [pkL] at hj; omega
      subst this
      exact World.ownsRow_nil _ _ _ _
    · simp [pkL] at hj; omega
  case round =>
    obtain ⟨k, us, hk, rfl, ht, hb⟩ := hrel
    have HT := Lib.hid ht
    have HB := Lib.hid hb
    have hsr := hb.size
    obtain ⟨av, cv, rfl⟩ := ht.form
    clear ht hb
    obtain ⟨wk, hwk⟩ : ∃ wk, wk = wr := ⟨_, rfl⟩
    subst hwk
    by_cases hkn : k < n
    · have hkn' : (k : Int) < (n : Int) := by omega
      have HPL := Lib.hid (pk_len k (by omega))
      obtain ⟨N, hN⟩ : ∃ N, N = (pkL k).length := ⟨_, rfl⟩
      have HN := Lib.hid hN
      rw [← hN] at HPL ⊢
      have hN52 := HPL.out
      clear hN
      go_wp2_with fail
      go_loopw [5, 7, 8, 9, 17] (fun v _ _ _ i wx => ∃ (j : Nat) (ul : List Value), j ≤ N ∧ i = .int .i64 (j : Int) ∧ Trw wx wk.heap.size v ul (pkJ k j) ∧ Below wk.heap.size wk wx) (fun _ _ _ _ i _ => N - (intOf i).toNat)
      case atStart =>
        refine ⟨0, [], by omega, rfl, ?_, Below.refl _ _⟩
        rw [pkJ_zero]
        exact (trn_nil _ _).trw (fun j hj => by simp at hj)
      case round =>
        obtain ⟨j, ul, hj, rfl, ht, hb⟩ := hrel
        have HTL := Lib.hid ht
        have HBL := Lib.hid hb
        have hsl := hb.size
        clear ht hb
        obtain ⟨wm, hwm⟩ : ∃ wm, wm = wr := ⟨_, rfl⟩
        subst hwm
        by_cases hjN : j < N
        · have hjN' : (j : Int) < (N : Int) := by omega
          have hjl : j < (pkL k).length := by rw [← HN.out]; exact hjN
          obtain ⟨g, cap, e, hgB, hgl, hcell, hfr⟩ := HT.out.cell hjl
          injection e with e1 e2 e3
          subst e1 e3
          have hpar := pk_par k (by omega) _ (pk_in hjl)
          have HPS := Lib.hid (pkJ_succ hjl)
          obtain ⟨P, hP⟩ : ∃ P, P = (pkL k).getD j [] := ⟨_, rfl⟩
          have hrow := HT.out.row j hjl
          rw [← hP] at hpar hrow HPS
          obtain ⟨hPl, hPo⟩ := parB_iff.1 hpar
          obtain ⟨a2, c2, hu, hrd⟩ := own_rd hrow (by omega)
          rw [hu] at hcell hrow
          rw [hPl] at hcell hrow
          have HROW := Lib.hid hrow
          have hce := (HBL.out.cell (p := ⟨g, j, none⟩) hgl).trans hcell
          have hgl2 : g < wm.heap.size := by omega
          have HCL := fun wx (hb : Below wk.heap.size wk wx) => icla_any P k (by omega) ⟨0, 0, none⟩ a2 c2 wx (hrd.inRow.below hb) (fun h => by rw [hpar] at h; cases h)
          rw [hPl] at HCL
          have HCL := Lib.hid HCL
          have HCO := Lib.hid fun wx (hb : Below wk.heap.size wk wx) => clone_own ((Turn.of_below (S := fun _ => False) hb).own HROW.out (fun _ _ h => h)) (by omega)
          have HPAR := Lib.hid hpar
          have HPLE := Lib.hid hPl
          have hnk := nxK_le P k
          have HKL := Lib.hid (clsK_len P k)
          clear hcell hu hrd hrow hP hpar hPl hPo e2
          go_wp2_with fail
          refine (HCL.out _ HBL.out).mono ?_
          intro e w4 hq
          unfold RetCla at hq
          rw [if_pos HPAR.out] at hq
          obtain ⟨v4, us4, rfl, ht4, hb4⟩ := hq
          obtain ⟨a4, c4, rfl⟩ := ht4.trn.form
          rw [HKL.out]
          have HB4 : Hid (Below wk.heap.size wk w4) := Lib.hid (HBL.out.trans (hb4.mono hsl))
          have hz4 := hb4.size
          have HT4 : Hid (Trw w4 wk.heap.size u5 ul (pkJ k j)) := Lib.hid (HTL.out.below hb4)
          clear ht4 hb4
          obtain ⟨m, hm⟩ : ∃ m, m = nxK P k := ⟨_, rfl⟩
          rw [← hm] at hnk HPS ⊢
          clear hm
          go_wp2_with fail
          go_loopw [5, 9, 27] (fun v _ i wx => ∃ (c : Nat) (ul : List Value), c ≤ m + 1 ∧ i = .int .i64 (c : Int) ∧ Trw wx wk.heap.size v ul (pkJ k j ++ exL P c) ∧ Below wk.heap.size wk wx) (fun _ _ i _ => m + 1 - (intOf i).toNat)
          case atStart =>
            refine ⟨0, ul, by omega, rfl, ?_, HB4.out⟩
            have e : pkJ k j ++ exL P 0 = pkJ k j := by simp [exL]
            rw [e]
            exact HT4.out
          case round =>
            obtain ⟨c, uc, hc, rfl, ht, hb⟩ := hrel
            have HTC := Lib.hid ht
            have hsc := hb.size
            have HBKC := Lib.hid hb
            clear ht hb
            obtain ⟨wc, hwc⟩ : ∃ wc, wc = wr := ⟨_, rfl⟩
            subst hwc
            by_cases hcm : c < m + 1
            · have hcm' : (c : Int) < (m : Int) + 1 := by omega
              have HES := Lib.hid (exL_succ P c)
              have HTN : Hid ((pkJ k j ++ exL P c).length ≤ 60) := Lib.hid (by rw [List.length_append, exL_len]; have := pkJ_len (k := k) j (by omega); omega)
              go_wp2_with fail
              refine (HCO.out _ HBKC.out).mono ?_
              rintro e w5 ⟨v5, rfl, hown5, hb5⟩
              have HO5 := Lib.hid hown5
              have HB5 := Lib.hid hb5
              have hz5 := hb5.size
              have hl5 := HPLE.out
              have HL5 := Lib.hid hl5
              clear hown5 hb5 hl5
              go_wp2_with (first
                | (at_builtin; refine wpList_append_own_at _ rfl _ _ 36 rfl wc.heap.size 2 i0 (.int .i64 0) 1 8 Tryd.underlying36 hi hz0 hz1 hz2 rfl (by decide) v5 P.length (P.map (Value.int .i64)) rfl (World.ownsRow.alloc HO5.out _) ⟨w5.heap.size, 0, none⟩ 1 1 [.int .i64 (c : Int)] rfl rfl (cell_one_new _ _ _) (by intro u hu; simp at hu; subst hu; rfl) (by rw [HL5.out]; unfold maxLen; omega) (by rw [HL5.out]; omega) (by simp; omega) ?_; intro v6 w6 ho6 hg6 _ _; have HO6 : Hid (Own w6 wc.heap.size v6 (P ++ [(c : Int)])) := Lib.hid (by unfold Own; simpa using ho6); obtain ⟨gu, cu, rfl, hgu1, hgu2⟩ := own_blk HO6.out (by simp); have HB6 : Hid (Below wc.heap.size wc w6) := Lib.hid ((HB5.out.alloc (by omega) _).grown hg6 (by simp; omega) (fun r e => (HO5.out.lt r e).1)); have hs6 := HB6.out.size; have HT6 : Hid (Trw w6 wk.heap.size u5 uc (pkJ k j ++ exL P c)) := Lib.hid (HTC.out.below HB6.out); have HNW : Hid (∀ i, i < (pkJ k j ++ exL P c).length → (uc.getD i undef).ownBlock ≠ (Value.slice (some ⟨gu, 0, none⟩) (P ++ [(c : Int)]).length cu).ownBlock) := Lib.hid (fun i hi e => by obtain ⟨g2, c2, e2, _, hl2⟩ := own_blk (HTC.out.row i hi) (HTC.out.full i hi); rw [e2] at e; simp [Value.ownBlock] at e; omega); clear ho6 hg6)
                | (at_builtin; refine wpList_appT rfl _ _ rfl wk.heap.size _ uc (pkJ k j ++ exL P c) rfl (HT6.out.below ((Below.refl _ _).alloc (Nat.le_refl _) _)) w6.heap.size 1 (.slice (some ⟨gu, 0, none⟩) (P ++ [(c : Int)]).length cu) (P ++ [(c : Int)]) ((Turn.of_below (S := fun _ => False) ((Below.refl _ _).alloc (Nat.le_refl _) _)).own (Joins.ownsRow_le HO6.out (by omega)) (fun _ _ h => h)) (by simp) HNW.out rfl (by simpa using halloc_at w6 (.cells #[.slice (some ⟨gu, 0, none⟩) (P ++ [(c : Int)]).length cu] 36) _ rfl) (by have := HTN.out; omega) (by simp; omega) ?_; intro v7 w7 ho7 hg7; have HO7 := Lib.hid ho7; have HB7 : Hid (Below wk.heap.size wk w7) := Lib.hid (((HBKC.out.trans (HB6.out.mono hsc)).alloc (by omega) _).grown hg7 (by simp; omega) (fun r e => (World.ownsRow.lt HT6.out.own r e).1)); clear ho7 hg7))
              go_roundw
              case rel => exact ⟨c + 1, _, by omega, by go_num, by rw [HES.out, ← List.append_assoc]; exact HO7.out, HB7.out⟩
              case measure => simp [intOf]; omega
            · obtain rfl : c = m + 1 := by omega
              have hcm' : ¬ (((m + 1 : Nat) : Int) < (m : Int) + 1) := by omega
              rw [← HPS.out] at HTC
              go_wp2_with fail
              go_roundw
              case rel => exact ⟨j + 1, uc, by omega, by go_num, HTC.out, HBKC.out⟩
              case measure => simp [intOf]; omega
        · obtain rfl : j = N := by omega
          have hjN' : ¬ ((j : Int) < (j : Int)) := by omega
          have hpa := pkJ_all k
          rw [← HN.out] at hpa
          rw [hpa] at HTL
          clear hpa
          go_wp2_with fail
          go_roundw
          case rel => exact ⟨k + 1, ul, by omega, by go_num, (HTL.out.low hsr).trn, HB.out.trans (HBL.out.mono hsr)⟩
          case measure => simp [intOf]; omega
    · obtain rfl : k = n := by omega
      have hkn' : ¬ ((k : Int) < (k : Int)) := by omega
      go_wp2_with fail
      go_ret
      exact ⟨_, rfl, ⟨us, HT.out⟩, HB.out⟩

end Go.Proofs.YtpphihjbgikjkaaDoor

namespace Go.Proofs.YtpphihjbgikjkaaDoor
open Go Go.RowKit

theorem map_at {A B : Type} {f : A → B} {l : List A} {j : Nat} {d : A} {e : B} (h : j < l.length) : (l.map f).getD j e = f (l.getD j d) := by
  rw [List.getD_eq_getElem?_getD, List.getElem?_map, List.getD_eq_getElem?_getD, List.getElem?_eq_getElem h]
  rfl

/-- Some rows of a list in another list. -/
theorem Trw.sel {w : World} {B B2 : Nat} {v0 v : Value} {us : List Value} {W : List (List Int)} {s : List Nat} (h : Trw w B v0 us W) (hB : B ≤ B2) (ho : w.ownsRow B2 36 1 v s.length (s.map fun i => us.getD i undef))
    (hs : ∀ i ∈ s, i < W.length) (ha : ∀ a b, a < b → b < s.length → s.getD a 0 < s.getD b 0) : Trw w B v (s.map fun i => us.getD i undef) (s.map fun i => W.getD i []) := by
  have hin : ∀ j, j < s.length → s.getD j 0 < W.length := fun j hj => by
    rw [List.getD_eq_getElem?_getD, List.getElem?_eq_getElem hj]
    exact hs _ (List.getElem_mem hj)
  refine ⟨by rw [List.length_map]; exact Joins.ownsRow_le ho hB, fun j hj => ?_, fun j hj => ?_, fun i j hij hj => ?_⟩
  · rw [List.length_map] at hj
    rw [map_at (d := 0) hj, map_at (d := 0) hj]
    exact h.row _ (hin j hj)
  · rw [List.length_map] at hj
    rw [map_at (d := 0) hj]
    exact h.full _ (hin j hj)
  · rw [List.length_map] at hj
    rw [map_at (d := 0) (by omega), map_at (d := 0) hj]
    exact h.ne _ _ (ha i j hij hj) (hin j hj)

theorem ip_mk (L : List MapN) {n : Nat} (hn : n ≤ 5) : mkF (ipL L n) 1 ≤ 20000000 := by
  have hl := pk_len n hn
  have hs := slI_len L (pkL n) n (pkL n).length
  have h1 := mkF_le 5 (ipL L n) 1 (fun X hX => by
    unfold ipL at hX
    obtain ⟨i, hi, rfl⟩ := List.mem_map.1 hX
    have := (parB_iff.1 (pk_par n hn _ (pk_in (slI_lt hi)))).1
    omega)
  have h2 : (ipL L n).length ≤ 52 := by unfold ipL; rw [List.length_map]; omega
  omega

theorem ip_row (L : List MapN) {n : Nat} (hn : n ≤ 5) (j : Nat) (hj : j < (ipL L n).length) : ((ipL L n).getD j []).length ≤ 5 := by
  unfold ipL at hj ⊢
  rw [List.length_map] at hj
  rw [map_at (d := 0) hj]
  have hi : (slI L (pkL n) n (pkL n).length).getD j 0 < (pkL n).length := by
    rw [List.getD_eq_getElem?_getD, List.getElem?_eq_getElem hj]
    exact slI_lt (List.getElem_mem hj)
  have := (parB_iff.1 (pk_par n hn _ (pk_in hi))).1
  omega

theorem iip_par {L : List MapN} {P : List Int} {n : Nat} (hc : chkC L [] = 0) (hn : fst0 L = (n : Int)) (hp : parB P n = true) : iipV L P = .tuple #[.bool (invB L P n), .int .i64 0] := by
  have h1 := ptC_good hc hn hp
  unfold iipV iipB locC
  rw [if_pos h1, h1, hn, Int.toNat_natCast]
  cases invB L P n <;> rfl

set_option maxRecDepth 100000 in
set_option maxHeartbeats 8000000 in
theorem iIvp_any (L : List MapN) (hl1 : L.length ≤ 1048576) (a : Option Addr) (cap : Nat) (hc1 : a = none → cap = 0) (w : World) (hr : InRowM w a L) (hE : Er w) :
    Calls Tryd.prog 25 #[.slice a L.length cap] w (RetT w.heap.size (ivpL L) (chkC L []) w) := by
  obtain ⟨i0, hi, hz0, hz1, hz2⟩ := info_parts info_sl
  have HG := Lib.hid (check_any a none cap 0 L [] hc1 (fun _ => rfl) hl1 (by simp) w hr (Or.inl rfl))
  by_cases hC : chkC L [] = 0
  · obtain ⟨n, hok, hn⟩ := LOk.of hC
    have hsp : ivpL L = ipL L n := by unfold ivpL; rw [if_pos hC, hn, Int.toNat_natCast]
    rw [hsp, hC]
    rw [hC] at HG
    have hn5 := hok.n5
    have hn1 := hok.n1
    have hl : 0 < L.length := by have := hok.len1; omega
    have hl' : (0 : Int) < (L.length : Int) := by omega
    have HIP := Lib.hid fun P (hp : parB P n = true) hP a2 c2 wx (hb : Below w.heap.size w wx) h2 => (by
      have h := iIip_any L hl1 P hP a cap hc1 a2 c2 wx (hr.below hb) h2 (hE.bel hb)
      rw [iip_par hC hn hp] at h
      exact h : Calls Tryd.prog 22 #[.slice a L.length cap, .slice a2 P.length c2] wx fun e w' => e = .returned (.tuple #[.bool (invB L P n), .int .i64 0]) ∧ Below wx.heap.size wx w')
    obtain ⟨b, off, rfl, hbl, hat⟩ := hr.at0 hl
    have h0 := hat.1
    rw [hok.pts 0 hl] at h0
    have HPO := Lib.hid fun w => ipo_any n hn5 w
    clear hr hE hC hok hn hat hsp
    obtain ⟨RT, hRT⟩ : ∃ RT, RT = RetT w.heap.size (ipL L n) 0 w := ⟨_, rfl⟩
    have HRT := Lib.hid hRT
    rw [← hRT]
    clear hRT
    go_enter Tryd.func25, Tryd.ntmps25
    go_wp2_with fail
    refine HG.out.mono ?_
    rintro e w1 ⟨rfl, hb⟩
    have HB1 := Lib.hid hb
    have hx := (hb.cell (p := ⟨b, off, none⟩) hbl).trans h0
    have hz1' := hb.size
    clear hb h0
    go_wp2_with fail
    refine (HPO.out _).mono ?_
    rintro e w2 ⟨v, us, rfl, ht, hb⟩
    have HTB := Lib.hid (ht.trw (fun j hj => by
      have := (parB_iff.1 (pk_par n hn5 _ (pk_in hj))).1
      intro e
      rw [e] at this
      simp at this
      omega))
    obtain ⟨av, cv, rfl⟩ := ht.form
    have HB2 : Hid (Below w.heap.size w w2) := Lib.hid (HB1.out.trans (hb.mono hz1'))
    have hz2' := hb.size
    have HPL := Lib.hid (pk_len n hn5)
    obtain ⟨N, hN⟩ : ∃ N, N = (pkL n).length := ⟨_, rfl⟩
    have HN := Lib.hid hN
    rw [← hN] at HPL HTB ⊢
    have hN52 := HPL.out
    clear hN ht hb
    go_wp2_with fail
    go_loopw [5, 7, 8, 9, 21] (fun v _ _ _ i wr => ∃ j : Nat, j ≤ N ∧ i = .int .i64 (j : Int) ∧ wr.ownsRow w2.heap.size 36 1 v (slI L (pkL n) n j).length ((slI L (pkL n) n j).map fun i => us.getD i undef) ∧ Below w2.heap.size w2 wr) (fun _ _ _ _ i _ => N - (intOf i).toNat)
    case atStart => exact ⟨0, by omega, rfl, World.ownsRow_nil _ _ _ _, Below.refl _ _⟩
    case round =>
      obtain ⟨j, hj, rfl, hown, hb⟩ := hrel
      have HO := Lib.hid hown
      have HB := Lib.hid hb
      have hsr := hb.size
      have HBW : Hid (Below w.heap.size w wr) := Lib.hid (HB2.out.trans (hb.mono (by omega)))
      clear hown hb
      obtain ⟨wo, hwo⟩ : ∃ wo, wo = wr := ⟨_, rfl⟩
      subst hwo
      have HSL := Lib.hid (slI_len L (pkL n) n j)
      by_cases hjN : j < N
      · have hjN' : (j : Int) < (N : Int) := by omega
        have hjl : j < (pkL n).length := by rw [← HN.out]; exact hjN
        obtain ⟨g, cap4, e, hgB, hgl, hcell, hfr⟩ := HTB.out.trn.cell hjl
        injection e with e1 e2 e3
        subst e1 e3
        have hpar := pk_par n hn5 _ (pk_in hjl)
        have hrow := HTB.out.row j hjl
        have HSY := Lib.hid fun h => slI_yes (L := L) (W := pkL n) (n := n) (j := j) h
        have HSN := Lib.hid fun h => slI_no (L := L) (W := pkL n) (n := n) (j := j) h
        obtain ⟨P, hP⟩ : ∃ P, P = (pkL n).getD j [] := ⟨_, rfl⟩
        rw [← hP] at hpar hrow HSY HSN
        have hPl := (parB_iff.1 hpar).1
        obtain ⟨a2, c2, hu, hrd⟩ := own_rd hrow (by omega)
        have HU := Lib.hid hu
        rw [hu] at hcell
        have hce := (HB.out.cell (p := ⟨g, j, none⟩) hgl).trans hcell
        have hgl2 : g < wo.heap.size := by omega
        have HIQ := Lib.hid (HIP.out P hpar (by omega) a2 c2 wo HBW.out (hrd.inRow.below HB.out))
        clear hcell hu hrd hrow hP hpar hPl e2
        cases hiv : invB L P n
        · rw [hiv] at HIQ
          have HS2 := Lib.hid (HSN.out hiv)
          clear hiv HSY HSN
          go_wp2_with fail
          refine HIQ.out.mono ?_
          rintro e w5 ⟨rfl, hb5⟩
          have HB5 : Hid (Below w2.heap.size w2 w5) := Lib.hid (HB.out.trans (hb5.mono hsr))
          have HO5 : Hid (w5.ownsRow w2.heap.size 36 1 u5 (slI L (pkL n) n j).length ((slI L (pkL n) n j).map fun i => us.getD i undef)) := Lib.hid ((Turn.of_below (S := fun _ => False) hb5).own HO.out (fun _ _ h => h))
          clear hb5
          go_wp2_with fail
          go_roundw
          case rel => exact ⟨j + 1, by omega, by go_num, by rw [HS2.out]; exact HO5.out, HB5.out⟩
          case measure => simp [intOf]; omega
        · rw [hiv] at HIQ
          have HS2 := Lib.hid (HSY.out hiv)
          clear hiv HSY HSN
          go_wp2_with fail
          refine HIQ.out.mono ?_
          rintro e w5 ⟨rfl, hb5⟩
          have HB5 : Hid (Below w2.heap.size w2 w5) := Lib.hid (HB.out.trans (hb5.mono hsr))
          have hz5 := hb5.size
          have HO5 : Hid (w5.ownsRow w2.heap.size 36 1 u5 (slI L (pkL n) n j).length ((slI L (pkL n) n j).map fun i => us.getD i undef)) := Lib.hid ((Turn.of_below (S := fun _ => False) hb5).own HO.out (fun _ _ h => h))
          clear hb5
          go_wp2_with (at_builtin; refine wpList_append_own _ rfl _ _ 24 rfl w2.heap.size 36 i0 _ 1 24 Tryd.underlying24 hi hz0 hz1 hz2 rfl (by decide) u5 _ _ rfl (World.ownsRow.alloc HO5.out _) ⟨w5.heap.size, 0, none⟩ 1 1 [.slice a2 P.length c2] rfl rfl (cell_one8 (halloc_at _ _ _ rfl)) (by intro u hu; simp at hu; subst hu; rfl) (by have := HSL.out; unfold maxLen; omega) (by have := HSL.out; omega) (by simp; omega) ?_; intro v6 w6 ho6 hg6 _)
          have HO6 : Hid (w6.ownsRow w2.heap.size 36 1 v6 (slI L (pkL n) n (j + 1)).length ((slI L (pkL n) n (j + 1)).map fun i => us.getD i undef)) := Lib.hid (by
            rw [HS2.out, List.length_append, List.map_append]
            have e : List.map (fun i => us.getD i undef) [j] = [.slice a2 P.length c2] := by rw [List.map_cons, HU.out]; rfl
            rw [e]
            exact ho6)
          have HB6 : Hid (Below w2.heap.size w2 w6) := Lib.hid ((HB5.out.alloc (by omega) _).grown hg6 (by simp; omega) (fun r e => (HO5.out.lt r e).1))
          clear ho6 hg6
          go_roundw
          case rel => exact ⟨j + 1, by omega, by go_num, HO6.out, HB6.out⟩
          case measure => simp [intOf]; omega
      · obtain rfl : j = N := by omega
        have hjN' : ¬ ((j : Int) < (j : Int)) := by omega
        have HSE := (HTB.out.below HB.out).sel (s := slI L (pkL n) n j) (by omega) HO.out (fun i h => by rw [← HN.out]; exact slI_lt h) (fun a b hab hb => slI_asc hab hb)
        rw [HN.out] at HSE
        have hip : (slI L (pkL n) n (pkL n).length).map (fun i => (pkL n).getD i []) = ipL L n := rfl
        rw [hip] at HSE
        have hlen : (ipL L n).length ≤ 52 := by unfold ipL; rw [List.length_map]; have := slI_len L (pkL n) n (pkL n).length; have := HN.out; omega
        obtain ⟨a4, c4, hv4, hrt⟩ := HSE.rdT (by omega) (fun j hj => by have := ip_row L hn5 j hj; omega)
        have HRV := Lib.hid hrt
        rw [hv4]
        clear HSE hip hrt hv4
        go_wp2_with fail
        rw [HRT.out]
        exact retT_of rfl HRV.out (by omega) (ip_mk L hn5) HBW.out
  · have hsp : ivpL L = [] := by unfold ivpL; rw [if_neg hC]
    rw [hsp]
    have hne : (chkC L [] != 0) = true := by simpa using hC
    clear hr hE hC hsp
    generalize chkC L [] = C at *
    go_enter Tryd.func25, Tryd.ntmps25
    go_wp2_with fail
    refine HG.out.mono ?_
    rintro e w1 ⟨rfl, hb⟩
    have HB1 := Lib.hid hb
    clear hb
    go_wp2_with fail
    go_ret2
    exact retT_nil HB1.out _

end Go.Proofs.YtpphihjbgikjkaaDoor
