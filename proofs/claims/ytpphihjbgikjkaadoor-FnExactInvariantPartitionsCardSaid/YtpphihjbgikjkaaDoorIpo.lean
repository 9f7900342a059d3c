/- The contract of impl.partitionsOf. -/
import Derived.Test.YtpphihjbgikjkaaDoorPkl
import Derived.Test.YtpphihjbgikjkaaDoorBhd
import Derived.Test.YtpphihjbgikjkaaDoorClone
import Derived.Test.YtpphihjbgikjkaaDoorOwy
namespace Go.Proofs.YtpphihjbgikjkaaDoor
open Go Go.RowKit

theorem clone_nil10 (w : World) : Calls Tryd.prog 61 #[.slice none 0 0] w (RetOwn w.heap.size [] w) := by
  have hnil : ∀ w : World, (binOp .eql 36 (.slice none 0 0) (.slice none 0 0)).run Tryd.prog w = .ok (.bool true) w := fun w => by kernel_rfl
  go_enter Tryd.func61, Tryd.ntmps61
  go_wp2_with fail
  go_ret
  exact ⟨_, rfl, World.ownsRow_nil _ _ _ _, Below.refl _ _⟩

theorem clone_own {w : World} {B : Nat} {v : Value} {L : List Int} (h : Own w B v L) (hn : L.length ≤ 2000000) : Calls Tryd.prog 61 #[v] w (RetOwn w.heap.size L w) := by
  obtain ⟨a, cap, rfl, hr⟩ := own_rd h hn
  rcases own_shape h with ⟨e, hl⟩ | ⟨g, c2, e, _, _⟩
  · injection e with e1 e2 e3
    subst e1
    have : L = [] := List.length_eq_zero_iff.1 e2
    subst this
    subst e3
    exact clone_nil10 w
  · injection e with e1 e2 e3
    subst e1
    exact clone_any g 0 L.length cap L rfl hn w (own_cells7 h hn).2

set_option maxRecDepth 100000 in
set_option maxHeartbeats 8000000 in
theorem ipo_any (n : Nat) (hn : n ≤ 5) (w : World) :
    Calls Tryd.prog 45 #[.int .i64 (n : Int)] w fun e w' => ∃ v us, e = .returned v ∧ Trn w' w.heap.size v us (pkL n) ∧ Below w.heap.size w w' := by
  obtain ⟨i0, hi, hz0, hz1, hz2⟩ := info_parts info_int
  go_enter Tryd.func45, Tryd.ntmps45
  go_wp2_with fail
  go_loopw [3, 4, 5, 7, 8, 9, 12] (fun v _ _ _ _ _ i wr => ∃ (k : Nat) (us : List Value), k ≤ n ∧ i = .int .i64 (k : Int) ∧ Trn wr w.heap.size v us (pkL k) ∧ Below w.heap.size w wr) (fun _ _ _ _ _ _ i _ => n - (intOf i).toNat)
  case atStart =>
    refine ⟨0, [.slice none 0 0], by omega, rfl, ⟨⟨rfl, Or.inr ⟨_, 1, _, rfl, Nat.le_refl _, halloc_at _ _ _ rfl, Nat.le_refl _, by unfold maxLen; omega, rfl, rfl⟩⟩, fun j hj => ?_, fun i j hij hj => ?_⟩, (Below.refl _ _).alloc (Nat.le_refl _) _⟩
    · have : j = 0 := by simp [pkL] at hj; omega
      subst this
      exact World.ownsRow_nil _ _ _ _
    · simp [pkL] at hj; omega
  case round =>
    obtain ⟨k, us, hk, rfl, ht, hb⟩ := hrel
    have HT := Lib.hid ht
    have HB := Lib.hid hb
    have hsr := hb.size
    obtain ⟨av, cv, rfl⟩ := ht.form
    clear ht hb
    obtain ⟨wk, hwk⟩ : ∃ wk, wk = wr := ⟨_, rfl⟩
    subst hwk
    by_cases hkn : k < n
    · have hkn' : (k : Int) < (n : Int) := by omega
      have HPL := Lib.hid (pk_len k (by omega))
      obtain ⟨N, hN⟩ : ∃ N, N = (pkL k).length := ⟨_, rfl⟩
      have HN := Lib.hid hN
      rw [← hN] at HPL ⊢
      have hN52 := HPL.out
      clear hN
      go_wp2_with fail
      go_loopw [5, 7, 8, 9, 17] (fun v _ _ _ i wx => ∃ (j : Nat) (ul : List Value), j ≤ N ∧ i = .int .i64 (j : Int) ∧ Trw wx wk.heap.size v ul (pkJ k j) ∧ Below wk.heap.size wk wx) (fun _ _ _ _ i _ => N - (intOf i).toNat)
      case atStart =>
        refine ⟨0, [], by omega, rfl, ?_, Below.refl _ _⟩
        rw [pkJ_zero]
        exact (trn_nil _ _).trw (fun j hj => by simp at hj)
      case round =>
        obtain ⟨j, ul, hj, rfl, ht, hb⟩ := hrel
        have HTL := Lib.hid ht
        have HBL := Lib.hid hb
        have hsl := hb.size
        clear ht hb
        obtain ⟨wm, hwm⟩ : ∃ wm, wm = wr := ⟨_, rfl⟩
        subst hwm
        by_cases hjN : j < N
        · have hjN' : (j : Int) < (N : Int) := by omega
          have hjl : j < (pkL k).length := by rw [← HN.out]; exact hjN
          obtain ⟨g, cap, e, hgB, hgl, hcell, hfr⟩ := HT.out.cell hjl
          injection e with e1 e2 e3
          subst e1 e3
          have hpar := pk_par k (by omega) _ (pk_in hjl)
          have HPS := Lib.hid (pkJ_succ hjl)
          obtain ⟨P, hP⟩ : ∃ P, P = (pkL k).getD j [] := ⟨_, rfl⟩
          have hrow := HT.out.row j hjl
          rw [← hP] at hpar hrow HPS
          obtain ⟨hPl, hPo⟩ := parB_iff.1 hpar
          obtain ⟨a2, c2, hu, hrd⟩ := own_rd hrow (by omega)
          rw [hu] at hcell hrow
          rw [hPl] at hcell hrow
          have HROW := Lib.hid hrow
          have hce := (HBL.out.cell (p := ⟨g, j, none⟩) hgl).trans hcell
          have hgl2 : g < wm.heap.size := by omega
          have HCL := fun wx (hb : Below wk.heap.size wk wx) => icla_any P k (by omega) ⟨0, 0, none⟩ a2 c2 wx (hrd.inRow.below hb) (fun h => by rw [hpar] at h; cases h)
          rw [hPl] at HCL
          have HCL := Lib.hid HCL
          have HCO := Lib.hid fun wx (hb : Below wk.heap.size wk wx) => clone_own ((Turn.of_below (S := fun _ => False) hb).own HROW.out (fun _ _ h => h)) (by omega)
          have HPAR := Lib.hid hpar
          have HPLE := Lib.hid hPl
          have hnk := nxK_le P k
          have HKL := Lib.hid (clsK_len P k)
          clear hcell hu hrd hrow hP hpar hPl hPo e2
          go_wp2_with fail
          refine (HCL.out _ HBL.out).mono ?_
          intro e w4 hq
          unfold RetCla at hq
          rw [if_pos HPAR.out] at hq
          obtain ⟨v4, us4, rfl, ht4, hb4⟩ := hq
          obtain ⟨a4, c4, rfl⟩ := ht4.trn.form
          rw [HKL.out]
          have HB4 : Hid (Below wk.heap.size wk w4) := Lib.hid (HBL.out.trans (hb4.mono hsl))
          have hz4 := hb4.size
          have HT4 : Hid (Trw w4 wk.heap.size u5 ul (pkJ k j)) := Lib.hid (HTL.out.below hb4)
          clear ht4 hb4
          obtain ⟨m, hm⟩ : ∃ m, m = nxK P k := ⟨_, rfl⟩
          rw [← hm] at hnk HPS ⊢
          clear hm
          go_wp2_with fail
          go_loopw [5, 9, 27] (fun v _ i wx => ∃ (c : Nat) (ul : List Value), c ≤ m + 1 ∧ i = .int .i64 (c : Int) ∧ Trw wx wk.heap.size v ul (pkJ k j ++ exL P c) ∧ Below wk.heap.size wk wx) (fun _ _ i _ => m + 1 - (intOf i).toNat)
          case atStart =>
            refine ⟨0, ul, by omega, rfl, ?_, HB4.out⟩
            have e : pkJ k j ++ exL P 0 = pkJ k j := by simp [exL]
            rw [e]
            exact HT4.out
          case round =>
            obtain ⟨c, uc, hc, rfl, ht, hb⟩ := hrel
            have HTC := Lib.hid ht
            have hsc := hb.size
            have HBKC := Lib.hid hb
            clear ht hb
            obtain ⟨wc, hwc⟩ : ∃ wc, wc = wr := ⟨_, rfl⟩
            subst hwc
            by_cases hcm : c < m + 1
            · have hcm' : (c : Int) < (m : Int) + 1 := by omega
              have HES := Lib.hid (exL_succ P c)
              have HTN : Hid ((pkJ k j ++ exL P c).length ≤ 60) := Lib.hid (by rw [List.length_append, exL_len]; have := pkJ_len (k := k) j (by omega); omega)
              go_wp2_with fail
              refine (HCO.out _ HBKC.out).mono ?_
              rintro e w5 ⟨v5, rfl, hown5, hb5⟩
              have HO5 := Lib.hid hown5
              have HB5 := Lib.hid hb5
              have hz5 := hb5.size
              have hl5 := HPLE.out
              have HL5 := Lib.hid hl5
              clear hown5 hb5 hl5
              go_wp2_with (first
                | (at_builtin; refine wpList_append_own_at _ rfl _ _ 36 rfl wc.heap.size 2 i0 (.int .i64 0) 1 8 Tryd.underlying36 hi hz0 hz1 hz2 rfl (by decide) v5 P.length (P.map (Value.int .i64)) rfl (World.ownsRow.alloc HO5.out _) ⟨w5.heap.size, 0, none⟩ 1 1 [.int .i64 (c : Int)] rfl rfl (cell_one_new _ _ _) (by intro u hu; simp at hu; subst hu; rfl) (by rw [HL5.out]; unfold maxLen; omega) (by rw [HL5.out]; omega) (by simp; omega) ?_; intro v6 w6 ho6 hg6 _ _; have HO6 : Hid (Own w6 wc.heap.size v6 (P ++ [(c : Int)])) := Lib.hid (by unfold Own; simpa using ho6); obtain ⟨gu, cu, rfl, hgu1, hgu2⟩ := own_blk HO6.out (by simp); have HB6 : Hid (Below wc.heap.size wc w6) := Lib.hid ((HB5.out.alloc (by omega) _).grown hg6 (by simp; omega) (fun r e => (HO5.out.lt r e).1)); have hs6 := HB6.out.size; have HT6 : Hid (Trw w6 wk.heap.size u5 uc (pkJ k j ++ exL P c)) := Lib.hid (HTC.out.below HB6.out); have HNW : Hid (∀ i, i < (pkJ k j ++ exL P c).length → (uc.getD i undef).ownBlock ≠ (Value.slice (some ⟨gu, 0, none⟩) (P ++ [(c : Int)]).length cu).ownBlock) := Lib.hid (fun i hi e => by obtain ⟨g2, c2, e2, _, hl2⟩ := own_blk (HTC.out.row i hi) (HTC.out.full i hi); rw [e2] at e; simp [Value.ownBlock] at e; omega); clear ho6 hg6)
                | (at_builtin; refine wpList_appT rfl _ _ rfl wk.heap.size _ uc (pkJ k j ++ exL P c) rfl (HT6.out.below ((Below.refl _ _).alloc (Nat.le_refl _) _)) w6.heap.size 1 (.slice (some ⟨gu, 0, none⟩) (P ++ [(c : Int)]).length cu) (P ++ [(c : Int)]) ((Turn.of_below (S := fun _ => False) ((Below.refl _ _).alloc (Nat.le_refl _) _)).own (Joins.ownsRow_le HO6.out (by omega)) (fun _ _ h => h)) (by simp) HNW.out rfl (by simpa using halloc_at w6 (.cells #[.slice (some ⟨gu, 0, none⟩) (P ++ [(c : Int)]).length cu] 36) _ rfl) (by have := HTN.out; omega) (by simp; omega) ?_; intro v7 w7 ho7 hg7; have HO7 := Lib.hid ho7; have HB7 : Hid (Below wk.heap.size wk w7) := Lib.hid (((HBKC.out.trans (HB6.out.mono hsc)).alloc (by omega) _).grown hg7 (by simp; omega) (fun r e => (World.ownsRow.lt HT6.out.own r e).1)); clear ho7 hg7))
              go_roundw
              case rel => exact ⟨c + 1, _, by omega, by go_num, by rw [HES.out, ← List.append_assoc]; exact HO7.out, HB7.out⟩
              case measure => simp [intOf]; omega
            · obtain rfl : c = m + 1 := by omega
              have hcm' : ¬ (((m + 1 : Nat) : Int) < (m : Int) + 1) := by omega
              rw [← HPS.out] at HTC
              go_wp2_with fail
              go_roundw
              case rel => exact ⟨j + 1, uc, by omega, by go_num, HTC.out, HBKC.out⟩
              case measure => simp [intOf]; omega
        · obtain rfl : j = N := by omega
          have hjN' : ¬ ((j : Int) < (j : Int)) := by omega
          have hpa := pkJ_all k
          rw [← HN.out] at hpa
          rw [hpa] at HTL
          clear hpa
          go_wp2_with fail
          go_roundw
          case rel => exact ⟨k + 1, ul, by omega, by go_num, (HTL.out.low hsr).trn, HB.out.trans (HBL.out.mono hsr)⟩
          case measure => simp [intOf]; omega
    · obtain rfl : k = n := by omega
      have hkn' : ¬ ((k : Int) < (k : Int)) := by omega
      go_wp2_with fail
      go_ret
      exact ⟨_, rfl, ⟨us, HT.out⟩, HB.out⟩

end Go.Proofs.YtpphihjbgikjkaaDoor
