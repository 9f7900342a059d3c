/- The contract of spec.l10Put: a set put in at its place. -/
import Derived.Test.YtpphihjbgikjkaaSbf
import Derived.Test.YtpphihjbgikjkaaOwn
import Derived.Test.YtpphihjbgikjkaaOio
import Derived.Test.YtpphihjbgikjkaaSl
import Derived.Test.YtpphihjbgikjkaaTurn
import Derived.Test.YtpphihjbgikjkaaTrw
namespace Go.Proofs.Ytpphihjbgikjkaa
open Go Go.RowKit

theorem own_cellS {w : World} {B g n cap i : Nat} {L : List Int} (h : Own w B (.slice (some ⟨g, 0, none⟩) n cap) L) (hL : L.length ≤ 2000000) (hi : i < L.length) : w.cell? ⟨g, i, none⟩ = some (.int .i64 (L.getD i 0)) ∧ w.frozen? ⟨g, i, none⟩ = false := by
  obtain ⟨a, c, e, hr⟩ := own_rd h hL
  injection e with e _ _
  subst e
  obtain ⟨k, ea, _, _, hc⟩ := hr.2.resolve_left (fun e0 => by rw [e0] at hi; simp at hi)
  injection ea with ea
  injection ea with ea
  subst ea
  exact hc i hi

set_option maxRecDepth 100000 in
set_option maxHeartbeats 4000000 in
theorem sput_any (S : List Nat) (x : Nat) (hx : x < 32) (h32 : ∀ m ∈ S, m < 32) (hk : kso S) (hnew : x ∉ S) (hS : S.length ≤ 32) (B g c : Nat) (w : World) (hown : Own w B (.slice (some ⟨g, 0, none⟩) S.length c) (inJ S)) :
    Calls Try.prog 42 #[.slice (some ⟨g, 0, none⟩) S.length c, .int .i64 (x : Int)] w fun e w' => ∃ (v : Value) (M : List Nat), e = .returned v ∧ M.Perm (S ++ [x]) ∧ kso M ∧ Own w' w.heap.size v (inJ M) ∧ Below w.heap.size w w' := by
  obtain ⟨i0, hi, hz0, hz1, hz2⟩ := info_parts info_int
  have hgl : g < w.heap.size := (hown.lt g rfl).2
  have hil := inJ_len S
  have hmc : S.length ≤ c ∧ c ≤ maxLen := by
    rcases hown.2 with ⟨h, _⟩ | ⟨g', cap', cur, h1, _, _, hn, hcm, _⟩
    · cases h
    · injection h1 with _ _ h3
      rw [hil] at hn
      rw [h3]; exact ⟨hn, hcm⟩
  have hcs : ∀ i, i < S.length → w.cell? ⟨g, i, none⟩ = some (.int .i64 (S.getD i 0 : Int)) := fun i hi => by
    have h := (own_cellS hown (by rw [hil]; omega) (i := i) (by rw [hil]; exact hi)).1
    rw [inJ_at S i hi] at h
    exact h
  have HOWN : Hid (∀ j, j ≤ S.length → ∀ wx, Below w.heap.size w wx → Calls Try.prog 65 #[.slice (some ⟨g, 0, none⟩) j c] wx (RetOwn wx.heap.size ((inJ S).take j) wx)) := Lib.hid fun j hj wx hb =>
    own_any g 0 j c ((inJ S).take j) (by simp [hil]; omega) (by omega) wx (by have := hb.size; omega) fun i hi => by
      rw [Nat.zero_add, hb.cell (p := ⟨g, i, none⟩) hgl, hcs i (by omega), ← inJ_at S i (by omega)]
      simp [List.getD_eq_getElem?_getD, hi]
  have HNE : Hid (∀ j, j ≤ S.length → ∃ o, (if c = j then (some ⟨g, 0, none⟩ : Option Addr) else some ⟨g, j, none⟩) = some ⟨g, o, none⟩ ∧ Hid (∀ wx, Below w.heap.size w wx → ∀ k u, (((inJ S).drop j).map (Value.int .i64))[k]? = some u → wx.cell? ((⟨g, o, none⟩ : Addr).add k) = some u)) := Lib.hid fun j hj => by
    by_cases e : c = j
    · refine ⟨0, if_pos e, Lib.hid fun wx hb k u hu => ?_⟩
      rw [List.drop_of_length_le (by rw [hil]; omega)] at hu
      simp at hu
    · refine ⟨j, if_neg e, Lib.hid fun wx hb => cells_list fun i hi => ?_⟩
      have hi' : j + i < S.length := by simp [hil] at hi; omega
      rw [hb.cell (p := ⟨g, j + i, none⟩) hgl, hcs (j + i) hi', ← inJ_at S _ hi']
      simp [List.getD_eq_getElem?_getD, List.getElem?_drop]
  have HCS := Lib.hid hcs
  have H32 := Lib.hid h32
  have HK := Lib.hid hk
  have HNEW := Lib.hid hnew
  have HIL := Lib.hid hil
  obtain ⟨hmc1, hmc2⟩ := hmc
  obtain ⟨m, hm⟩ : ∃ m, m = S.length := ⟨_, rfl⟩
  rw [← hm] at hS hmc1 HOWN HNE HCS HIL ⊢
  have HM := Lib.hid hm
  clear hown hil hcs h32 hk hnew hm
  go_enter Try.func42, Try.ntmps42
  go_wp2_with fail
  go_loopw [5] (fun q wr => ∃ j : Nat, j ≤ m ∧ q = .int .i64 (j : Int) ∧ (∀ i, j ≤ i → i < m → kyT x < kyT (S.getD i 0)) ∧ Below w.heap.size w wr) (fun q _ => (intOf q).toNat)
  case atStart => exact ⟨m, by omega, rfl, fun i h1 h2 => by omega, Below.refl _ _⟩
  case round =>
    obtain ⟨j, hj, rfl, hsm, hb⟩ := hrel
    have HSM := Lib.hid hsm
    have HB := Lib.hid hb
    have hsr := hb.size
    clear hsm hb
    obtain ⟨wo, hwo⟩ : ∃ wo, wo = wr := ⟨_, rfl⟩
    subst hwo
    cases j with
    | zero =>
      have HQ : Hid (inG S 0 x |>.Perm (S ++ [x])) := Lib.hid (inG_perm 0 x (List.Perm.refl _))
      have HKS : Hid (kso (inG S 0 x)) := Lib.hid (inG_kso HK.out (by omega) (Or.inl rfl) (fun i h1 h2 => HSM.out i h1 (by rw [HM.out]; exact h2)))
      have HB3 := HB
      have hz3 := hsr
      obtain ⟨w3, hw3⟩ : ∃ w3, w3 = wo := ⟨_, rfl⟩
      subst hw3
      obtain ⟨o, hoo, HNX⟩ := HNE.out (0) (by omega)
      obtain rfl : o = 0 := by split at hoo <;> (injection hoo with hoo; injection hoo with _ hoo; exact hoo.symm)
      have HOX := Lib.hid fun wx hb => HOWN.out (0) (by omega) wx hb
      have HOA : Hid ((w3.alloc (.cells #[.int .i64 (x : Int)] 2)).ownsRow w.heap.size 2 1 (.slice (some ⟨w3.heap.size, 0, none⟩) 1 1) 1 [.int .i64 (x : Int)]) := Lib.hid ⟨rfl, Or.inr ⟨w3.heap.size, 1, #[.int .i64 (x : Int)], rfl, hz3, halloc_at _ _ _ rfl, Nat.le_refl _, by unfold maxLen; omega, rfl, rfl⟩⟩
      have HDL : Hid ((((inJ S).drop (0)).map (Value.int .i64)).length = m - (0)) := Lib.hid (by simp [HIL.out])
      have HTL : Hid (((inJ S).take (0)).length = 0) := Lib.hid (by simp)
      have HIG : Hid (inJ (inG S (0) x) = (inJ S).take (0) ++ ((x : Int) :: (inJ S).drop (0))) := Lib.hid (by simp [inG, inJ])
      have HDO : Hid (∀ u ∈ ((inJ S).drop (0)).map (Value.int .i64), u.oneCell' = true) := Lib.hid (ints_oneCell .i64 _)
      generalize (inJ S).drop (0) = D at *
      generalize hT : (inJ S).take (0) = T at *
      clear hT
      go_wp2_with (at_builtin; refine wpList_append_own _ rfl _ _ 25 rfl w.heap.size 2 i0 (.int .i64 0) 1 8 Try.underlying25 hi hz0 hz1 hz2 rfl (by decide) (.slice (some ⟨w3.heap.size, 0, none⟩) 1 1) 1 [.int .i64 (x : Int)] rfl HOA.out ⟨g, 0, none⟩ (m - (0)) (c - (0)) (D.map (Value.int .i64)) (by first | rfl | exact congrArg (fun z => Value.slice z (m - (0)) (c - (0))) hoo) (by rw [HDL.out, Nat.mul_one]) (HNX.out _ (HB3.out.alloc hz3 _)) HDO.out (by unfold maxLen; omega) (by omega) (by simp; omega) ?_; intro v6 w6 ho6 hg6 _; have HO6 := Lib.hid ho6; have HB6 : Hid (Below w.heap.size w w6) := Lib.hid ((HB3.out.alloc hz3 _).grown hg6 (by simp; omega) (fun r e => (HOA.out.lt r e).1)); have hz6 := HB6.out.size; clear ho6 hg6)
      refine (HOX.out _ HB6.out).mono ?_
      rintro e w7 ⟨v7, rfl, hown7, hb7⟩
      have HO7 := Lib.hid hown7
      have HB7 : Hid (Below w.heap.size w w7) := Lib.hid (HB6.out.trans (hb7.mono hz6))
      have HO67 : Hid (w7.ownsRow w.heap.size 2 1 v6 (1 + (m - (0))) ([.int .i64 (x : Int)] ++ D.map (Value.int .i64))) := Lib.hid ((Turn.of_below (S := fun _ => False) hb7).own HO6.out (fun _ _ h => h))
      have hz7 := HB7.out.size
      clear hown7 hb7
      have hox : Own w7 w.heap.size v6 ((x : Int) :: D) := by
        have h := HO67.out
        have hdl := HDL.out
        rw [List.length_map] at hdl
        rw [show 1 + (m - (0)) = ((x : Int) :: D).length by rw [List.length_cons, hdl]; omega] at h
        exact h
      obtain ⟨g6, c6, rfl, _, _⟩ := own_blk hox (by simp)
      have HC6 : Hid (∀ k u, (((x : Int) :: D).map (Value.int .i64))[k]? = some u → w7.cell? ((⟨g6, 0, none⟩ : Addr).add k) = some u) := Lib.hid (cells_list fun i hi => by
        have h := (own_cellS hox (by have := HDL.out; rw [List.length_map] at this; rw [List.length_cons]; omega) (i := i) hi).1
        rw [Nat.zero_add]
        exact h)
      have hdl7 : ((x : Int) :: D).length = 1 + (m - (0)) := by have := HDL.out; rw [List.length_map] at this; rw [List.length_cons]; omega
      have HDL7 := Lib.hid hdl7
      have HO7b : Hid (w7.ownsRow w.heap.size 2 1 v7 (0) (T.map (Value.int .i64))) := Lib.hid (by
        have h := World.ownsRow.mono (base' := w.heap.size) HO7.out hz6
        rw [HTL.out] at h
        exact h)
      have HDO7 : Hid (∀ u ∈ ((x : Int) :: D).map (Value.int .i64), u.oneCell' = true) := Lib.hid (ints_oneCell .i64 _)
      rw [hdl7]
      clear hox hdl7 HOX HNX hoo
      go_wp2_with (at_builtin; refine wpList_append_own _ rfl _ _ 25 rfl w.heap.size 2 i0 (.int .i64 0) 1 8 Try.underlying25 hi hz0 hz1 hz2 rfl (by decide) v7 (0) (T.map (Value.int .i64)) rfl HO7b.out ⟨g6, 0, none⟩ (1 + (m - (0))) c6 (((x : Int) :: D).map (Value.int .i64)) rfl (by rw [List.length_map, HDL7.out, Nat.mul_one]) HC6.out HDO7.out (by unfold maxLen; omega) (by omega) (by omega) ?_; intro v8 w8 ho8 hg8 _)
      have HO8 : Hid (Own w8 w.heap.size v8 (inJ (inG S (0) x))) := Lib.hid (by
        rw [HIG.out]
        unfold Own
        rw [List.map_append, List.length_append, HTL.out, HDL7.out]
        exact ho8)
      have HB8 : Hid (Below w.heap.size w w8) := Lib.hid (HB7.out.grown hg8 hz7 (fun r e => (HO7b.out.lt r e).1))
      clear ho8 hg8
      go_wp2_with fail
      go_ret
      exact ⟨_, inG S (0) x, rfl, HQ.out, HKS.out, HO8.out, HB8.out⟩
    | succ q =>
      have hx0 := HCS.out q (by omega)
      have hxw := (HB.out.cell (p := ⟨g, q, none⟩) hgl).trans hx0
      have hqS : q < S.length := by rw [← HM.out]; omega
      have hmem : S.getD q 0 ∈ S := by rw [List.getD_eq_getElem?_getD, List.getElem?_eq_getElem hqS]; exact List.getElem_mem hqS
      have hy := H32.out _ hmem
      have hne : S.getD q 0 ≠ x := fun e => HNEW.out (by rw [← e]; exact hmem)
      have HBF := Lib.hid fun w => sbef_any x (S.getD q 0) hx hy w
      have hqm : (q : Int) < (m : Int) := by omega
      have hq0 : (q : Int) + 1 > 0 := by omega
      by_cases hlt : kyT x < kyT (S.getD q 0)
      · rw [bf_ky _ hx _ hy, decide_eq_true hlt] at HBF
        have HSM2 : Hid (∀ i, q ≤ i → i < m → kyT x < kyT (S.getD i 0)) := Lib.hid fun i h1 h2 => by
          by_cases e : i = q
          · rw [e]; exact hlt
          · exact HSM.out i (by omega) h2
        clear hx0 hmem hy hne hlt
        generalize S.getD q 0 = Y at *
        go_wp2_with fail
        refine (HBF.out _).mono ?_
        rintro e w3 ⟨rfl, hb⟩
        have HB3 := Lib.hid (HB.out.trans (hb.mono hsr))
        clear hb
        go_wp2_with fail
        go_roundw
        case rel => exact ⟨q, by omega, by go_num, HSM2.out, HB3.out⟩
        case measure => simp [intOf]
      have hky : kyT (S.getD q 0) < kyT x := by
        rcases Nat.lt_or_ge (kyT (S.getD q 0)) (kyT x) with h | h
        · exact h
        · exact absurd (ky_inj _ hy _ hx (by omega)) hne
      have HQ : Hid ((inG S (q + 1) x).Perm (S ++ [x])) := Lib.hid (inG_perm (q + 1) x (List.Perm.refl _))
      have HKS : Hid (kso (inG S (q + 1) x)) := Lib.hid (inG_kso HK.out (by omega) (Or.inr hky) (fun i h1 h2 => HSM.out i h1 (by rw [HM.out]; exact h2)))
      rw [bf_ky _ hx _ hy, decide_eq_false hlt] at HBF
      have hneI : ((S.getD q 0 : Int) == (x : Int)) = false := beq_eq_false_iff_ne.2 (fun e => hne (by omega))
      have hneD : decide ((S.getD q 0 : Int) = (x : Int)) = false := decide_eq_false (fun e => hne (by omega))
      have hneX : ¬ ((S.getD q 0 : Int) = (x : Int)) := by omega
      have HXQ := Lib.hid hx0
      clear hmem hy hne hlt hky hx0
      generalize S.getD q 0 = Y at *
      go_wp2_with fail
      refine (HBF.out _).mono ?_
      rintro e w3 ⟨rfl, hb⟩
      have HB3 : Hid (Below w.heap.size w w3) := Lib.hid (HB.out.trans (hb.mono hsr))
      have hz3 := HB3.out.size
      have hx3 := (HB3.out.cell (p := ⟨g, q, none⟩) hgl).trans HXQ.out
      clear hb hxw
      obtain ⟨o, hoo, HNX⟩ := HNE.out (q + 1) (by omega)
      have HOX := Lib.hid fun wx hb => HOWN.out (q + 1) (by omega) wx hb
      have HOA : Hid ((w3.alloc (.cells #[.int .i64 (x : Int)] 2)).ownsRow w.heap.size 2 1 (.slice (some ⟨w3.heap.size, 0, none⟩) 1 1) 1 [.int .i64 (x : Int)]) := Lib.hid ⟨rfl, Or.inr ⟨w3.heap.size, 1, #[.int .i64 (x : Int)], rfl, hz3, halloc_at _ _ _ rfl, Nat.le_refl _, by unfold maxLen; omega, rfl, rfl⟩⟩
      have HDL : Hid ((((inJ S).drop (q + 1)).map (Value.int .i64)).length = m - (q + 1)) := Lib.hid (by simp [HIL.out])
      have HTL : Hid (((inJ S).take (q + 1)).length = q + 1) := Lib.hid (by simp [HIL.out]; try omega)
      have HIG : Hid (inJ (inG S (q + 1) x) = (inJ S).take (q + 1) ++ ((x : Int) :: (inJ S).drop (q + 1))) := Lib.hid (by simp [inG, inJ, List.map_take, List.map_drop])
      have HDO : Hid (∀ u ∈ ((inJ S).drop (q + 1)).map (Value.int .i64), u.oneCell' = true) := Lib.hid (ints_oneCell .i64 _)
      generalize (inJ S).drop (q + 1) = D at *
      generalize hT : (inJ S).take (q + 1) = T at *
      clear hT
      go_wp2_with (at_builtin; refine wpList_append_own _ rfl _ _ 25 rfl w.heap.size 2 i0 (.int .i64 0) 1 8 Try.underlying25 hi hz0 hz1 hz2 rfl (by decide) (.slice (some ⟨w3.heap.size, 0, none⟩) 1 1) 1 [.int .i64 (x : Int)] rfl HOA.out ⟨g, o, none⟩ (m - (q + 1)) (c - (q + 1)) (D.map (Value.int .i64)) (by first | rfl | exact congrArg (fun z => Value.slice z (m - (q + 1)) (c - (q + 1))) hoo) (by rw [HDL.out, Nat.mul_one]) (HNX.out _ (HB3.out.alloc hz3 _)) HDO.out (by unfold maxLen; omega) (by omega) (by simp; omega) ?_; intro v6 w6 ho6 hg6 _; have HO6 := Lib.hid ho6; have HB6 : Hid (Below w.heap.size w w6) := Lib.hid ((HB3.out.alloc hz3 _).grown hg6 (by simp; omega) (fun r e => (HOA.out.lt r e).1)); have hz6 := HB6.out.size; clear ho6 hg6)
      refine (HOX.out _ HB6.out).mono ?_
      rintro e w7 ⟨v7, rfl, hown7, hb7⟩
      have HO7 := Lib.hid hown7
      have HB7 : Hid (Below w.heap.size w w7) := Lib.hid (HB6.out.trans (hb7.mono hz6))
      have HO67 : Hid (w7.ownsRow w.heap.size 2 1 v6 (1 + (m - (q + 1))) ([.int .i64 (x : Int)] ++ D.map (Value.int .i64))) := Lib.hid ((Turn.of_below (S := fun _ => False) hb7).own HO6.out (fun _ _ h => h))
      have hz7 := HB7.out.size
      clear hown7 hb7
      have hox : Own w7 w.heap.size v6 ((x : Int) :: D) := by
        have h := HO67.out
        have hdl := HDL.out
        rw [List.length_map] at hdl
        rw [show 1 + (m - (q + 1)) = ((x : Int) :: D).length by rw [List.length_cons, hdl]; omega] at h
        exact h
      obtain ⟨g6, c6, rfl, _, _⟩ := own_blk hox (by simp)
      have HC6 : Hid (∀ k u, (((x : Int) :: D).map (Value.int .i64))[k]? = some u → w7.cell? ((⟨g6, 0, none⟩ : Addr).add k) = some u) := Lib.hid (cells_list fun i hi => by
        have h := (own_cellS hox (by have := HDL.out; rw [List.length_map] at this; rw [List.length_cons]; omega) (i := i) hi).1
        rw [Nat.zero_add]
        exact h)
      have hdl7 : ((x : Int) :: D).length = 1 + (m - (q + 1)) := by have := HDL.out; rw [List.length_map] at this; rw [List.length_cons]; omega
      have HDL7 := Lib.hid hdl7
      have HO7b : Hid (w7.ownsRow w.heap.size 2 1 v7 (q + 1) (T.map (Value.int .i64))) := Lib.hid (by
        have h := World.ownsRow.mono (base' := w.heap.size) HO7.out hz6
        rw [HTL.out] at h
        exact h)
      have HDO7 : Hid (∀ u ∈ ((x : Int) :: D).map (Value.int .i64), u.oneCell' = true) := Lib.hid (ints_oneCell .i64 _)
      rw [hdl7]
      clear hox hdl7 HOX HNX hoo
      go_wp2_with (at_builtin; refine wpList_append_own _ rfl _ _ 25 rfl w.heap.size 2 i0 (.int .i64 0) 1 8 Try.underlying25 hi hz0 hz1 hz2 rfl (by decide) v7 (q + 1) (T.map (Value.int .i64)) rfl HO7b.out ⟨g6, 0, none⟩ (1 + (m - (q + 1))) c6 (((x : Int) :: D).map (Value.int .i64)) rfl (by rw [List.length_map, HDL7.out, Nat.mul_one]) HC6.out HDO7.out (by unfold maxLen; omega) (by omega) (by omega) ?_; intro v8 w8 ho8 hg8 _)
      have HO8 : Hid (Own w8 w.heap.size v8 (inJ (inG S (q + 1) x))) := Lib.hid (by
        rw [HIG.out]
        unfold Own
        rw [List.map_append, List.length_append, HTL.out, HDL7.out]
        exact ho8)
      have HB8 : Hid (Below w.heap.size w w8) := Lib.hid (HB7.out.grown hg8 hz7 (fun r e => (HO7b.out.lt r e).1))
      clear ho8 hg8
      go_wp2_with fail
      go_ret
      exact ⟨_, inG S (q + 1) x, rfl, HQ.out, HKS.out, HO8.out, HB8.out⟩
end Go.Proofs.Ytpphihjbgikjkaa
