/- The contract of impl.KernelOf. -/
import Derived.Test.YtooeiafkhdiepaaKers
import Derived.Test.YtooeiafkhdiepaaKerd
import Derived.Test.YtooeiafkhdiepaaIim
namespace Go.Proofs.Ytooeiafkhdiepaa
open Go.RowKit Go.Maps

theorem row_ne {w : World} {base : Nat} {e : TypeId} {size : Nat} {v : Value} {n : Nat} {xs : List Value} (h : w.ownsRow base e size v n xs) {b : Nat} (hb : b < base) : some b ≠ v.ownBlock := fun e1 => by
  have := (h.lt b e1.symm).1
  omega

theorem zeroI (w : World) : (zeroValue 2).run Try.prog w = .ok (.int .i64 0) w := by kernel_rfl

set_option maxRecDepth 100000 in
set_option maxHeartbeats 1000000 in
theorem iKer_any (p : Int) (t : Nat → Int) (w : World) :
    Calls Try.prog 61 #[mv p t] w (RetRow w.heap.size (kerL p t) (kerC p t) w) := by
  have HL := fun w => iis_any p t w
  cases hv : isB p t
  · have e1 : kerL p t = [] := by unfold kerL; rw [if_neg (by rw [hv]; exact Bool.false_ne_true)]
    have e2 : kerC p t = 1 := by unfold kerC; rw [if_neg (by rw [hv]; exact Bool.false_ne_true)]
    rw [e1, e2]
    rw [hv] at HL
    have HL := Lib.hid HL
    clear e1 e2
    simp only [mv, mcells]
    go_enter Try.func61, Try.ntmps61
    go_wp2_with fail
    (refine (HL.out _).mono ?_; rintro e w1 ⟨rfl, hb⟩; obtain ⟨hc, hf⟩ := bcell hb; have hz := hb.size; have Hb := Lib.hid hb; (try simp at hz hc hf); (try (have hy := Nat.lt_of_succ_le hz)); have hz0 : w.heap.size < w1.heap.size := (by omega); clear hb)
    go_wp2_with fail
    go_ret2
    refine ⟨none, 0, rfl, ⟨by simp, Or.inl rfl⟩, ?_⟩
    (repeat' (first | (with_reducible exact Below.refl _ _) | (with_reducible refine Below.alloc ?_ ?_ _) | (with_reducible refine Below.setCell ?_ ?_ _) | (with_reducible refine Below.drew ?_) | (with_reducible refine below_drewN ?_ _) | (with_reducible refine Below.trans ?_ (Below.mono (Hid.out (by assumption)) ?_)) | omega | (simp; done) | (simp; omega)))
  · have e1 : kerL p t = kerK t p.toNat := by unfold kerL; rw [if_pos hv]
    have e2 : kerC p t = 0 := by unfold kerC; rw [if_pos hv]
    rw [e1, e2]
    rw [hv] at HL
    obtain ⟨h1, h5⟩ := isB_pts hv
    obtain ⟨m, rfl⟩ := Int.eq_ofNat_of_zero_le (show 0 ≤ p by omega)
    simp only [Int.toNat_natCast]
    have hm5 : m ≤ 5 := by omega
    have hm1 : 1 ≤ m := by omega
    have HV := Lib.hid hv
    have HL := Lib.hid HL
    clear hv e1 e2
    have hmm := @run_makeMap Try.prog
    obtain ⟨i0, hi, hz0', hz1', hz2'⟩ := info_parts info_int
    simp only [mv, mcells]
    go_enter Try.func61, Try.ntmps61
    go_wp2_with fail
    (refine (HL.out _).mono ?_; rintro e w1 ⟨rfl, hb⟩; obtain ⟨hc, hf⟩ := bcell hb; have hz := hb.size; have Hb := Lib.hid hb; (try simp at hz hc hf); (try (have hy := Nat.lt_of_succ_le hz)); have hz0 : w.heap.size < w1.heap.size := (by omega); clear hb)
    obtain ⟨wo, hwo⟩ : ∃ wo, wo = w1 := ⟨_, rfl⟩
    subst hwo
    go_wp2_with fail
    clear hmm
    go_loopw [4, 7, 8, 9, 19] (fun v _ _ _ i wr => ∃ k : Nat, k ≤ m ∧ i = .int .i64 k ∧ wr.ownsMap Try.prog 2 (plainElem Try.prog 2) wo.heap.size k (kD t k) ∧ wr.ownsRow (wo.heap.size + 1) 2 1 v (kerK t k).length ((kerK t k).map (Value.int .i64)) ∧
        Below w.heap.size w wr ∧ wo.heap.size < wr.heap.size ∧ wr.heap[w.heap.size]? = some (.cells (mcells (m : Int) t) 26 (0, 0))) (fun _ _ _ _ i _ => m - (intOf i).toNat)
    case atStart =>
      refine ⟨0, by omega, rfl, World.ownsMap_made _ _ _ _, World.ownsRow_nil _ _ _ _, ?_, by simp, ?_⟩
      · (repeat' (first | (with_reducible exact Below.refl _ _) | (with_reducible refine Below.alloc ?_ ?_ _) | (with_reducible refine Below.setCell ?_ ?_ _) | (with_reducible refine Below.drew ?_) | (with_reducible refine below_drewN ?_ _) | (with_reducible refine Below.trans ?_ (Below.mono (Hid.out (by assumption)) ?_)) | omega | (simp; done) | (simp; omega)))
      · (repeat' (first | omega | (rw [hdrew]) | (with_reducible assumption) | (with_reducible exact Hid.out (by assumption)) | (with_reducible rfl) | ((with_reducible refine halloc_at _ _ _ ?_) <;> (first | (with_reducible rfl) | omega | (simp; done))) | (with_reducible refine chain6 ?_) | (with_reducible refine Eq.trans (hset_ne _ _ _ _ ?_) ?_) | (with_reducible refine Eq.trans (halloc_lt _ _ _ ?_) ?_) | (with_reducible refine Eq.trans (Below.block (Hid.out (by assumption)) _ ?_) ?_) | (simp; done) | (simp; omega)))
    case round =>
      have hwo : w.heap.size < wo.heap.size := by omega
      clear hc hf hz hz0 hy Hb
      obtain ⟨k, hk, rfl, hmap, hown, hb, hsz, b0⟩ := hrel
      have Hb := Lib.hid hb
      have B0 := Lib.hid b0
      have hlen := kerK_len t k
      by_cases hkm : k < m
      · have hkm' : (k : Int) < (m : Int) := by omega
        obtain ⟨f0, f1, k5⟩ := ok_at HV.out k hkm'
        have hfk := blk_at b0 k k5
        have hrk := rkK_le t k
        have hkey : keyOf Try.prog 2 (.int .i64 (t k)) = some (.int .i64 (t k)) := keyOf_int_mk Try.underlying2 (WalkArith.wf_i64 (by omega))
        have hwf : (Lit.int .i64 (rkK t k : Int)).wf = true := WalkArith.wf_i64 (by omega)
        have hhas := has_kD_new t k
        have hsize := size_kD t k
        have hrow := hown
        clear hb b0
        by_cases hn : fst1 t k = k
        · rw [decide_eq_true hn, Bool.not_true] at hhas
          have HKV := Lib.hid (kvK_first hn)
          have HND := Lib.hid (kD_new hn)
          clear hn
          generalize t k = X at *
          generalize kD t k = D at *
          go_wp2_with (first
            | (at_lookup; refine wpList_lookup_own_ok_int _ rfl _ _ 94 rfl 2 2 .i64 (int_keyed Try.underlying2) Try.underlying94 Try.underlying2 (zeroI _) wo.heap.size k _ rfl hmap _ _ rfl hkey ?_; intro c hat hwc)
            | (at_len; refine wpList_len_own _ rfl _ 94 rfl 2 2 Try.underlying94 _ wo.heap.size k _ rfl hmap ?_)
            | (at_mapUpdate; refine wpList_mapUpdate_own _ rfl _ _ _ 94 rfl 2 2 (int_keyed Try.underlying2) Try.underlying94 _ wo.heap.size k _ rfl hmap (by unfold maxLen; omega) _ _ _ rfl rfl hkey _ [] (plainElem_int Try.underlying2 hwf) ?_; intro w1 hmap1 hgrow1)
            | (at_builtin; refine wpList_append_own _ rfl _ _ 37 rfl (wo.heap.size + 1) 2 i0 (.int .i64 0) 1 8 Try.underlying37 hi hz0' hz1' hz2' rfl (by decide) _ _ _ rfl ((hown.kept hgrow1 (Or.inr (row_ne hown (Nat.lt_succ_self _)).symm)).alloc _) ⟨w1.heap.size, 0, none⟩ 1 1 [.int .i64 (rkK t k : Int)] rfl rfl (cell_one_new _ _ _) (ints_oneCell .i64 [(rkK t k : Int)]) (by unfold maxLen; omega) (by omega) (by have := hgrow1.size; simp; omega) ?_; intro v' w2 hown' hgrow2 _))
          have hr1 := hown.kept hgrow1 (Or.inr (row_ne hown (Nat.lt_succ_self _)).symm)
          have s1 := hgrow1.size
          have s2 := hgrow2.size
          simp at s1 s2
          have HM2 := Lib.hid ((hmap1.alloc _).kept hgrow2 (row_ne hr1 (Nat.lt_succ_self _)))
          have HO2 := Lib.hid hown'
          have hws := Hb.out.size
          have HB2 : Hid (Below w.heap.size w w2) := Lib.hid (((Hb.out.grown hgrow1 hws (fun j hj => by cases hj; omega)).alloc (by omega) _).grown hgrow2 (by simp; omega) (fun j hj => Nat.le_trans (by omega) (hr1.lt j hj).1))
          have HC2 : Hid (w2.heap[w.heap.size]? = some (.cells (mcells (m : Int) t) 26 (0, 0))) := Lib.hid ((hgrow2.block _ (by simp; omega) (fun e => by have := (hr1.lt _ e.symm).1; omega)).trans ((halloc_lt _ _ _ (by omega)).trans ((hgrow1.block _ (by omega) (fun e => by injection e with e; omega)).trans B0.out)))
          clear hmap hmap1 hown hown' hgrow1 hgrow2 hr1 hrow
          go_roundw
          case rel =>
            refine ⟨k + 1, by omega, by go_num, by rw [HND.out]; exact HM2.out, ?_, HB2.out, by omega, HC2.out⟩
            rw [kerK_succ, HKV.out]; simpa using HO2.out
          case measure => simp [intOf]; omega
        · rw [decide_eq_false hn, Bool.not_false] at hhas
          obtain ⟨a1, a2, a3⟩ := fst1_at t k
          have HAT : Hid (∀ z, (kD t k).atKey (.int .i64 (t k)) z = .lit (.int .i64 (kvK t k))) := Lib.hid fun z => by
            have := atKey_kD t z k (fst1 t k) (by omega)
            rw [a1, kvK_same a1] at this
            exact this
          have HND := Lib.hid (kD_old hn)
          have hkv := kvK_bd t k
          clear hn a1 a2 a3
          generalize t k = X at *
          generalize kD t k = D at *
          go_wp2_with (first
            | (at_lookup; refine wpList_lookup_own_ok_int _ rfl _ _ 94 rfl 2 2 .i64 (int_keyed Try.underlying2) Try.underlying94 Try.underlying2 (zeroI _) wo.heap.size k _ rfl hmap _ _ rfl hkey ?_; intro c hat hwc)
            | (at_builtin; refine wpList_append_own _ rfl _ _ 37 rfl (wo.heap.size + 1) 2 i0 (.int .i64 0) 1 8 Try.underlying37 hi hz0' hz1' hz2' rfl (by decide) _ _ _ rfl (hown.alloc _) ⟨wr.heap.size, 0, none⟩ 1 1 [.int .i64 c] rfl rfl (cell_one_new _ _ _) (ints_oneCell .i64 [c]) (by unfold maxLen; omega) (by omega) (by simp; omega) ?_; intro v' w2 hown' hgrow2 _))
          have hcv : c = kvK t k := by
            rw [HAT.out] at hat
            injection hat with hat
            injection hat with _ hat
            exact hat.symm
          have s2 := hgrow2.size
          simp at s2
          have HM2 := Lib.hid ((hmap.alloc _).kept hgrow2 (row_ne hown (Nat.lt_succ_self _)))
          have HO2 := Lib.hid hown'
          have hws := Hb.out.size
          have HB2 : Hid (Below w.heap.size w w2) := Lib.hid ((Hb.out.alloc (by omega) _).grown hgrow2 (by simp; omega) (fun j hj => Nat.le_trans (by omega) (hown.lt j hj).1))
          have HC2 : Hid (w2.heap[w.heap.size]? = some (.cells (mcells (m : Int) t) 26 (0, 0))) := Lib.hid ((hgrow2.block _ (by simp; omega) (fun e => by have := (hown.lt _ e.symm).1; omega)).trans ((halloc_lt _ _ _ (by omega)).trans B0.out))
          have HCV := Lib.hid hcv
          clear hmap hown hown' hgrow2 hrow hcv hat hwc
          go_roundw
          case rel =>
            refine ⟨k + 1, by omega, by go_num, by rw [HND.out]; exact HM2.out.mono (Nat.le_succ _), ?_, HB2.out, by omega, HC2.out⟩
            rw [kerK_succ, ← HCV.out]; simpa using HO2.out
          case measure => simp [intOf]; omega
      · obtain rfl : k = m := by omega
        obtain ⟨a, cap, rfl, hrd⟩ := own_rd (L := kerK t k) hown (by omega)
        have HO := Lib.hid hrd
        clear hmap hown hrd hb b0
        go_wp2_with fail
        go_ret2
        refine ⟨_, _, rfl, HO.out.mono (by omega), Hb.out⟩

end Go.Proofs.Ytooeiafkhdiepaa
