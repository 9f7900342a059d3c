/- The contract of impl.numbersByFirst at numbers: the numbers of different values, in the order in which each one comes first. -/
import Derived.Test.YthblbamiammodaaCg
import Derived.Test.YthblbamiammodaaSl
namespace Go.Proofs.Ythblbamiammodaa
open Go.RowKit Go.Maps

theorem tL_mem_wf {L : List Int} (h : ∀ x ∈ L, (Lit.int .i64 x).wf = true) (k : Nat) (hk : k < L.length) : (Lit.int .i64 (tL L k)).wf = true := by
  unfold tL
  rw [List.getD_eq_getElem?_getD, List.getElem?_eq_getElem hk]
  exact h _ (List.getElem_mem hk)

set_option maxRecDepth 100000 in
set_option maxHeartbeats 1000000 in
theorem nbf_any (L : List Int) (hn : L.length ≤ 1000) (hwf : ∀ x ∈ L, (Lit.int .i64 x).wf = true) (a : Option Addr) (c : Nat) (w : World) (hr : InRow w a L) :
    Calls Try.prog 63 #[.slice a L.length c] w (RetOwn w.heap.size (kerK (tL L) L.length) w) := by
  have HR := Lib.hid hr
  have HWF := Lib.hid (tL_mem_wf hwf)
  have hmm := @run_makeMap Try.prog
  obtain ⟨i0, hi, hz0', hz1', hz2'⟩ := info_parts info_int
  clear hr hwf
  obtain ⟨m, hm⟩ : ∃ m, m = L.length := ⟨_, rfl⟩
  have HM := Lib.hid hm
  rw [← hm] at hn ⊢
  clear hm
  go_enter Try.func63, Try.ntmps63
  go_wp2_with fail
  clear hmm
  go_loopw [3, 6, 7, 8, 12] (fun v _ _ _ i wr => ∃ k : Nat, k ≤ m ∧ i = .int .i64 k ∧ wr.ownsMap Try.prog 2 (plainElem Try.prog 2) w.heap.size k (kD (tL L) k) ∧ wr.ownsRow (w.heap.size + 1) 2 1 v (kerK (tL L) k).length ((kerK (tL L) k).map (Value.int .i64)) ∧
      Below w.heap.size w wr ∧ w.heap.size < wr.heap.size) (fun _ _ _ _ i _ => m - (intOf i).toNat)
  case atStart =>
    refine ⟨0, by omega, rfl, World.ownsMap_made _ _ _ _, World.ownsRow_nil _ _ _ _, ?_, by simp⟩
    · (repeat' (first | (with_reducible exact Below.refl _ _) | (with_reducible refine Below.alloc ?_ ?_ _) | (with_reducible refine Below.setCell ?_ ?_ _) | (with_reducible refine Below.drew ?_) | (with_reducible refine below_drewN ?_ _) | (with_reducible refine Below.trans ?_ (Below.mono (Hid.out (by assumption)) ?_)) | omega | (simp; done) | (simp; omega)))
  case round =>
    obtain ⟨k, hk, rfl, hmap, hown, hb, hsz⟩ := hrel
    have Hb := Lib.hid hb
    have hlen := kerK_len (tL L) k
    have hws := hb.size
    by_cases hkm : k < m
    · have hkm' : (k : Int) < (m : Int) := by omega
      obtain ⟨b, off, rfl, hlt, hin⟩ := (HR.out.below hb).resolve_left (fun e => by have := HM.out; rw [e] at this; simp at this; omega)
      have hfk := hin k (by rw [← HM.out]; exact hkm)
      have hrk := rkK_le (tL L) k
      have hwfk := HWF.out k (by rw [← HM.out]; exact hkm)
      rw [show L.getD k 0 = tL L k from rfl] at hfk
      have hkey : keyOf Try.prog 2 (.int .i64 (tL L k)) = some (.int .i64 (tL L k)) := keyOf_int_mk Try.underlying2 hwfk
      have hwf : (Lit.int .i64 (rkK (tL L) k : Int)).wf = true := WalkArith.wf_i64 (by omega)
      have hhas := has_kD_new (tL L) k
      have hsize := size_kD (tL L) k
      have hrow := hown
      clear hb hin hwfk
      by_cases hn : fst1 (tL L) k = k
      · rw [decide_eq_true hn, Bool.not_true] at hhas
        have HKV := Lib.hid (kvK_first hn)
        have HND := Lib.hid (kD_new hn)
        clear hn
        generalize tL L k = X at *
        generalize kD (tL L) k = D at *
        go_wp2_with (first
          | (at_lookup; refine wpList_lookup_own_ok_int _ rfl _ _ 81 rfl 2 2 .i64 (int_keyed Try.underlying2) Try.underlying81 Try.underlying2 (zeroI _) w.heap.size k _ rfl hmap _ _ rfl hkey ?_; intro c hat hwc)
          | (at_len; refine wpList_len_own _ rfl _ 81 rfl 2 2 Try.underlying81 _ w.heap.size k _ rfl hmap ?_)
          | (at_mapUpdate; refine wpList_mapUpdate_own _ rfl _ _ _ 81 rfl 2 2 (int_keyed Try.underlying2) Try.underlying81 _ w.heap.size k _ rfl hmap (by unfold maxLen; omega) _ _ _ rfl rfl hkey _ [] (plainElem_int Try.underlying2 hwf) ?_; intro w1 hmap1 hgrow1)
          | (at_builtin; refine wpList_append_own _ rfl _ _ 34 rfl (w.heap.size + 1) 2 i0 (.int .i64 0) 1 8 Try.underlying34 hi hz0' hz1' hz2' rfl (by decide) _ _ _ rfl ((hown.kept hgrow1 (Or.inr (row_ne hown (Nat.lt_succ_self _)).symm)).alloc _) ⟨w1.heap.size, 0, none⟩ 1 1 [.int .i64 (rkK (tL L) k : Int)] rfl rfl (cell_one_new _ _ _) (ints_oneCell .i64 [(rkK (tL L) k : Int)]) (by unfold maxLen; omega) (by omega) (by have := hgrow1.size; simp; omega) ?_; intro v' w2 hown' hgrow2 _))
        have hr1 := hown.kept hgrow1 (Or.inr (row_ne hown (Nat.lt_succ_self _)).symm)
        have s1 := hgrow1.size
        have s2 := hgrow2.size
        simp at s1 s2
        have HM2 := Lib.hid ((hmap1.alloc _).kept hgrow2 (row_ne hr1 (Nat.lt_succ_self _)))
        have HO2 := Lib.hid hown'
        have HB2 : Hid (Below w.heap.size w w2) := Lib.hid (((Hb.out.grown hgrow1 hws (fun j hj => by cases hj; omega)).alloc (by omega) _).grown hgrow2 (by simp; omega) (fun j hj => Nat.le_trans (by omega) (hr1.lt j hj).1))
        clear hmap hmap1 hown hown' hgrow1 hgrow2 hr1 hrow
        go_roundw
        case rel =>
          refine ⟨k + 1, by omega, by go_num, by rw [HND.out]; exact HM2.out, ?_, HB2.out, by omega⟩
          rw [kerK_succ, HKV.out]; simpa using HO2.out
        case measure => simp [intOf]; omega
      · rw [decide_eq_false hn, Bool.not_false] at hhas
        obtain ⟨a1, a2, a3⟩ := fst1_at (tL L) k
        have HAT : Hid (∀ z, (kD (tL L) k).atKey (.int .i64 (tL L k)) z = .lit (.int .i64 (kvK (tL L) k))) := Lib.hid fun z => by
          have := atKey_kD (tL L) z k (fst1 (tL L) k) (by omega)
          rw [a1, kvK_same a1] at this
          exact this
        have HND := Lib.hid (kD_old hn)
        have hkv := kvK_bd (tL L) k
        clear hn a1 a2 a3
        generalize tL L k = X at *
        generalize kD (tL L) k = D at *
        go_wp2_with (first
          | (at_lookup; refine wpList_lookup_own_ok_int _ rfl _ _ 81 rfl 2 2 .i64 (int_keyed Try.underlying2) Try.underlying81 Try.underlying2 (zeroI _) w.heap.size k _ rfl hmap _ _ rfl hkey ?_; intro c hat hwc)
          | (at_builtin; refine wpList_append_own _ rfl _ _ 34 rfl (w.heap.size + 1) 2 i0 (.int .i64 0) 1 8 Try.underlying34 hi hz0' hz1' hz2' rfl (by decide) _ _ _ rfl (hown.alloc _) ⟨wr.heap.size, 0, none⟩ 1 1 [.int .i64 c] rfl rfl (cell_one_new _ _ _) (ints_oneCell .i64 [c]) (by unfold maxLen; omega) (by omega) (by simp; omega) ?_; intro v' w2 hown' hgrow2 _))
        have hcv : c = kvK (tL L) k := by
          rw [HAT.out] at hat
          injection hat with hat
          injection hat with _ hat
          exact hat.symm
        have s2 := hgrow2.size
        simp at s2
        have HM2 := Lib.hid ((hmap.alloc _).kept hgrow2 (row_ne hown (Nat.lt_succ_self _)))
        have HO2 := Lib.hid hown'
        have HB2 : Hid (Below w.heap.size w w2) := Lib.hid ((Hb.out.alloc (by omega) _).grown hgrow2 (by simp; omega) (fun j hj => Nat.le_trans (by omega) (hown.lt j hj).1))
        have HCV := Lib.hid hcv
        clear hmap hown hown' hgrow2 hrow hcv hat hwc
        go_roundw
        case rel =>
          refine ⟨k + 1, by omega, by go_num, by rw [HND.out]; exact HM2.out.mono (Nat.le_succ _), ?_, HB2.out, by omega⟩
          rw [kerK_succ, ← HCV.out]; simpa using HO2.out
        case measure => simp [intOf]; omega
    · obtain rfl : k = m := by omega
      have HO := Lib.hid hown
      clear hmap hown hb
      go_wp2_with fail
      go_ret
      exact ⟨_, rfl, Joins.ownsRow_le HO.out (by omega), Hb.out⟩

end Go.Proofs.Ythblbamiammodaa
