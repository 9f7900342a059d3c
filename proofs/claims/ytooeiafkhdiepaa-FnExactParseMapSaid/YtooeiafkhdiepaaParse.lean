/- The contracts of spec.ParseMap and impl.ParseMap. -/
import Derived.Test.YtooeiafkhdiepaaRead
import Derived.Test.YtooeiafkhdiepaaMapOf
namespace Go.Proofs.Ytooeiafkhdiepaa
open Go.RowKit

set_option maxRecDepth 100000 in
set_option maxHeartbeats 2000000 in
theorem sPrs_any (s : ByteArray) (hs : s.size ≤ 1048576) (w : World) :
    Calls Try.prog 35 #[.string s] w fun e w' => e = .returned (prsV s) ∧ Below w.heap.size w w' := by
  have HR := fun w => sread_any s hs w
  cases hv : rdB s
  · rw [rdV_no hv] at HR
    rw [prsV_no hv]
    have HR := Lib.hid HR
    clear hv
    go_enter Try.func35, Try.ntmps35
    go_wp2_with fail
    (refine (HR.out _).mono ?_; rintro e w1 ⟨rfl, hb⟩; simp only [mv, mcells]; obtain ⟨hc, hf⟩ := bcell hb; have hz := hb.size; have Hb := Lib.hid hb; (try simp at hz hc hf); (try (have hy := Nat.lt_of_succ_le hz)); have hz0 : w.heap.size < w1.heap.size := (by omega); clear hb)
    go_wp2_with fail
    refine bodyPost_ret (v := .tuple #[mv 0 fun _ => 0, .int .i64 6]) (by simp [results, Try.results35, go_sem, *]) rfl ⟨rfl, ?_⟩
    (repeat' (first | (with_reducible exact Below.refl _ _) | (with_reducible refine Below.alloc ?_ ?_ _) | (with_reducible refine Below.setCell ?_ ?_ _) | (with_reducible refine Below.drew ?_) | (with_reducible refine below_drewN ?_ _) | (with_reducible refine Below.trans ?_ (Below.mono (Hid.out (by assumption)) ?_)) | omega | (simp; done) | (simp; omega)))
  · rw [rdV_yes hv] at HR
    rw [prsV_yes hv]
    have HR := Lib.hid HR
    clear hv
    generalize tL (nsT s) = T at *
    go_enter Try.func35, Try.ntmps35
    go_wp2_with fail
    (refine (HR.out _).mono ?_; rintro e w1 ⟨rfl, hb⟩; simp only [mv, mcells]; obtain ⟨hc, hf⟩ := bcell hb; have hz := hb.size; have Hb := Lib.hid hb; (try simp at hz hc hf); (try (have hy := Nat.lt_of_succ_le hz)); have hz0 : w.heap.size < w1.heap.size := (by omega); clear hb)
    go_wp2_with fail
    refine bodyPost_ret (v := .tuple #[mv s.size T, .int .i64 0]) (by simp [results, Try.results35, go_sem, *]) rfl ⟨rfl, ?_⟩
    (repeat' (first | (with_reducible exact Below.refl _ _) | (with_reducible refine Below.alloc ?_ ?_ _) | (with_reducible refine Below.setCell ?_ ?_ _) | (with_reducible refine Below.drew ?_) | (with_reducible refine below_drewN ?_ _) | (with_reducible refine Below.trans ?_ (Below.mono (Hid.out (by assumption)) ?_)) | omega | (simp; done) | (simp; omega)))

set_option maxRecDepth 100000 in
set_option maxHeartbeats 2000000 in
theorem iPrs_any (s : ByteArray) (hs : s.size ≤ 1048576) (w : World) :
    Calls Try.prog 21 #[.string s] w fun e w' => e = .returned (prsV s) ∧ Below w.heap.size w w' := by
  by_cases h5 : s.size ≤ 5
  · have hhi : ¬ (5 < (s.size : Int)) := by omega
    obtain ⟨i0, hi, hz0', hz1', hz2'⟩ := info_parts info_int
    have HLT := Lib.hid (nsT_len s)
    go_enter Try.func21, Try.ntmps21
    go_wp2_with fail
    go_loopw [4, 5, 14] (fun v _ i wr => ∃ k : Nat, k ≤ s.size ∧ i = .int .i64 k ∧ wr.ownsRow (w.heap.size + 1) 2 1 v (nsK s k).length ((nsK s k).map (Value.int .i64)) ∧ Below (w.heap.size + 1) (w.alloc (.cells (mcells 0 fun _ => 0) 26)) wr) (fun _ _ i _ => s.size - (intOf i).toNat)
    case atStart => exact ⟨0, by omega, rfl, World.ownsRow_nil _ _ _ _, Below.refl _ _⟩
    case round =>
      obtain ⟨k, hk, rfl, hown, hb⟩ := hrel
      have hsz := hb.size
      simp at hsz
      have Hb := Lib.hid hb
      have hlen := nsK_len s k
      clear hb
      by_cases hkl : k < s.size
      · have hkl' : (k : Int) < (s.size : Int) := by omega
        have HNS := Lib.hid (nsK_succ s k hkl)
        have hby : (s[k].toNat : Int) < 256 := by have := s[k].toNat_lt; omega
        have hby0 : (0 : Int) ≤ (s[k].toNat : Int) := by omega
        go_wp2_with (at_builtin; refine wpList_append_own _ rfl _ _ 37 rfl (w.heap.size + 1) 2 i0 (.int .i64 0) 1 8 Try.underlying37 hi hz0' hz1' hz2' rfl (by decide) _ _ _ rfl (hown.alloc _) ⟨wr.heap.size, 0, none⟩ 1 1 [.int .i64 ((s[k].toNat : Int) - 48)] rfl rfl (cell_one_new _ _ _) (ints_oneCell .i64 [(s[k].toNat : Int) - 48]) (by unfold maxLen; omega) (by omega) (by simp; omega) ?_; intro v' w2 hown' hgrow2 _)
        have HO2 := Lib.hid hown'
        have s2 := hgrow2.size
        simp at s2
        have HB2 : Hid (Below (w.heap.size + 1) (w.alloc (.cells (mcells 0 fun _ => 0) 26)) w2) := Lib.hid ((Hb.out.alloc (by omega) _).grown hgrow2 (by simp; omega) (fun j hj => (hown.lt j hj).1))
        clear hown hown' hgrow2
        go_roundw
        case rel =>
          refine ⟨k + 1, by omega, by go_num, ?_, HB2.out⟩
          rw [HNS.out]; simpa using HO2.out
        case measure => simp [intOf]; omega
      · obtain rfl : k = s.size := by omega
        have hown0 : Own wr (w.heap.size + 1) u4 (nsT s) := hown
        obtain ⟨a, cap, rfl, hrd⟩ := own_rd hown0 (by rw [nsT_len]; omega)
        have hrow := hrd.inRow
        have HR := Lib.hid hrow
        have hblk := (Hb.out.block w.heap.size (by omega)).trans (halloc_at w _ _ rfl)
        have HBK := Lib.hid hblk
        clear hlen hown hown0 hrd hrow hblk
        have HM := fun w h => iMapOf_any (nsT s) (by rw [nsT_len]; omega) a cap w h
        have HLL := Lib.hid (nsT_len s)
        have HG : isB (nsT s).length (tL (nsT s)) = rdB s := by unfold rdB; rw [nsT_len]
        cases hv : rdB s
        · rw [hv] at HG
          rw [mapV_2 HG] at HM
          have HV := Lib.hid (prsV_no hv)
          have HM := Lib.hid HM
          clear hv HG
          generalize nsT s = L at *
          go_wp2_with fail
          refine (HM.out _ HR.out).mono ?_
          rintro e w1 ⟨rfl, hb⟩
          have hbk1 := (hb.block w.heap.size (by omega)).trans HBK.out
          obtain ⟨y0, y1, y2, y3, y4, y5⟩ := blk6 hbk1
          have hfr1 := blk_free hbk1
          have hz1 := hb.size
          have hz2 : w.heap.size < w1.heap.size := by omega
          have Hb1 := Lib.hid hb
          clear hb hbk1
          simp only [mv, mcells]
          go_wp2_with fail
          refine bodyPost_ret (v := .tuple #[mv 0 fun _ => 0, .int .i64 6]) (by simp [results, Try.results21, go_sem, *]) rfl ⟨by rw [HV.out], ?_⟩
          have hws := Hb.out.size
          have hB9 := (bel_new Hb.out (by omega)).trans (Hb1.out.mono (by simp at hws; omega))
          have HB9 := Lib.hid hB9
          (repeat' (first | (with_reducible exact Below.refl _ _) | (with_reducible refine Below.alloc ?_ ?_ _) | (with_reducible refine Below.setCell ?_ ?_ _) | (with_reducible refine Below.drew ?_) | (with_reducible refine below_drewN ?_ _) | (with_reducible refine Below.trans ?_ (Below.mono (Hid.out (by assumption)) ?_)) | omega | (simp; done) | (simp; omega)))
        · rw [hv] at HG
          rw [mapV_0 HG] at HM
          have HV := prsV_yes hv
          rw [show (s.size : Int) = ((nsT s).length : Int) by rw [nsT_len]] at HV
          have HV := Lib.hid HV
          have HM := Lib.hid HM
          clear hv HG
          generalize nsT s = L at *
          generalize tL L = T at *
          go_wp2_with fail
          refine (HM.out _ HR.out).mono ?_
          rintro e w1 ⟨rfl, hb⟩
          have hbk1 := (hb.block w.heap.size (by omega)).trans HBK.out
          obtain ⟨y0, y1, y2, y3, y4, y5⟩ := blk6 hbk1
          have hfr1 := blk_free hbk1
          have hz1 := hb.size
          have hz2 : w.heap.size < w1.heap.size := by omega
          have Hb1 := Lib.hid hb
          clear hb hbk1
          simp only [mv, mcells]
          go_wp2_with fail
          refine bodyPost_ret (v := .tuple #[mv L.length T, .int .i64 0]) (by simp [results, Try.results21, go_sem, *]) rfl ⟨by rw [HV.out], ?_⟩
          have hws := Hb.out.size
          have hB9 := (bel_new Hb.out (by omega)).trans (Hb1.out.mono (by simp at hws; omega))
          have HB9 := Lib.hid hB9
          (repeat' (first | (with_reducible exact Below.refl _ _) | (with_reducible refine Below.alloc ?_ ?_ _) | (with_reducible refine Below.setCell ?_ ?_ _) | (with_reducible refine Below.drew ?_) | (with_reducible refine below_drewN ?_ _) | (with_reducible refine Below.trans ?_ (Below.mono (Hid.out (by assumption)) ?_)) | omega | (simp; done) | (simp; omega)))
  · rw [prsV_no (rdB_len (by omega))]
    have h6 : 5 < (s.size : Int) := by omega
    go_enter Try.func21, Try.ntmps21
    go_wp2_with fail
    refine bodyPost_ret (v := .tuple #[mv 0 fun _ => 0, .int .i64 6]) (by simp [results, Try.results21, go_sem]) rfl ⟨rfl, ?_⟩
    (repeat' (first | (with_reducible exact Below.refl _ _) | (with_reducible refine Below.alloc ?_ ?_ _) | (with_reducible refine Below.setCell ?_ ?_ _) | (with_reducible refine Below.drew ?_) | (with_reducible refine below_drewN ?_ _) | (with_reducible refine Below.trans ?_ (Below.mono (Hid.out (by assumption)) ?_)) | omega | (simp; done) | (simp; omega)))

end Go.Proofs.Ytooeiafkhdiepaa
