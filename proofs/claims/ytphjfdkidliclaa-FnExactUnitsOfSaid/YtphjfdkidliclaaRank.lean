/- The contract of impl.rank: the number of the points of the image. -/
import Derived.Test.YtphjfdkidliclaaAsc
namespace Go.Proofs.Ytphjfdkidliclaa
open Go.RowKit

set_option maxHeartbeats 1000000 in
theorem irank_any (p : Int) (t : Nat → Int) (hf : isB p t = true) (w : World) :
    Calls Try.prog 68 #[mv p t] w fun e w' => e = .returned (.int .i64 (asc (imgB p t)).length) ∧ Below w.heap.size w w' := by
  obtain ⟨h1, h5⟩ := isB_pts hf
  obtain ⟨m, rfl⟩ := Int.eq_ofNat_of_zero_le (show 0 ≤ p by omega)
  have HF := Lib.hid hf
  clear hf
  have hm5 : m ≤ 5 := by omega
  have hm1 : 1 ≤ m := by omega
  simp only [mv, mcells]
  go_enter Try.func68, Try.ntmps68
  go_wp2_with fail
  go_loopw [5, 11] (fun _ i wr => ∃ (k : Nat), k ≤ m ∧ i = .int .i64 k ∧ Below w.heap.size w wr ∧ w.heap.size + 1 < wr.heap.size ∧
      wr.heap[w.heap.size]? = some (.cells (mcells (m : Int) t) 39 (0, 0)) ∧ wr.heap[w.heap.size + 1]? = some (.cells (cells5 (imgK t k)) 84 (0, 0))) (fun _ i _ => m - (intOf i).toNat)
  case atStart =>
    refine ⟨0, by omega, rfl, ?_, by simp, ?_, ?_⟩
    · (repeat' (first | (with_reducible exact Below.refl _ _) | (with_reducible refine Below.alloc ?_ ?_ _) | (with_reducible refine Below.setCell ?_ ?_ _) | (with_reducible refine Below.drew ?_) | (with_reducible refine below_drewN ?_ _) | (with_reducible refine Below.trans ?_ (Below.mono (Hid.out (by assumption)) ?_)) | omega | (simp; done) | (simp; omega)))
    · ((try rw [hdrew]); simp only [halloc, Array.getElem?_push, Array.size_push]; (repeat (first | rw [if_pos (by omega)] | rw [if_neg (by omega)])); try rfl)
    · ((try rw [hdrew]); simp only [halloc, Array.getElem?_push, Array.size_push]; (repeat (first | rw [if_pos (by omega)] | rw [if_neg (by omega)])); try rfl)
  case round =>
    obtain ⟨k, hk, rfl, hb, hsz, b0, b1⟩ := hrel
    have Hb := Lib.hid hb
    have B0 := Lib.hid b0
    have B1 := Lib.hid b1
    clear hb b0 b1
    by_cases hkm : k < m
    · have hkm' : (k : Int) < (m : Int) := by omega
      obtain ⟨f0, f1, k5⟩ := ok_at HF.out k hkm'
      have f5 : t k < 5 := by omega
      have hfk := blk_at B0.out k k5
      have hok := blk5_at B1.out (t k).toNat (by omega)
      have hfr := blk_free B1.out (t k).toNat
      go_wp2_with fail
      go_roundw
      case rel =>
        refine ⟨k + 1, by omega, by go_num, Hb.out.setCell (by simp) _, by simpa using hsz, ?_, ?_⟩
        · rw [hset_ne _ _ _ _ (by simp)]; exact B0.out
        · rw [← imgK_succ t k f0]; exact blk5_set B1.out _ (by omega)
      case measure => simp [intOf]; omega
    · obtain rfl : k = m := by omega
      obtain ⟨e0, e1, e2, e3, e4⟩ := blk5 B1.out
      have hres := asc_any (imgK t k)
      have HR := Lib.hid hres
      clear hres
      simp only [cells5] at HR
      go_wp2_with fail
      refine (HR.out _).mono ?_
      rintro e w1 ⟨v, rfl, hown, hbel⟩
      have HB := Lib.hid hbel
      clear hbel
      rcases own_shape hown with ⟨rfl, hnil⟩ | ⟨g, cap, rfl, _, _⟩
      · clear hown
        have HN := Lib.hid hnil
        clear hnil
        go_wp2_with fail
        go_ret
        refine ⟨ret_i ?_, ?_⟩
        · rw [show imgB (k : Int) t = imgK t k from rfl, HN.out]; rfl
        · (repeat' (first | (with_reducible exact Below.refl _ _) | (with_reducible refine Below.alloc ?_ ?_ _) | (with_reducible refine Below.setCell ?_ ?_ _) | (with_reducible refine Below.drew ?_) | (with_reducible refine below_drewN ?_ _) | (with_reducible refine Below.trans ?_ (Below.mono (Hid.out (by assumption)) ?_)) | omega | (simp; done) | (simp; omega)))
      · clear hown
        go_wp2_with fail
        go_ret
        refine ⟨rfl, ?_⟩
        (repeat' (first | (with_reducible exact Below.refl _ _) | (with_reducible refine Below.alloc ?_ ?_ _) | (with_reducible refine Below.setCell ?_ ?_ _) | (with_reducible refine Below.drew ?_) | (with_reducible refine below_drewN ?_ _) | (with_reducible refine Below.trans ?_ (Below.mono (Hid.out (by assumption)) ?_)) | omega | (simp; done) | (simp; omega)))
end Go.Proofs.Ytphjfdkidliclaa
