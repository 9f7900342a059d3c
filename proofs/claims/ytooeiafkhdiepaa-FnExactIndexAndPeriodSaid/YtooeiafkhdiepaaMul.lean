/- The contracts of spec.l01Times and impl.product: both give the product of two maps. -/
import Derived.Test.YtooeiafkhdiepaaBlk
namespace Go.Proofs.Ytooeiafkhdiepaa
open Go.RowKit

set_option maxHeartbeats 400000 in
theorem times_any (p : Int) (f g : Nat → Int) (hf : isB p f = true) (hg : isB p g = true) (w : World) :
    Calls Try.prog 77 #[mv p f, mv p g] w fun e w' => e = .returned (mv p (mul p f g)) ∧ Below w.heap.size w w' := by
  have hF := Lib.hid hf
  have hG := Lib.hid hg
  obtain ⟨h1, h5⟩ := isB_pts hf
  clear hf hg
  simp only [mv, mcells]
  go_enter Try.func77, Try.ntmps77
  go_wp2
  go_loopw [6] (fun i wr => ∃ (k : Nat), (k : Int) ≤ p ∧ i = .int .i64 k ∧ Below w.heap.size w wr ∧ w.heap.size + 1 + 1 + 1 < wr.heap.size ∧
      wr.heap[w.heap.size]? = some (.cells (mcells p f) 26 (0, 0)) ∧ wr.heap[w.heap.size + 1]? = some (.cells (mcells p g) 26 (0, 0)) ∧
      wr.heap[w.heap.size + 1 + 1]? = some (.cells (mcells 0 fun _ => 0) 26 (0, 0)) ∧ wr.heap[w.heap.size + 1 + 1 + 1]? = some (.cells (mcells p (mulK f g k)) 26 (0, 0))) (fun i _ => (p - intOf i).toNat)
  case atStart =>
    refine ⟨0, by omega, rfl, ?_, by simp, ?_, ?_, ?_, ?_⟩
    · (repeat' (first | (with_reducible exact Below.refl _ _) | (with_reducible refine Below.alloc ?_ ?_ _) | (with_reducible refine Below.setCell ?_ ?_ _) | (with_reducible refine Below.drew ?_) | (with_reducible refine below_drewN ?_ _) | (with_reducible refine Below.trans ?_ (Below.mono (Hid.out (by assumption)) ?_)) | omega | (simp; done) | (simp; omega)))
    · ((try rw [hdrew]); simp only [halloc, Array.getElem?_push, Array.size_push]; (repeat (first | rw [if_pos (by omega)] | rw [if_neg (by omega)])); try rfl)
    · ((try rw [hdrew]); simp only [halloc, Array.getElem?_push, Array.size_push]; (repeat (first | rw [if_pos (by omega)] | rw [if_neg (by omega)])); try rfl)
    · ((try rw [hdrew]); simp only [halloc, Array.getElem?_push, Array.size_push]; (repeat (first | rw [if_pos (by omega)] | rw [if_neg (by omega)])); try rfl)
    · ((try rw [hdrew]); simp only [halloc, Array.getElem?_push, Array.size_push]; (repeat (first | rw [if_pos (by omega)] | rw [if_neg (by omega)])); try rfl)
  case round =>
    obtain ⟨k, hk, rfl, hb, hsz, b0, b1, b2, b3⟩ := hrel
    have hp := (blk6 b0).1
    have Hb := Lib.hid hb
    have B0 := Lib.hid b0
    have B1 := Lib.hid b1
    have B2 := Lib.hid b2
    have B3 := Lib.hid b3
    clear hb b0 b1 b2 b3
    by_cases hkp : (k : Int) < p
    · obtain ⟨f0, f1, k5⟩ := ok_at hF.out k hkp
      have k5' : (k : Int) < 5 := by omega
      have f5 : f k < 5 := by omega
      have hfk := blk_at B0.out k k5
      have hgk := blk_at B1.out (f k).toNat (by omega)
      have hok := blk_at B3.out k k5
      have hfr := blk_free B3.out (1 + k)
      go_wp2
      go_roundw
      case rel =>
        refine ⟨k + 1, by omega, by go_num, Hb.out.setCell (by simp; omega) _, by simpa using hsz, ?_, ?_, ?_, ?_⟩
        · rw [hset_ne _ _ _ _ (by simp; omega)]; exact B0.out
        · rw [hset_ne _ _ _ _ (by simp)]; exact B1.out
        · rw [hset_ne _ _ _ _ (by simp)]; exact B2.out
        · rw [← mulK_succ]; exact blk_set B3.out k k5 _
      case measure => simp [intOf]; omega
    · obtain ⟨e0, e1, e2, e3, e4, e5⟩ := blk6 B3.out
      obtain ⟨r0, r1, r2, r3, r4, r5⟩ := blk6 B2.out
      have hfr := blk_free B2.out
      have hK : Hid (mulK f g k = mul p f g) := by unfold mul; rw [show p.toNat = k by omega]; rfl
      go_wp2
      refine bodyPost_ret (v := mv p (mulK f g k)) (by simp [results, Try.results77, go_sem, r0, r1, r2, r3, r4, r5]) rfl ⟨by rw [hK.out], ?_⟩
      (repeat' (first | (with_reducible exact Below.refl _ _) | (with_reducible refine Below.alloc ?_ ?_ _) | (with_reducible refine Below.setCell ?_ ?_ _) | (with_reducible refine Below.drew ?_) | (with_reducible refine below_drewN ?_ _) | (with_reducible refine Below.trans ?_ (Below.mono (Hid.out (by assumption)) ?_)) | omega | (simp; done) | (simp; omega)))

set_option maxHeartbeats 400000 in
theorem product_any (p : Int) (f g : Nat → Int) (hf : isB p f = true) (hg : isB p g = true) (w : World) :
    Calls Try.prog 75 #[mv p f, mv p g] w fun e w' => e = .returned (mv p (mul p f g)) ∧ Below w.heap.size w w' := by
  have hF := Lib.hid hf
  have hG := Lib.hid hg
  obtain ⟨h1, h5⟩ := isB_pts hf
  clear hf hg
  simp only [mv, mcells]
  go_enter Try.func75, Try.ntmps75
  go_wp2
  go_loopw [6, 12] (fun _ i wr => ∃ (k : Nat), (k : Int) ≤ p ∧ i = .int .i64 k ∧ Below w.heap.size w wr ∧ w.heap.size + 1 + 1 + 1 < wr.heap.size ∧
      wr.heap[w.heap.size]? = some (.cells (mcells p f) 26 (0, 0)) ∧ wr.heap[w.heap.size + 1]? = some (.cells (mcells p g) 26 (0, 0)) ∧
      wr.heap[w.heap.size + 1 + 1]? = some (.cells (mcells 0 fun _ => 0) 26 (0, 0)) ∧ wr.heap[w.heap.size + 1 + 1 + 1]? = some (.cells (mcells p (mulK f g k)) 26 (0, 0))) (fun _ i _ => (p - intOf i).toNat)
  case atStart =>
    refine ⟨0, by omega, rfl, ?_, by simp, ?_, ?_, ?_, ?_⟩
    · (repeat' (first | (with_reducible exact Below.refl _ _) | (with_reducible refine Below.alloc ?_ ?_ _) | (with_reducible refine Below.setCell ?_ ?_ _) | (with_reducible refine Below.drew ?_) | (with_reducible refine below_drewN ?_ _) | (with_reducible refine Below.trans ?_ (Below.mono (Hid.out (by assumption)) ?_)) | omega | (simp; done) | (simp; omega)))
    · ((try rw [hdrew]); simp only [halloc, Array.getElem?_push, Array.size_push]; (repeat (first | rw [if_pos (by omega)] | rw [if_neg (by omega)])); try rfl)
    · ((try rw [hdrew]); simp only [halloc, Array.getElem?_push, Array.size_push]; (repeat (first | rw [if_pos (by omega)] | rw [if_neg (by omega)])); try rfl)
    · ((try rw [hdrew]); simp only [halloc, Array.getElem?_push, Array.size_push]; (repeat (first | rw [if_pos (by omega)] | rw [if_neg (by omega)])); try rfl)
    · ((try rw [hdrew]); simp only [halloc, Array.getElem?_push, Array.size_push]; (repeat (first | rw [if_pos (by omega)] | rw [if_neg (by omega)])); try rfl)
  case round =>
    obtain ⟨k, hk, rfl, hb, hsz, b0, b1, b2, b3⟩ := hrel
    have hp := (blk6 b0).1
    have Hb := Lib.hid hb
    have B0 := Lib.hid b0
    have B1 := Lib.hid b1
    have B2 := Lib.hid b2
    have B3 := Lib.hid b3
    clear hb b0 b1 b2 b3
    by_cases hkp : (k : Int) < p
    · obtain ⟨f0, f1, k5⟩ := ok_at hF.out k hkp
      have k5' : (k : Int) < 5 := by omega
      have f5 : f k < 5 := by omega
      have hfk := blk_at B0.out k k5
      have hgk := blk_at B1.out (f k).toNat (by omega)
      have hok := blk_at B3.out k k5
      have hfr := blk_free B3.out (1 + k)
      go_wp2
      go_roundw
      case rel =>
        refine ⟨k + 1, by omega, by go_num, Hb.out.setCell (by simp; omega) _, by simpa using hsz, ?_, ?_, ?_, ?_⟩
        · rw [hset_ne _ _ _ _ (by simp; omega)]; exact B0.out
        · rw [hset_ne _ _ _ _ (by simp)]; exact B1.out
        · rw [hset_ne _ _ _ _ (by simp)]; exact B2.out
        · rw [← mulK_succ]; exact blk_set B3.out k k5 _
      case measure => simp [intOf]; omega
    · obtain ⟨e0, e1, e2, e3, e4, e5⟩ := blk6 B3.out
      obtain ⟨r0, r1, r2, r3, r4, r5⟩ := blk6 B2.out
      have hfr := blk_free B2.out
      have hK : Hid (mulK f g k = mul p f g) := by unfold mul; rw [show p.toNat = k by omega]; rfl
      go_wp2
      refine bodyPost_ret (v := mv p (mulK f g k)) (by simp [results, Try.results75, go_sem, r0, r1, r2, r3, r4, r5]) rfl ⟨by rw [hK.out], ?_⟩
      (repeat' (first | (with_reducible exact Below.refl _ _) | (with_reducible refine Below.alloc ?_ ?_ _) | (with_reducible refine Below.setCell ?_ ?_ _) | (with_reducible refine Below.drew ?_) | (with_reducible refine below_drewN ?_ _) | (with_reducible refine Below.trans ?_ (Below.mono (Hid.out (by assumption)) ?_)) | omega | (simp; done) | (simp; omega)))
end Go.Proofs.Ytooeiafkhdiepaa
