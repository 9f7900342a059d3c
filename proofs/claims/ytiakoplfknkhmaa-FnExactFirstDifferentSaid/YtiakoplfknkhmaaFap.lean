/- The contract of (pointReader).firstApart. -/
import Derived.Test.YtiakoplfknkhmaaPai
import Derived.RegionTactic
import Derived.ChangeAlike
namespace Go.Proofs.Ytiakoplfknkhmaa
open Go Go.RowKit Go.Maps

set_option maxHeartbeats 4000000 in
theorem ifap_any {gr gt bx p : Nat} {L : List MapN} {S : List Int} (cr : Nat) (F : Int) (x y : Nat) (hx : x < p) (hy : y < p) (w : World) (h : Rp w gr gt bx p L S) :
    Calls Try.prog 50 #[rdV gr p cr F bx, .int .i64 (x : Int), .int .i64 (y : Int)] w (RetRow w.heap.size (waW (aprt L S L S x y)) (waC (aprt L S L S x y)) w) := by
  have HQ := Lib.hid fun z (hb : Below w.heap.size w z) => ifq_any cr cr x y hx hy z ⟨h.below hb, h.below hb, rfl⟩
  clear h
  generalize aprt L S L S x y = o at *
  obtain ⟨wb, hwb⟩ : ∃ wb, wb = w.alloc (.cells #[.slice (some ⟨gr, 0, none⟩) p cr, .int .i64 F, lastV bx] 60) := ⟨_, rfl⟩
  have hbx : wb.heap[w.heap.size]? = some (.cells #[.slice (some ⟨gr, 0, none⟩) p cr, .int .i64 F, lastV bx] 60 (0, 0)) := by rw [hwb]; exact halloc_at _ _ _ rfl
  have HWB : Hid (Below w.heap.size w wb) := Lib.hid (by rw [hwb]; exact (Below.refl _ _).alloc (Nat.le_refl _) _)
  have hwz : w.heap.size < wb.heap.size := (Array.getElem?_eq_some_iff.1 hbx).1
  have f0 := Joins.cell_of_block hbx 0
  have f1 := Joins.cell_of_block hbx 1
  have f2 := Joins.cell_of_block hbx 2
  simp only [List.getElem?_toArray, List.getElem?_cons_zero, List.getElem?_cons_succ] at f0 f1 f2
  clear hbx
  go_enter Try.func50, Try.ntmps50
  go_wp2_with fail
  rw [← hwb]
  clear hwb
  go_region
  all_goals go_wp2_with fail
  all_goals refine (HQ.out _ (by (repeat' (first | (with_reducible exact Below.refl _ _) | (with_reducible refine Below.alloc ?_ ?_ _) | (with_reducible refine Below.setCell ?_ ?_ _) | (with_reducible refine Below.drew ?_) | (with_reducible refine below_drewN ?_ _) | (with_reducible refine Below.trans ?_ (Below.mono (Hid.out (by assumption)) ?_)) | omega | (simp; done) | (simp; omega))))).mono ?_
  all_goals rintro e w2 ⟨ax, cx, rfl, hr, hb⟩
  all_goals have hz := hb.size
  all_goals (try simp at hz)
  all_goals have HB := Lib.hid hb
  all_goals have HRR := Lib.hid hr
  all_goals clear hb hr
  all_goals go_wp2_with fail
  all_goals go_ret2
  all_goals refine ⟨ax, cx, rfl, HRR.out.mono (by (try simp); omega), ?_⟩
  all_goals (repeat' (first | (with_reducible exact Below.refl _ _) | (with_reducible refine Below.alloc ?_ ?_ _) | (with_reducible refine Below.setCell ?_ ?_ _) | (with_reducible refine Below.drew ?_) | (with_reducible refine below_drewN ?_ _) | (with_reducible refine Below.trans ?_ (Below.mono (Hid.out (by assumption)) ?_)) | omega | (simp; done) | (simp; omega)))

end Go.Proofs.Ytiakoplfknkhmaa
