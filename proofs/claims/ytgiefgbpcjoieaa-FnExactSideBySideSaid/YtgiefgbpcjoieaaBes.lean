/- Two maps beside each other: told without Go, and the contract of impl.besideEachOther. -/
import Derived.Test.YtgiefgbpcjoieaaConc
import Derived.Test.YtgiefgbpcjoieaaChk
import Derived.Test.YtgiefgbpcjoieaaPow
import Derived.StillTailTactics
namespace Go.Proofs.Ytgiefgbpcjoieaa
open Go Go.RowKit

/-- A map of n points beside k points of another one. -/
def bsK (n : Nat) (f g : Nat → Int) (k : Nat) : Nat → Int := fun i => if n ≤ i ∧ i < n + k then (n : Int) + g (i - n) else f i
theorem bsK_zero (n : Nat) (f g : Nat → Int) : bsK n f g 0 = f := by
  funext i
  unfold bsK
  rw [if_neg (by omega)]
theorem bsK_succ (n : Nat) (f g : Nat → Int) (k : Nat) : upd (bsK n f g k) (n + k) ((n : Int) + g k) = bsK n f g (k + 1) := by
  funext i
  unfold upd bsK
  by_cases h : i = n + k
  · subst h
    rw [if_pos rfl, if_pos (by omega), show n + k - n = k by omega]
  · rw [if_neg h]
    by_cases c : n ≤ i ∧ i < n + k
    · rw [if_pos c, if_pos (by omega)]
    · rw [if_neg c, if_neg (by omega)]

theorem mcells_congr {p : Int} {t s : Nat → Int} (h : ∀ i, i < 5 → t i = s i) : mcells p t = mcells p s := by
  unfold mcells
  rw [h 0 (by omega), h 1 (by omega), h 2 (by omega), h 3 (by omega), h 4 (by omega)]

/-- The maps of both lists, side by side. -/
def sbA (n m : Nat) (f : Nat → Int) : Nat → Int := fun i => if i < n then f i else idn ((n : Int) + (m : Int)) i
def sbB (n m : Nat) (g : Nat → Int) : Nat → Int := bsK n (idn ((n : Int) + (m : Int))) g m

theorem bes_a {n m : Nat} {f : Nat → Int} (hf : isB (n : Int) f = true) (i : Nat) (hi : i < 5) : bsK n f (idn (m : Int)) m i = sbA n m f i := by
  have h := (isB_true.1 hf).2.2 i hi
  unfold okAt at h
  unfold bsK sbA idn
  by_cases c : i < n
  · rw [if_neg (by omega), if_pos c]
  · rw [if_neg c]
    by_cases d : i < n + m
    · rw [if_pos (by omega), if_pos (by omega), if_pos (by omega)]
      omega
    · rw [if_neg (by omega), if_neg (by omega)]
      exact h.2 (by omega)

theorem bes_b {n m : Nat} {g : Nat → Int} (i : Nat) (_ : i < 5) : bsK n (idn (n : Int)) g m i = sbB n m g i := by
  unfold sbB bsK idn
  by_cases c : n ≤ i ∧ i < n + m
  · rw [if_pos c, if_pos c]
  · rw [if_neg c, if_neg c]
    by_cases d : i < n
    · rw [if_pos (by omega), if_pos (by omega)]
    · rw [if_neg (by omega), if_neg (by omega)]

set_option maxRecDepth 100000 in
set_option maxHeartbeats 4000000 in
theorem ibes_any (n m : Nat) (_ : 1 ≤ n) (_ : 1 ≤ m) (h5 : n + m ≤ 5) (f g : Nat → Int) (hg : ∀ i, i < m → 0 ≤ g i ∧ g i ≤ 5) (w : World) :
    Calls Try.prog 90 #[mv (n : Int) f, mv (m : Int) g] w fun e w' => e = .returned (mv ((n : Int) + (m : Int)) (bsK n f g m)) ∧ Below w.heap.size w w' := by
  have HG := Lib.hid hg
  clear hg
  obtain ⟨wb, hwb⟩ : ∃ wb, wb = (((w.alloc (.cells (mcells (n : Int) f) 71)).alloc (.cells (mcells (m : Int) g) 71)).alloc (.cells (mcells 0 fun _ => 0) 71)).alloc (.cells (mcells ((n : Int) + (m : Int)) f) 71) := ⟨_, rfl⟩
  have HWB : Hid (Below w.heap.size w wb) := Lib.hid (by rw [hwb]; exact Below.alloc (Below.alloc (Below.alloc (Below.alloc (Below.refl _ _) (Nat.le_refl _) _) (by first | (simp; done) | (simp; omega)) _) (by first | (simp; done) | (simp; omega)) _) (by first | (simp; done) | (simp; omega)) _)
  have hwz : wb.heap.size = w.heap.size + 1 + 1 + 1 + 1 := by rw [hwb]; simp
  have HX : Hid (wb.heap[w.heap.size]? = some (.cells (mcells (n : Int) f) 71 (0, 0))) := Lib.hid (by rw [hwb]; exact (halloc_lt _ _ _ (by first | (simp; done) | (simp; omega))).trans ((halloc_lt _ _ _ (by first | (simp; done) | (simp; omega))).trans ((halloc_lt _ _ _ (by simp)).trans (halloc_at _ _ _ rfl))))
  have HY : Hid (wb.heap[w.heap.size + 1]? = some (.cells (mcells (m : Int) g) 71 (0, 0))) := Lib.hid (by rw [hwb]; exact (halloc_lt _ _ _ (by first | (simp; done) | (simp; omega))).trans ((halloc_lt _ _ _ (by simp)).trans (halloc_at _ _ _ (by simp))))
  have HZ : Hid (wb.heap[w.heap.size + 1 + 1]? = some (.cells (mcells 0 fun _ => 0) 71 (0, 0))) := Lib.hid (by rw [hwb]; exact (halloc_lt _ _ _ (by simp)).trans (halloc_at _ _ _ (by simp)))
  have HB0 : Hid (wb.heap[w.heap.size + 1 + 1 + 1]? = some (.cells (mcells ((n : Int) + (m : Int)) f) 71 (0, 0))) := Lib.hid (by rw [hwb]; exact halloc_at _ _ _ (by simp))
  have HWZ := Lib.hid hwz
  have hws : IntKind.i64.wrap ((n : Int) + (m : Int)) = (n : Int) + (m : Int) := IntWalk.i64_in _ (by omega)
  simp only [mv, mcells]
  simp only [mcells] at hwb
  clear hwz
  go_enter Try.func90, Try.ntmps90
  go_wp2_with fail
  rw [← hwb]
  clear hwb
  go_loopw [6, 17] (fun _ i wr => ∃ k : Nat, k ≤ m ∧ i = .int .i64 k ∧ wr.heap[w.heap.size + 1 + 1 + 1]? = some (.cells (mcells ((n : Int) + (m : Int)) (bsK n f g k)) 71 (0, 0)) ∧ Below (w.heap.size + 1 + 1 + 1) wb wr) (fun _ i _ => m - (intOf i).toNat)
  case atStart => exact ⟨0, by omega, rfl, by rw [bsK_zero]; exact HB0.out, Below.refl _ _⟩
  case round =>
    obtain ⟨k, hk, rfl, hbb, hb⟩ := hrel
    have HBB := Lib.hid hbb
    have HB := Lib.hid hb
    have hx := (hb.block _ (by omega)).trans HX.out
    have hy := (hb.block _ (by omega)).trans HY.out
    have hz := (hb.block _ (by omega)).trans HZ.out
    by_cases hkm : k < m
    · have hkm' : (k : Int) < (m : Int) := by omega
      have hk5 : (k : Int) < 5 := by omega
      have x0 := (blk6 hx).1
      have y1 := blk_at hy k (by omega)
      have hset := blk_set hbb (n + k) (by omega) ((n : Int) + g k)
      rw [bsK_succ] at hset
      have HSET := Lib.hid hset
      have b1 := blk_at hbb (n + k) (by omega)
      have hfr := blk_free hbb (1 + (n + k))
      have hg := HG.out k hkm
      have hw2 : IntKind.i64.wrap ((n : Int) + g k) = (n : Int) + g k := IntWalk.i64_in _ (by omega)
      have hw3 : IntKind.i64.wrap ((n : Int) + (k : Int)) = (n : Int) + (k : Int) := IntWalk.i64_in _ (by omega)
      have hi0 : (0 : Int) ≤ (n : Int) + (k : Int) := by omega
      have hi1 : (n : Int) + (k : Int) < 5 := by omega
      have hito : ((n : Int) + (k : Int)).toNat = n + k := by omega
      clear hx hy hz hbb hb hset hg
      generalize g k = Y at *
      generalize bsK n f g k (n + k) = Z at *
      go_wp2_with fail
      go_still_tail 13, (by kernel_rfl)
      go_wp2_with fail
      go_roundw
      case rel => exact ⟨k + 1, by omega, by go_num, HSET.out, (HB.out.setCell (Nat.le_refl _) _).drew⟩
      case measure => simp [intOf]; omega
    · obtain rfl : k = m := by omega
      obtain ⟨e0, e1, e2, e3, e4, e5⟩ := blk6 hbb
      obtain ⟨r0, r1, r2, r3, r4, r5⟩ := blk6 hz
      have x0 := (blk6 hx).1
      have y0 := (blk6 hy).1
      have hfr := blk_free hz
      have HBW : Hid (Below w.heap.size w wr) := Lib.hid (HWB.out.trans (hb.mono (by omega)))
      clear hx hy hz hbb hb
      go_wp2_with fail
      refine bodyPost_ret (v := mv ((n : Int) + (k : Int)) (bsK n f g k)) (by simp [results, Try.results90, go_sem, r0, r1, r2, r3, r4, r5, mv, mcells]) rfl ⟨rfl, ?_⟩
      (repeat' (first | (with_reducible exact Below.refl _ _) | (with_reducible refine Below.alloc ?_ ?_ _) | (with_reducible refine Below.setCell ?_ ?_ _) | (with_reducible refine Below.drew ?_) | (with_reducible refine below_drewN ?_ _) | (with_reducible refine Below.trans ?_ (Below.mono (Hid.out (by assumption)) ?_)) | omega | (simp; done) | (simp; omega)))

end Go.Proofs.Ytgiefgbpcjoieaa
