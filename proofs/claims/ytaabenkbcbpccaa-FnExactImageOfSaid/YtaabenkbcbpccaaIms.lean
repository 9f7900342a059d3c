/- The contracts of spec.ImageOf and impl.ImageOf. -/
import Derived.Test.YtaabenkbcbpccaaBits
import Derived.Test.YtaabenkbcbpccaaPoints
import Derived.Test.YtaabenkbcbpccaaFixed
import Derived.Deep.RegionHeld3
namespace Go.Proofs.Ytaabenkbcbpccaa
open Go.RowKit

/-- The image of a list of points; empty if the code is not 0. -/
def imsL (p : Int) (t : Nat → Int) (L : List Int) : List Int := if setC p t L = 0 then asc (movK t (memB L) p.toNat) else []

theorem setC_zero {p : Int} {t : Nat → Int} {L : List Int} (h : setC p t L = 0) : isB p t = true ∧ ptsB p L = true := by
  unfold setC ptsC at h
  constructor
  · cases hv : isB p t
    · rw [if_neg (by rw [hv]; exact Bool.false_ne_true)] at h; omega
    · rfl
  · cases hv : ptsB p L
    · split at h
      · rw [if_neg (by rw [hv]; exact Bool.false_ne_true)] at h; omega
      · omega
    · rfl

theorem setC_cases (p : Int) (t : Nat → Int) (L : List Int) : setC p t L = 0 ∨ (setC p t L ≠ 0 ∧ isB p t = false ∧ setC p t L = 1) ∨ (setC p t L ≠ 0 ∧ isB p t = true ∧ ptsB p L = false ∧ setC p t L = 2) := by
  unfold setC ptsC
  cases isB p t <;> cases ptsB p L <;> simp

set_option maxHeartbeats 1000000 in
theorem sIms_any (p : Int) (t : Nat → Int) (L : List Int) (hn : L.length ≤ 1048576) (a : Option Addr) (c : Nat) (w : World) (h : InRow w a L) :
    Calls Try.prog 12 #[mv p t, .slice a L.length c] w (RetRow w.heap.size (imsL p t L) (setC p t L) w) := by
  have HN := Lib.hid h
  have rf0 : ∀ x : World, x.heap[w.heap.size]? = some (.cells (mcells p t) 27 (0, 0)) → x.cell? ⟨w.heap.size, 0, none⟩ = some (.int .i64 p) := fun x h => (blk6 h).1
  have rf1 : ∀ x : World, x.heap[w.heap.size]? = some (.cells (mcells p t) 27 (0, 0)) → x.cell? ⟨w.heap.size, 1, none⟩ = some (.int .i64 (t 0)) := fun x h => (blk6 h).2.1
  have rf2 : ∀ x : World, x.heap[w.heap.size]? = some (.cells (mcells p t) 27 (0, 0)) → x.cell? ⟨w.heap.size, 2, none⟩ = some (.int .i64 (t 1)) := fun x h => (blk6 h).2.2.1
  have rf3 : ∀ x : World, x.heap[w.heap.size]? = some (.cells (mcells p t) 27 (0, 0)) → x.cell? ⟨w.heap.size, 3, none⟩ = some (.int .i64 (t 2)) := fun x h => (blk6 h).2.2.2.1
  have rf4 : ∀ x : World, x.heap[w.heap.size]? = some (.cells (mcells p t) 27 (0, 0)) → x.cell? ⟨w.heap.size, 4, none⟩ = some (.int .i64 (t 3)) := fun x h => (blk6 h).2.2.2.2.1
  have rf5 : ∀ x : World, x.heap[w.heap.size]? = some (.cells (mcells p t) 27 (0, 0)) → x.cell? ⟨w.heap.size, 5, none⟩ = some (.int .i64 (t 4)) := fun x h => (blk6 h).2.2.2.2.2
  by_cases hC : setC p t L = 0
  · have e1 : imsL p t L = asc (movK t (memB L) p.toNat) := by unfold imsL; rw [if_pos hC]
    obtain ⟨hv, hp⟩ := setC_zero hC
    have h5 := (isB_pts hv).2
    rw [e1]
    have HSET := fun w h => set_any p t L hn a c w h
    rw [hC] at HSET ⊢
    have HSET := Lib.hid HSET
    have HB := Lib.hid fun wx (hx : Below w.heap.size w wx) => sbits_any p h5 L hp hn a c wx (HN.out.below hx)
    have HM := Lib.hid fun wx => smoved_any p t hv (memB L) wx
    have HP := Lib.hid fun wx => spoints_any (movK t (memB L) p.toNat) wx
    clear h hC e1 hv hp
    have hLen := asc_len (movK t (memB L) p.toNat)
    have HLen := Lib.hid hLen
    clear hLen
    generalize asc (movK t (memB L) p.toNat) = R at *
    generalize mask (movK t (memB L) p.toNat) = M2 at *
    generalize mask (memB L) = M1 at *
    simp only [mv, mcells] at *
    go_enter Try.func12, Try.ntmps12
    go_wp2_with fail
    refine (HSET.out _ (HN.out.below (by (repeat' (first | (with_reducible exact Below.refl _ _) | (with_reducible refine Below.alloc ?_ ?_ _) | (with_reducible refine Below.setCell ?_ ?_ _) | (with_reducible refine Below.drew ?_) | (with_reducible refine below_drewN ?_ _) | (with_reducible refine Below.trans ?_ (Below.mono (Hid.out (by assumption)) ?_)) | omega | (simp; done) | (simp; omega)))))).mono ?_
    rintro e w1 ⟨rfl, hb⟩
    obtain ⟨hc, hf⟩ := bcell hb
    have hz := hb.size
    have Hb := Lib.hid hb
    (try simp at hz hc hf)
    have hz0 : w.heap.size < w1.heap.size := by omega
    clear hb
    go_wp2_with fail
    go_region_held3 (fun w' => w'.heap[w.heap.size]? = some (.cells (mcells p t) 27 (0, 0))) (first | ((try dsimp only); (try go_split_ands); (repeat' apply And.intro) <;> ((repeat' (first | omega | (rw [hdrew]) | (with_reducible assumption) | (with_reducible exact Hid.out (by assumption)) | (with_reducible rfl) | ((with_reducible refine halloc_at _ _ _ ?_) <;> (first | (with_reducible rfl) | omega | (simp; done))) | (with_reducible refine chain6 ?_) | (with_reducible refine Eq.trans (hset_ne _ _ _ _ ?_) ?_) | (with_reducible refine Eq.trans (halloc_lt _ _ _ ?_) ?_) | (with_reducible refine Eq.trans (Below.block (Hid.out (by assumption)) _ ?_) ?_) | (simp; done) | (simp; omega))); done)))
      (first
        | (go_at_call 40; (with_reducible refine (HB.out _ (by (repeat' (first | (with_reducible exact Below.refl _ _) | (with_reducible refine Below.alloc ?_ ?_ _) | (with_reducible refine Below.setCell ?_ ?_ _) | (with_reducible refine Below.drew ?_) | (with_reducible refine below_drewN ?_ _) | (with_reducible refine Below.trans ?_ (Below.mono (Hid.out (by assumption)) ?_)) | omega | (simp; done) | (simp; omega))))).mono ?_); rintro e w1 ⟨rfl, rfl⟩)
        | (go_at_call 39; (with_reducible refine (HM.out _).mono ?_); rintro e w1 ⟨rfl, hb⟩; obtain ⟨hc, hf⟩ := bcell hb; have hz := hb.size; have Hb := Lib.hid hb; (try simp at hz hc hf); (try (have hy := Nat.lt_of_succ_le hz)); have hz0 : w.heap.size < w1.heap.size := (by omega); clear hb)
        | (go_at_call 38; (with_reducible refine (HP.out _).mono ?_); rintro e w1 ⟨v, rfl, hown, hbel⟩; obtain ⟨ax, cx, rfl, hrd⟩ := own_rd hown HLen.out; have HBx := Lib.hid hbel; have HOx := Lib.hid hrd; have hz := hbel.size; (try simp at hz); clear hbel hown hrd))
    all_goals go_wp2_with fail
    all_goals go_ret2
    all_goals
      refine ⟨_, _, rfl, HOx.out.mono (by omega), ?_⟩
      (repeat' (first | (with_reducible exact Below.refl _ _) | (with_reducible refine Below.alloc ?_ ?_ _) | (with_reducible refine Below.setCell ?_ ?_ _) | (with_reducible refine Below.drew ?_) | (with_reducible refine below_drewN ?_ _) | (with_reducible refine Below.trans ?_ (Below.mono (Hid.out (by assumption)) ?_)) | omega | (simp; done) | (simp; omega)))
  · have e1 : imsL p t L = [] := by unfold imsL; rw [if_neg hC]
    rw [e1]
    have hC2 : (setC p t L != 0) = true := by simpa using hC
    have HSET := Lib.hid fun w h => set_any p t L hn a c w h
    clear h hC e1
    generalize setC p t L = C at *
    simp only [mv, mcells] at *
    go_enter Try.func12, Try.ntmps12
    go_wp2_with fail
    refine (HSET.out _ (HN.out.below (by (repeat' (first | (with_reducible exact Below.refl _ _) | (with_reducible refine Below.alloc ?_ ?_ _) | (with_reducible refine Below.setCell ?_ ?_ _) | (with_reducible refine Below.drew ?_) | (with_reducible refine below_drewN ?_ _) | (with_reducible refine Below.trans ?_ (Below.mono (Hid.out (by assumption)) ?_)) | omega | (simp; done) | (simp; omega)))))).mono ?_
    rintro e w1 ⟨rfl, hb⟩
    have Hb := Lib.hid hb
    have hz := hb.size
    (try simp at hz)
    clear hb
    go_wp2_with fail
    go_ret2
    refine ⟨none, 0, rfl, ⟨by simp, Or.inl rfl⟩, ?_⟩
    (repeat' (first | (with_reducible exact Below.refl _ _) | (with_reducible refine Below.alloc ?_ ?_ _) | (with_reducible refine Below.setCell ?_ ?_ _) | (with_reducible refine Below.drew ?_) | (with_reducible refine below_drewN ?_ _) | (with_reducible refine Below.trans ?_ (Below.mono (Hid.out (by assumption)) ?_)) | omega | (simp; done) | (simp; omega)))
end Go.Proofs.Ytaabenkbcbpccaa
