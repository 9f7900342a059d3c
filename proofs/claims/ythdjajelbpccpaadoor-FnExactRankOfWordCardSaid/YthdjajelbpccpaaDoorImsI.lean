/- The contract of impl.ImageOf. -/
import Derived.Test.YthdjajelbpccpaaDoorIms
import Derived.Test.YthdjajelbpccpaaDoorBase
import Derived.Test.YthdjajelbpccpaaDoorRank
namespace Go.Proofs.YthdjajelbpccpaaDoor
open Go.RowKit

set_option maxHeartbeats 1000000 in
theorem iIms_any (p : Int) (t : Nat → Int) (L : List Int) (hn : L.length ≤ 1048576) (a : Option Addr) (c : Nat) (w : World) (h : InRow w a L) :
    Calls Tryd.prog 41 #[mv p t, .slice a L.length c] w (RetRow w.heap.size (imsL p t L) (setC p t L) w) := by
  have HN := Lib.hid h
  have HI := Lib.hid fun w => iis_any p t w
  clear h
  have rf0 : ∀ x : World, x.heap[w.heap.size]? = some (.cells (mcells p t) 54 (0, 0)) → x.cell? ⟨w.heap.size, 0, none⟩ = some (.int .i64 p) := fun x h => (blk6 h).1
  have rf1 : ∀ x : World, x.heap[w.heap.size]? = some (.cells (mcells p t) 54 (0, 0)) → x.cell? ⟨w.heap.size, 1, none⟩ = some (.int .i64 (t 0)) := fun x h => (blk6 h).2.1
  have rf2 : ∀ x : World, x.heap[w.heap.size]? = some (.cells (mcells p t) 54 (0, 0)) → x.cell? ⟨w.heap.size, 2, none⟩ = some (.int .i64 (t 1)) := fun x h => (blk6 h).2.2.1
  have rf3 : ∀ x : World, x.heap[w.heap.size]? = some (.cells (mcells p t) 54 (0, 0)) → x.cell? ⟨w.heap.size, 3, none⟩ = some (.int .i64 (t 2)) := fun x h => (blk6 h).2.2.2.1
  have rf4 : ∀ x : World, x.heap[w.heap.size]? = some (.cells (mcells p t) 54 (0, 0)) → x.cell? ⟨w.heap.size, 4, none⟩ = some (.int .i64 (t 3)) := fun x h => (blk6 h).2.2.2.2.1
  have rf5 : ∀ x : World, x.heap[w.heap.size]? = some (.cells (mcells p t) 54 (0, 0)) → x.cell? ⟨w.heap.size, 5, none⟩ = some (.int .i64 (t 4)) := fun x h => (blk6 h).2.2.2.2.2
  rcases setC_cases p t L with hC | ⟨_, hv, hC⟩ | ⟨_, hv, hp, hC⟩
  · have e1 : imsL p t L = asc (movK t (memB L) p.toNat) := by unfold imsL; rw [if_pos hC]
    obtain ⟨hv, hp⟩ := setC_zero hC
    rw [e1, hC]
    obtain ⟨h1, h5⟩ := isB_pts hv
    have HA := fun wx (hx : Below w.heap.size w wx) => aap_any p L hn a c wx (HN.out.below hx)
    rw [hp] at HA
    have HA := Lib.hid HA
    have HI := HI.out
    rw [hv] at HI
    have HI := Lib.hid HI
    have HS := Lib.hid fun wx (hx : Below w.heap.size w wx) => setPts_any p h5 L hp hn a c wx (HN.out.below hx)
    have HM := fun wx => imgSet_any p t (memB L) (fun i _ hs => by
      by_cases hip : (i : Int) < p
      · have := ok_at hv i hip; omega
      · rw [mem_out hp i (by omega)] at hs; cases hs) wx
    have hcut : movK t (memB L) 5 = movK t (memB L) p.toNat := by
      have := mov_cut t (memB L) p.toNat (5 - p.toNat) (by omega) (fun i hi _ => mem_out hp i (by omega))
      rw [show p.toNat + (5 - p.toNat) = 5 by omega] at this
      exact this
    rw [hcut] at HM
    have HM := Lib.hid HM
    have HR := Lib.hid (asc_any (movK t (memB L) p.toNat))
    have HLen := Lib.hid (asc_len (movK t (memB L) p.toNat))
    clear hC e1 hv hp hcut
    generalize asc (movK t (memB L) p.toNat) = R at *
    generalize movK t (memB L) p.toNat = M2 at *
    generalize memB L = M1 at *
    simp only [mv, mcells, cells5] at *
    go_enter Tryd.func41, Tryd.ntmps41
    go_wp2_with fail
    (refine (HI.out _).mono ?_; rintro e w1 ⟨rfl, hb⟩; obtain ⟨hc, hf⟩ := bcell hb; have hz := hb.size; have Hb := Lib.hid hb; (try simp at hz hc hf); (try (have hy := Nat.lt_of_succ_le hz)); have hz0 : w.heap.size < w1.heap.size := (by omega); clear hb)
    go_wp2_with fail
    refine (HA.out _ (by (repeat' (first | (with_reducible exact Below.refl _ _) | (with_reducible refine Below.alloc ?_ ?_ _) | (with_reducible refine Below.setCell ?_ ?_ _) | (with_reducible refine Below.drew ?_) | (with_reducible refine below_drewN ?_ _) | (with_reducible refine Below.trans ?_ (Below.mono (Hid.out (by assumption)) ?_)) | omega | (simp; done) | (simp; omega))))).mono ?_
    rintro e w2 ⟨rfl, m, hw2⟩
    have hbq := below_drewN Hb.out m
    rw [← hw2] at hbq
    have hz9 : w.heap.size < w2.heap.size := by rw [hw2]; show _ < w1.heap.size; omega
    have HBX := Lib.hid ((hbq.block w.heap.size (by simp)).trans (halloc_at w _ _ rfl))
    have HB2 : Hid (Below w.heap.size w w2) := Lib.hid (((Below.refl _ _).alloc (Nat.le_refl _) _).trans (hbq.mono (by simp)))
    clear hbq hw2 hc hf hz hz0 hy Hb
    go_wp2_with fail
    go_region_held3 (fun w' => w'.heap[w.heap.size]? = some (.cells (mcells p t) 54 (0, 0))) (first | ((try dsimp only); (try go_split_ands); (repeat' apply And.intro) <;> ((repeat' (first | omega | (rw [hdrew]) | (with_reducible assumption) | (with_reducible exact Hid.out (by assumption)) | (with_reducible rfl) | ((with_reducible refine halloc_at _ _ _ ?_) <;> (first | (with_reducible rfl) | omega | (simp; done))) | (with_reducible refine chain6 ?_) | (with_reducible refine Eq.trans (hset_ne _ _ _ _ ?_) ?_) | (with_reducible refine Eq.trans (halloc_lt _ _ _ ?_) ?_) | (with_reducible refine Eq.trans (Below.block (Hid.out (by assumption)) _ ?_) ?_) | (simp; done) | (simp; omega))); done)))
      (first
        | (go_at_call 66; (with_reducible refine (HS.out _ (by (repeat' (first | (with_reducible exact Below.refl _ _) | (with_reducible refine Below.alloc ?_ ?_ _) | (with_reducible refine Below.setCell ?_ ?_ _) | (with_reducible refine Below.drew ?_) | (with_reducible refine below_drewN ?_ _) | (with_reducible refine Below.trans ?_ (Below.mono (Hid.out (by assumption)) ?_)) | omega | (simp; done) | (simp; omega))))).mono ?_); rintro e w1 ⟨rfl, hb⟩; have hz := hb.size; have Hb := Lib.hid hb; (try simp at hz); clear hb)
        | (go_at_call 61; (with_reducible refine (HM.out _).mono ?_); rintro e w1 ⟨rfl, hb⟩; obtain ⟨hc, hf⟩ := bcell hb; have hz := hb.size; have Hb := Lib.hid hb; (try simp at hz hc hf); (try (have hy := Nat.lt_of_succ_le hz)); have hz0 : w.heap.size < w1.heap.size := (by omega); clear hb)
        | (go_at_call 67; (with_reducible refine (HR.out _).mono ?_); rintro e w1 ⟨v, rfl, hown, hbel⟩; obtain ⟨ax, cx, rfl, hrd⟩ := own_rd hown HLen.out; have HBx := Lib.hid hbel; have HOx := Lib.hid hrd; have hz := hbel.size; (try simp at hz); clear hbel hown hrd))
    all_goals go_wp2_with fail
    all_goals go_ret2
    all_goals
      refine ⟨_, _, rfl, HOx.out.mono (by omega), ?_⟩
      (repeat' (first | (with_reducible exact Below.refl _ _) | (with_reducible refine Below.alloc ?_ ?_ _) | (with_reducible refine Below.setCell ?_ ?_ _) | (with_reducible refine Below.drew ?_) | (with_reducible refine below_drewN ?_ _) | (with_reducible refine Below.trans ?_ (Below.mono (Hid.out (by assumption)) ?_)) | omega | (simp; done) | (simp; omega)))
  · have e1 : imsL p t L = [] := by unfold imsL; rw [if_neg (by omega)]
    rw [e1, hC]
    have HI := HI.out
    rw [hv] at HI
    have HI := Lib.hid HI
    clear hC e1 hv
    simp only [mv, mcells] at *
    go_enter Tryd.func41, Tryd.ntmps41
    go_wp2_with fail
    (refine (HI.out _).mono ?_; rintro e w1 ⟨rfl, hb⟩; obtain ⟨hc, hf⟩ := bcell hb; have hz := hb.size; have Hb := Lib.hid hb; (try simp at hz hc hf); (try (have hy := Nat.lt_of_succ_le hz)); have hz0 : w.heap.size < w1.heap.size := (by omega); clear hb)
    go_wp2_with fail
    go_ret2
    refine ⟨none, 0, rfl, ⟨by simp, Or.inl rfl⟩, ?_⟩
    (repeat' (first | (with_reducible exact Below.refl _ _) | (with_reducible refine Below.alloc ?_ ?_ _) | (with_reducible refine Below.setCell ?_ ?_ _) | (with_reducible refine Below.drew ?_) | (with_reducible refine below_drewN ?_ _) | (with_reducible refine Below.trans ?_ (Below.mono (Hid.out (by assumption)) ?_)) | omega | (simp; done) | (simp; omega)))
  · have e1 : imsL p t L = [] := by unfold imsL; rw [if_neg (by omega)]
    rw [e1, hC]
    have HI := HI.out
    rw [hv] at HI
    have HI := Lib.hid HI
    have HA := fun wx (hx : Below w.heap.size w wx) => aap_any p L hn a c wx (HN.out.below hx)
    rw [hp] at HA
    have HA := Lib.hid HA
    clear hC e1 hv hp
    simp only [mv, mcells] at *
    go_enter Tryd.func41, Tryd.ntmps41
    go_wp2_with fail
    (refine (HI.out _).mono ?_; rintro e w1 ⟨rfl, hb⟩; obtain ⟨hc, hf⟩ := bcell hb; have hz := hb.size; have Hb := Lib.hid hb; (try simp at hz hc hf); (try (have hy := Nat.lt_of_succ_le hz)); have hz0 : w.heap.size < w1.heap.size := (by omega); clear hb)
    go_wp2_with fail
    refine (HA.out _ (by (repeat' (first | (with_reducible exact Below.refl _ _) | (with_reducible refine Below.alloc ?_ ?_ _) | (with_reducible refine Below.setCell ?_ ?_ _) | (with_reducible refine Below.drew ?_) | (with_reducible refine below_drewN ?_ _) | (with_reducible refine Below.trans ?_ (Below.mono (Hid.out (by assumption)) ?_)) | omega | (simp; done) | (simp; omega))))).mono ?_
    rintro e w2 ⟨rfl, m, rfl⟩
    go_wp2_with fail
    go_ret2
    refine ⟨none, 0, rfl, ⟨by simp, Or.inl rfl⟩, ?_⟩
    (repeat' (first | (with_reducible exact Below.refl _ _) | (with_reducible refine Below.alloc ?_ ?_ _) | (with_reducible refine Below.setCell ?_ ?_ _) | (with_reducible refine Below.drew ?_) | (with_reducible refine below_drewN ?_ _) | (with_reducible refine Below.trans ?_ (Below.mono (Hid.out (by assumption)) ?_)) | omega | (simp; done) | (simp; omega)))
end Go.Proofs.YthdjajelbpccpaaDoor
