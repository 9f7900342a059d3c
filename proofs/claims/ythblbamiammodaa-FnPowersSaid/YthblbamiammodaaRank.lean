/- The contracts of impl.allPoints, impl.setOfPoints, impl.imageOfSet, (impl.pointSet).size and impl.rank. -/
import Derived.Test.YthblbamiammodaaSl
import Derived.Test.YthblbamiammodaaBitm
import Derived.Deep.RegionHeld3
namespace Go.Proofs.Ythblbamiammodaa
open Go.RowKit

/-- The set of the points less than n. -/
def allN (n : Nat) : Nat → Bool := fun i => decide (i < n)

theorem img_all {p : Int} (t : Nat → Int) (h0 : 0 ≤ p) (h5 : p ≤ 5) : movK t (allN p.toNat) 5 = imgB p t := by
  funext j
  unfold movK imgB imgK allN
  rcases (by omega : p = 0 ∨ p = 1 ∨ p = 2 ∨ p = 3 ∨ p = 4 ∨ p = 5) with rfl | rfl | rfl | rfl | rfl | rfl <;> simp [List.range, List.range.loop]

theorem mov_cut (t : Nat → Int) (s : Nat → Bool) (k : Nat) : ∀ d, k + d ≤ 5 → (∀ i, k ≤ i → i < 5 → s i = false) → movK t s (k + d) = movK t s k
  | 0, _, _ => rfl
  | d + 1, h, hs => by
    rw [← Nat.add_assoc, ← movK_no t s (k + d) (hs _ (by omega) (by omega))]
    exact mov_cut t s k d (by omega) hs

theorem mem_out {p : Int} {L : List Int} (h : ptsB p L = true) (i : Nat) (hi : p ≤ (i : Int)) : memB L i = false := by
  unfold memB memK
  rw [List.any_eq_false]
  intro x hx
  have := ptsB_at h x (by simpa using hx)
  simp only [beq_iff_eq]
  omega

set_option maxHeartbeats 1000000 in
theorem allPts_any (n : Nat) (h5 : n ≤ 5) (w : World) :
    Calls Try.prog 72 #[.int .i64 n] w fun e w' => e = .returned (.agg (cells5 (allN n))) ∧ Below w.heap.size w w' := by
  rcases (by omega : n = 0 ∨ n = 1 ∨ n = 2 ∨ n = 3 ∨ n = 4 ∨ n = 5) with rfl | rfl | rfl | rfl | rfl | rfl
  all_goals
    go_enter Try.func72, Try.ntmps72
    go_wp2
    refine wp_loop_rounds 6 ?_
    repeat (rw [rounds_succ]; go_wp2)
    refine bodyPost_ret (v := .agg (cells5 (allN _))) (by simp [results, Try.results72, go_sem, allN, cells5]) rfl ⟨rfl, ?_⟩
    (repeat' (first | (with_reducible exact Below.refl _ _) | (with_reducible refine Below.alloc ?_ ?_ _) | (with_reducible refine Below.setCell ?_ ?_ _) | (with_reducible refine Below.drew ?_) | (with_reducible refine below_drewN ?_ _) | (with_reducible refine Below.trans ?_ (Below.mono (Hid.out (by assumption)) ?_)) | omega | (simp; done) | (simp; omega)))



set_option maxHeartbeats 1000000 in
theorem imgSet_any (p : Int) (t : Nat → Int) (s : Nat → Bool) (ht : ∀ i, i < 5 → s i = true → 0 ≤ t i ∧ t i < 5) (w : World) :
    Calls Try.prog 71 #[mv p t, .agg (cells5 s)] w fun e w' => e = .returned (.agg (cells5 (movK t s 5))) ∧ Below w.heap.size w w' := by
  have HT := Lib.hid ht
  have HX := Lib.hid fun k (hk : k < 5) w => idx5b s k hk w
  clear ht
  simp only [mv, mcells]
  simp only [cells5] at HX ⊢
  go_enter Try.func71, Try.ntmps71
  go_wp2_with fail
  go_loopw [6, 7, 9] (fun _ _ i wr => ∃ (k : Nat), k ≤ 5 ∧ i = .int .i64 k ∧ Below w.heap.size w wr ∧ w.heap.size + 1 + 1 + 1 < wr.heap.size ∧
      wr.heap[w.heap.size]? = some (.cells (mcells p t) 26 (0, 0)) ∧ wr.heap[w.heap.size + 1 + 1]? = some (.cells (cells5 fun _ => false) 74 (0, 0)) ∧
      wr.heap[w.heap.size + 1 + 1 + 1]? = some (.cells (cells5 (movK t s k)) 74 (0, 0))) (fun _ _ i _ => 5 - (intOf i).toNat)
  case atStart =>
    refine ⟨0, by omega, rfl, ?_, by simp, ?_, ?_, ?_⟩
    · (repeat' (first | (with_reducible exact Below.refl _ _) | (with_reducible refine Below.alloc ?_ ?_ _) | (with_reducible refine Below.setCell ?_ ?_ _) | (with_reducible refine Below.drew ?_) | (with_reducible refine below_drewN ?_ _) | (with_reducible refine Below.trans ?_ (Below.mono (Hid.out (by assumption)) ?_)) | omega | (simp; done) | (simp; omega)))
    · ((try rw [hdrew]); simp only [halloc, Array.getElem?_push, Array.size_push]; (repeat (first | rw [if_pos (by omega)] | rw [if_neg (by omega)])); try rfl)
    · ((try rw [hdrew]); simp only [halloc, Array.getElem?_push, Array.size_push]; (repeat (first | rw [if_pos (by omega)] | rw [if_neg (by omega)])); try rfl)
    · ((try rw [hdrew]); simp only [halloc, Array.getElem?_push, Array.size_push]; (repeat (first | rw [if_pos (by omega)] | rw [if_neg (by omega)])); try rfl)
  case round =>
    obtain ⟨k, hk, rfl, hb, hsz, b0, b2, b3⟩ := hrel
    have Hb := Lib.hid hb
    have B0 := Lib.hid b0
    have B2 := Lib.hid b2
    have B3 := Lib.hid b3
    clear hb b0 b2 b3
    by_cases hk5 : k < 5
    · have hk5' : (k : Int) < 5 := by omega
      have hix := HX.out k hk5
      cases hs : s k
      · rw [hs] at hix
        have HM := Lib.hid (movK_no t s k hs)
        clear hs
        go_wp2_with fail
        go_roundw
        case rel => exact ⟨k + 1, by omega, by go_num, Hb.out, hsz, B0.out, B2.out, by rw [← HM.out]; exact B3.out⟩
        case measure => simp [intOf]; omega
      · rw [hs] at hix
        obtain ⟨f0, f1⟩ := HT.out k hk5 hs
        have hfk := blk_at B0.out k hk5
        have hok := blk5_at B3.out (t k).toNat (by omega)
        have hfr := blk_free B3.out (t k).toNat
        have hset := blk5_set B3.out (t k).toNat (by omega)
        rw [movK_yes t s k hs f0] at hset
        have HSET := Lib.hid hset
        clear hset hs
        generalize t k = X at *
        go_wp2_with fail
        go_roundw
        case rel =>
          refine ⟨k + 1, by omega, by go_num, Hb.out.setCell (by simp; omega) _, by simpa using hsz, ?_, ?_, HSET.out⟩
          · rw [hset_ne _ _ _ _ (by simp; omega)]; exact B0.out
          · rw [hset_ne _ _ _ _ (by simp)]; exact B2.out
        case measure => simp [intOf]; omega
    · obtain rfl : k = 5 := by omega
      obtain ⟨e0, e1, e2, e3, e4⟩ := blk5 B3.out
      obtain ⟨r0, r1, r2, r3, r4⟩ := blk5 B2.out
      have hfr := blk_free B2.out
      go_wp2_with fail
      refine bodyPost_ret (v := .agg (cells5 (movK t s 5))) (by simp [results, Try.results71, go_sem, r0, r1, r2, r3, r4, cells5]) rfl ⟨rfl, ?_⟩
      (repeat' (first | (with_reducible exact Below.refl _ _) | (with_reducible refine Below.alloc ?_ ?_ _) | (with_reducible refine Below.setCell ?_ ?_ _) | (with_reducible refine Below.drew ?_) | (with_reducible refine below_drewN ?_ _) | (with_reducible refine Below.trans ?_ (Below.mono (Hid.out (by assumption)) ?_)) | omega | (simp; done) | (simp; omega)))

set_option maxHeartbeats 1000000 in
theorem size_any (s : Nat → Bool) (w : World) :
    Calls Try.prog 73 #[.agg (cells5 s)] w fun e w' => e = .returned (.int .i64 (asc s).length) ∧ Below w.heap.size w w' := by
  have HR := Lib.hid (asc_any s)
  simp only [cells5] at HR ⊢
  go_enter Try.func73, Try.ntmps73
  go_wp2_with fail
  refine (HR.out _).mono ?_
  rintro e w1 ⟨v, rfl, hown, hbel⟩
  have HB := Lib.hid hbel
  clear hbel
  rcases own_shape hown with ⟨rfl, hnil⟩ | ⟨g, cap, rfl, _, _⟩
  · clear hown
    have HN := Lib.hid hnil
    clear hnil
    go_wp2_with fail
    go_ret
    refine ⟨ret_i ?_, ?_⟩
    · rw [HN.out]; rfl
    · (repeat' (first | (with_reducible exact Below.refl _ _) | (with_reducible refine Below.alloc ?_ ?_ _) | (with_reducible refine Below.setCell ?_ ?_ _) | (with_reducible refine Below.drew ?_) | (with_reducible refine below_drewN ?_ _) | (with_reducible refine Below.trans ?_ (Below.mono (Hid.out (by assumption)) ?_)) | omega | (simp; done) | (simp; omega)))
  · clear hown
    go_wp2_with fail
    go_ret
    refine ⟨rfl, ?_⟩
    (repeat' (first | (with_reducible exact Below.refl _ _) | (with_reducible refine Below.alloc ?_ ?_ _) | (with_reducible refine Below.setCell ?_ ?_ _) | (with_reducible refine Below.drew ?_) | (with_reducible refine below_drewN ?_ _) | (with_reducible refine Below.trans ?_ (Below.mono (Hid.out (by assumption)) ?_)) | omega | (simp; done) | (simp; omega)))

set_option maxHeartbeats 2000000 in
/-- impl.rank at a map, and at the zero value (p = 0). -/
theorem irank_all (p : Int) (t : Nat → Int) (h0 : 0 ≤ p) (h5 : p ≤ 5) (ht : ∀ i : Nat, (i : Int) < p → 0 ≤ t i ∧ t i < 5) (w : World) :
    Calls Try.prog 51 #[mv p t] w fun e w' => e = .returned (.int .i64 (asc (imgB p t)).length) ∧ Below w.heap.size w w' := by
  obtain ⟨m, rfl⟩ := Int.eq_ofNat_of_zero_le h0
  have HA := Lib.hid fun w => allPts_any m (by omega) w
  have HI := fun w => imgSet_any (m : Int) t (allN m) (fun i _ hs => ht i (by unfold allN at hs; simp at hs; omega)) w
  have hia : movK t (allN m) 5 = imgB m t := img_all t h0 h5
  rw [hia] at HI
  have HI := Lib.hid HI
  have HS := Lib.hid fun w => size_any (imgB m t) w
  have rf0 : ∀ x : World, x.heap[w.heap.size]? = some (.cells (mcells m t) 26 (0, 0)) → x.cell? ⟨w.heap.size, 0, none⟩ = some (.int .i64 m) := fun x h => (blk6 h).1
  have rf1 : ∀ x : World, x.heap[w.heap.size]? = some (.cells (mcells m t) 26 (0, 0)) → x.cell? ⟨w.heap.size, 1, none⟩ = some (.int .i64 (t 0)) := fun x h => (blk6 h).2.1
  have rf2 : ∀ x : World, x.heap[w.heap.size]? = some (.cells (mcells m t) 26 (0, 0)) → x.cell? ⟨w.heap.size, 2, none⟩ = some (.int .i64 (t 1)) := fun x h => (blk6 h).2.2.1
  have rf3 : ∀ x : World, x.heap[w.heap.size]? = some (.cells (mcells m t) 26 (0, 0)) → x.cell? ⟨w.heap.size, 3, none⟩ = some (.int .i64 (t 2)) := fun x h => (blk6 h).2.2.2.1
  have rf4 : ∀ x : World, x.heap[w.heap.size]? = some (.cells (mcells m t) 26 (0, 0)) → x.cell? ⟨w.heap.size, 4, none⟩ = some (.int .i64 (t 3)) := fun x h => (blk6 h).2.2.2.2.1
  have rf5 : ∀ x : World, x.heap[w.heap.size]? = some (.cells (mcells m t) 26 (0, 0)) → x.cell? ⟨w.heap.size, 5, none⟩ = some (.int .i64 (t 4)) := fun x h => (blk6 h).2.2.2.2.2
  clear hia ht
  generalize (asc (imgB m t)).length = R at *
  generalize imgB (m : Int) t = S1 at *
  generalize allN m = S0 at *
  simp only [mv, mcells, cells5] at *
  go_enter Try.func51, Try.ntmps51
  go_wp2_with fail
  go_region_held3 (fun w' => w'.heap[w.heap.size]? = some (.cells (mcells m t) 26 (0, 0))) (first | ((try dsimp only); (try go_split_ands); (repeat' apply And.intro) <;> ((repeat' (first | omega | (rw [hdrew]) | (with_reducible assumption) | (with_reducible exact Hid.out (by assumption)) | (with_reducible rfl) | ((with_reducible refine halloc_at _ _ _ ?_) <;> (first | (with_reducible rfl) | omega | (simp; done))) | (with_reducible refine chain6 ?_) | (with_reducible refine Eq.trans (hset_ne _ _ _ _ ?_) ?_) | (with_reducible refine Eq.trans (halloc_lt _ _ _ ?_) ?_) | (with_reducible refine Eq.trans (Below.block (Hid.out (by assumption)) _ ?_) ?_) | (simp; done) | (simp; omega))); done)))
    (first
      | (go_at_call 72; (with_reducible refine (HA.out _).mono ?_); rintro e w1 ⟨rfl, hb⟩; obtain ⟨hc, hf⟩ := bcell hb; have hz := hb.size; have Hb := Lib.hid hb; (try simp at hz hc hf); (try (have hy := Nat.lt_of_succ_le hz)); have hz0 : w.heap.size < w1.heap.size := (by omega); clear hb)
      | (go_at_call 71; (with_reducible refine (HI.out _).mono ?_); rintro e w1 ⟨rfl, hb⟩; obtain ⟨hc, hf⟩ := bcell hb; have hz := hb.size; have Hb := Lib.hid hb; (try simp at hz hc hf); (try (have hy := Nat.lt_of_succ_le hz)); have hz0 : w.heap.size < w1.heap.size := (by omega); clear hb)
      | (go_at_call 73; (with_reducible refine (HS.out _).mono ?_); rintro e w1 ⟨rfl, hb⟩; obtain ⟨hc, hf⟩ := bcell hb; have hz := hb.size; have Hb := Lib.hid hb; (try simp at hz hc hf); (try (have hy := Nat.lt_of_succ_le hz)); have hz0 : w.heap.size < w1.heap.size := (by omega); clear hb))
  all_goals go_wp2_with fail
  all_goals go_ret
  all_goals
    refine ⟨rfl, ?_⟩
    (repeat' (first | (with_reducible exact Below.refl _ _) | (with_reducible refine Below.alloc ?_ ?_ _) | (with_reducible refine Below.setCell ?_ ?_ _) | (with_reducible refine Below.drew ?_) | (with_reducible refine below_drewN ?_ _) | (with_reducible refine Below.trans ?_ (Below.mono (Hid.out (by assumption)) ?_)) | omega | (simp; done) | (simp; omega)))

theorem irank_any (p : Int) (t : Nat → Int) (hf : isB p t = true) (w : World) :
    Calls Try.prog 51 #[mv p t] w fun e w' => e = .returned (.int .i64 (asc (imgB p t)).length) ∧ Below w.heap.size w w' := by
  obtain ⟨h1, h5⟩ := isB_pts hf
  exact irank_all p t (by omega) h5 (fun i hi => by have := ok_at hf i hi; omega) w
end Go.Proofs.Ythblbamiammodaa
