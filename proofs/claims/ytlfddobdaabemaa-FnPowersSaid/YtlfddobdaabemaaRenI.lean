/- The contract of impl.RenumberMap. -/
import Derived.Test.YtlfddobdaabemaaRen
namespace Go.Proofs.Ytlfddobdaabemaa
open Go.RowKit

set_option maxHeartbeats 2000000 in
theorem iRenBad_any (p : Int) (f : Nat → Int) (q : Int) (g : Nat → Int) (h : isB p f = true → isB q g = true → p = q → permB p g = false) (w : World) :
    Calls Try.prog 24 #[mv p f, mv q g] w fun e w' => e = .returned (renV p f q g) ∧ Below w.heap.size w w' := by
  cases hf : isB p f
  · have hl : likeC p f q g = 1 := by simp [likeC, hf]
    rw [renV_1 hl]
    have HA := Lib.hid fun w => iis_any p f w
    rw [hf] at HA
    clear h hf hl
    simp only [mv, mcells]
    go_enter Try.func24, Try.ntmps24
    go_wp2_with fail
    (refine (HA.out _).mono ?_; rintro e w1 ⟨rfl, hb⟩; obtain ⟨hc, hf⟩ := bcell hb; have hz := hb.size; have Hb := Lib.hid hb; (try simp at hz hc hf); (try (have hy := Nat.lt_of_succ_le hz)); have hz0 : w.heap.size < w1.heap.size := (by omega); have hz1 : w.heap.size + 1 < w1.heap.size := (by omega); have hz2 : w.heap.size + 1 + 1 < w1.heap.size := (by omega); clear hb)
    go_wp2_with fail
    refine bodyPost_ret (v := .tuple #[mv 0 fun _ => 0, .int .i64 1]) (by simp [results, Try.results24, go_sem, *]) rfl ⟨rfl, ?_⟩
    (repeat' (first | (with_reducible exact Below.refl _ _) | (with_reducible refine Below.alloc ?_ ?_ _) | (with_reducible refine Below.setCell ?_ ?_ _) | (with_reducible refine Below.drew ?_) | (with_reducible refine below_drewN ?_ _) | (with_reducible refine Below.trans ?_ (Below.mono (Hid.out (by assumption)) ?_)) | omega | (simp; done) | (simp; omega)))
  · cases hg : isB q g
    · have hl : likeC p f q g = 1 := by simp [likeC, hg]
      rw [renV_1 hl]
      have HA := Lib.hid fun w => iis_any p f w
      have HB := Lib.hid fun w => iis_any q g w
      rw [hf] at HA
      rw [hg] at HB
      clear h hf hg hl
      simp only [mv, mcells]
      go_enter Try.func24, Try.ntmps24
      go_wp2_with fail
      (refine (HA.out _).mono ?_; rintro e w1 ⟨rfl, hb⟩; obtain ⟨hc, hf⟩ := bcell hb; have hz := hb.size; have Hb := Lib.hid hb; (try simp at hz hc hf); (try (have hy := Nat.lt_of_succ_le hz)); have hz0 : w.heap.size < w1.heap.size := (by omega); have hz1 : w.heap.size + 1 < w1.heap.size := (by omega); have hz2 : w.heap.size + 1 + 1 < w1.heap.size := (by omega); clear hb)
      go_wp2_with fail
      (refine (HB.out _).mono ?_; rintro e w1 ⟨rfl, hb⟩; obtain ⟨hc, hf⟩ := bcell hb; have hz := hb.size; have Hb := Lib.hid hb; (try simp at hz hc hf); (try (have hy := Nat.lt_of_succ_le hz)); have hz0 : w.heap.size < w1.heap.size := (by omega); have hz1 : w.heap.size + 1 < w1.heap.size := (by omega); have hz2 : w.heap.size + 1 + 1 < w1.heap.size := (by omega); clear hb)
      go_wp2_with fail
      refine bodyPost_ret (v := .tuple #[mv 0 fun _ => 0, .int .i64 1]) (by simp [results, Try.results24, go_sem, *]) rfl ⟨rfl, ?_⟩
      (repeat' (first | (with_reducible exact Below.refl _ _) | (with_reducible refine Below.alloc ?_ ?_ _) | (with_reducible refine Below.setCell ?_ ?_ _) | (with_reducible refine Below.drew ?_) | (with_reducible refine below_drewN ?_ _) | (with_reducible refine Below.trans ?_ (Below.mono (Hid.out (by assumption)) ?_)) | omega | (simp; done) | (simp; omega)))
    · have HA := Lib.hid fun w => iis_any p f w
      have HB := Lib.hid fun w => iis_any q g w
      rw [hf] at HA
      rw [hg] at HB
      by_cases hpq : p = q
      · subst hpq
        have hl : likeC p f p g = 0 := by unfold likeC; rw [if_pos ⟨hf, hg⟩, if_pos rfl]
        have hq := h hf hg rfl
        rw [renV_5 hl hq]
        have HP := Lib.hid fun w => iperm_any p g hg w
        rw [hq] at HP
        clear h hf hg hl hq
        simp only [mv, mcells]
        go_enter Try.func24, Try.ntmps24
        go_wp2_with fail
        (refine (HA.out _).mono ?_; rintro e w1 ⟨rfl, hb⟩; obtain ⟨hc, hf⟩ := bcell hb; have hz := hb.size; have Hb := Lib.hid hb; (try simp at hz hc hf); (try (have hy := Nat.lt_of_succ_le hz)); have hz0 : w.heap.size < w1.heap.size := (by omega); have hz1 : w.heap.size + 1 < w1.heap.size := (by omega); have hz2 : w.heap.size + 1 + 1 < w1.heap.size := (by omega); clear hb)
        go_wp2_with fail
        (refine (HB.out _).mono ?_; rintro e w1 ⟨rfl, hb⟩; obtain ⟨hc, hf⟩ := bcell hb; have hz := hb.size; have Hb := Lib.hid hb; (try simp at hz hc hf); (try (have hy := Nat.lt_of_succ_le hz)); have hz0 : w.heap.size < w1.heap.size := (by omega); have hz1 : w.heap.size + 1 < w1.heap.size := (by omega); have hz2 : w.heap.size + 1 + 1 < w1.heap.size := (by omega); clear hb)
        go_wp2_with fail
        (refine (HP.out _).mono ?_; rintro e w1 ⟨rfl, hb⟩; obtain ⟨hc, hf⟩ := bcell hb; have hz := hb.size; have Hb := Lib.hid hb; (try simp at hz hc hf); (try (have hy := Nat.lt_of_succ_le hz)); have hz0 : w.heap.size < w1.heap.size := (by omega); have hz1 : w.heap.size + 1 < w1.heap.size := (by omega); have hz2 : w.heap.size + 1 + 1 < w1.heap.size := (by omega); clear hb)
        go_wp2_with fail
        refine bodyPost_ret (v := .tuple #[mv 0 fun _ => 0, .int .i64 5]) (by simp [results, Try.results24, go_sem, *]) rfl ⟨rfl, ?_⟩
        (repeat' (first | (with_reducible exact Below.refl _ _) | (with_reducible refine Below.alloc ?_ ?_ _) | (with_reducible refine Below.setCell ?_ ?_ _) | (with_reducible refine Below.drew ?_) | (with_reducible refine below_drewN ?_ _) | (with_reducible refine Below.trans ?_ (Below.mono (Hid.out (by assumption)) ?_)) | omega | (simp; done) | (simp; omega)))
      · have hl : likeC p f q g = 2 := by unfold likeC; rw [if_pos ⟨hf, hg⟩, if_neg hpq]
        rw [renV_2 hl]
        have hb : (p != q) = true := by simp [hpq]
        clear h hf hg hl
        simp only [mv, mcells]
        go_enter Try.func24, Try.ntmps24
        go_wp2_with fail
        (refine (HA.out _).mono ?_; rintro e w1 ⟨rfl, hb⟩; obtain ⟨hc, hf⟩ := bcell hb; have hz := hb.size; have Hb := Lib.hid hb; (try simp at hz hc hf); (try (have hy := Nat.lt_of_succ_le hz)); have hz0 : w.heap.size < w1.heap.size := (by omega); have hz1 : w.heap.size + 1 < w1.heap.size := (by omega); have hz2 : w.heap.size + 1 + 1 < w1.heap.size := (by omega); clear hb)
        go_wp2_with fail
        (refine (HB.out _).mono ?_; rintro e w1 ⟨rfl, hb⟩; obtain ⟨hc, hf⟩ := bcell hb; have hz := hb.size; have Hb := Lib.hid hb; (try simp at hz hc hf); (try (have hy := Nat.lt_of_succ_le hz)); have hz0 : w.heap.size < w1.heap.size := (by omega); have hz1 : w.heap.size + 1 < w1.heap.size := (by omega); have hz2 : w.heap.size + 1 + 1 < w1.heap.size := (by omega); clear hb)
        go_wp2_with fail
        refine bodyPost_ret (v := .tuple #[mv 0 fun _ => 0, .int .i64 2]) (by simp [results, Try.results24, go_sem, *]) rfl ⟨rfl, ?_⟩
        (repeat' (first | (with_reducible exact Below.refl _ _) | (with_reducible refine Below.alloc ?_ ?_ _) | (with_reducible refine Below.setCell ?_ ?_ _) | (with_reducible refine Below.drew ?_) | (with_reducible refine below_drewN ?_ _) | (with_reducible refine Below.trans ?_ (Below.mono (Hid.out (by assumption)) ?_)) | omega | (simp; done) | (simp; omega)))

set_option maxRecDepth 100000 in
set_option maxHeartbeats 2000000 in
theorem iRenGood_any (p : Int) (f : Nat → Int) (g : Nat → Int) (hf : isB p f = true) (hg : isB p g = true) (hq : permB p g = true) (w : World) :
    Calls Try.prog 24 #[mv p f, mv p g] w fun e w' => e = .returned (renV p f p g) ∧ Below w.heap.size w w' := by
  have hl : likeC p f p g = 0 := by unfold likeC; rw [if_pos ⟨hf, hg⟩, if_pos rfl]
  rw [renV_0 hl hq]
  clear hl
  have HA := Lib.hid fun w => iis_any p f w
  have HB := Lib.hid fun w => iis_any p g w
  have HP := Lib.hid fun w => iperm_any p g hg w
  rw [hf] at HA
  rw [hg] at HB
  rw [hq] at HP
  have hF := Lib.hid hf
  have hG := Lib.hid hg
  obtain ⟨h1, h5⟩ := isB_pts hf
  clear hf hg hq
  simp only [mv, mcells]
  go_enter Try.func24, Try.ntmps24
  go_wp2_with fail
  (refine (HA.out _).mono ?_; rintro e w1 ⟨rfl, hb⟩; obtain ⟨hc, hf⟩ := bcell hb; have hz := hb.size; have Hb := Lib.hid hb; (try simp at hz hc hf); (try (have hy := Nat.lt_of_succ_le hz)); have hz0 : w.heap.size < w1.heap.size := (by omega); have hz1 : w.heap.size + 1 < w1.heap.size := (by omega); have hz2 : w.heap.size + 1 + 1 < w1.heap.size := (by omega); clear hb)
  go_wp2_with fail
  (refine (HB.out _).mono ?_; rintro e w1 ⟨rfl, hb⟩; obtain ⟨hc, hf⟩ := bcell hb; have hz := hb.size; have Hb := Lib.hid hb; (try simp at hz hc hf); (try (have hy := Nat.lt_of_succ_le hz)); have hz0 : w.heap.size < w1.heap.size := (by omega); have hz1 : w.heap.size + 1 < w1.heap.size := (by omega); have hz2 : w.heap.size + 1 + 1 < w1.heap.size := (by omega); clear hb)
  go_wp2_with fail
  (refine (HP.out _).mono ?_; rintro e w1 ⟨rfl, hb⟩; obtain ⟨hc, hf⟩ := bcell hb; have hz := hb.size; have Hb := Lib.hid hb; (try simp at hz hc hf); (try (have hy := Nat.lt_of_succ_le hz)); have hz0 : w.heap.size < w1.heap.size := (by omega); have hz1 : w.heap.size + 1 < w1.heap.size := (by omega); have hz2 : w.heap.size + 1 + 1 < w1.heap.size := (by omega); clear hb)
  obtain ⟨wo, hwo⟩ : ∃ wo, wo = w1 := ⟨_, rfl⟩
  subst hwo
  go_wp2_with fail
  go_loopw [7, 32] (fun _ i wr => ∃ (k : Nat), (k : Int) ≤ p ∧ i = .int .i64 k ∧ Below w.heap.size w wr ∧ wo.heap.size < wr.heap.size ∧
      wr.heap[w.heap.size]? = some (.cells (mcells p f) 26 (0, 0)) ∧ wr.heap[w.heap.size + 1]? = some (.cells (mcells p g) 26 (0, 0)) ∧
      wr.heap[w.heap.size + 1 + 1]? = some (.cells (mcells 0 fun _ => 0) 26 (0, 0)) ∧ wr.heap[wo.heap.size]? = some (.cells (mcells p (renK f g k)) 26 (0, 0))) (fun _ i _ => (p - intOf i).toNat)
  case atStart =>
    refine ⟨0, by omega, rfl, ?_, by simp, ?_, ?_, ?_, ?_⟩
    · (repeat' (first | (with_reducible exact Below.refl _ _) | (with_reducible refine Below.alloc ?_ ?_ _) | (with_reducible refine Below.setCell ?_ ?_ _) | (with_reducible refine Below.drew ?_) | (with_reducible refine below_drewN ?_ _) | (with_reducible refine Below.trans ?_ (Below.mono (Hid.out (by assumption)) ?_)) | omega | (simp; done) | (simp; omega)))
    · (repeat' (first | omega | (rw [hdrew]) | (with_reducible assumption) | (with_reducible exact Hid.out (by assumption)) | (with_reducible rfl) | ((with_reducible refine halloc_at _ _ _ ?_) <;> (first | (with_reducible rfl) | omega | (simp; done))) | (with_reducible refine chain6 ?_) | (with_reducible refine Eq.trans (hset_ne _ _ _ _ ?_) ?_) | (with_reducible refine Eq.trans (halloc_lt _ _ _ ?_) ?_) | (with_reducible refine Eq.trans (Below.block (Hid.out (by assumption)) _ ?_) ?_) | (simp; done) | (simp; omega)))
    · (repeat' (first | omega | (rw [hdrew]) | (with_reducible assumption) | (with_reducible exact Hid.out (by assumption)) | (with_reducible rfl) | ((with_reducible refine halloc_at _ _ _ ?_) <;> (first | (with_reducible rfl) | omega | (simp; done))) | (with_reducible refine chain6 ?_) | (with_reducible refine Eq.trans (hset_ne _ _ _ _ ?_) ?_) | (with_reducible refine Eq.trans (halloc_lt _ _ _ ?_) ?_) | (with_reducible refine Eq.trans (Below.block (Hid.out (by assumption)) _ ?_) ?_) | (simp; done) | (simp; omega)))
    · (repeat' (first | omega | (rw [hdrew]) | (with_reducible assumption) | (with_reducible exact Hid.out (by assumption)) | (with_reducible rfl) | ((with_reducible refine halloc_at _ _ _ ?_) <;> (first | (with_reducible rfl) | omega | (simp; done))) | (with_reducible refine chain6 ?_) | (with_reducible refine Eq.trans (hset_ne _ _ _ _ ?_) ?_) | (with_reducible refine Eq.trans (halloc_lt _ _ _ ?_) ?_) | (with_reducible refine Eq.trans (Below.block (Hid.out (by assumption)) _ ?_) ?_) | (simp; done) | (simp; omega)))
    · exact halloc_at _ _ _ rfl
  case round =>
    obtain ⟨k, hk, rfl, hb, hsz, b0, b1, b2, b3⟩ := hrel
    clear hc hf Hb hy
    have Hb' := Lib.hid hb
    have B0 := Lib.hid b0
    have B1 := Lib.hid b1
    have B2 := Lib.hid b2
    have B3 := Lib.hid b3
    clear hb b0 b1 b2 b3
    by_cases hkp : (k : Int) < p
    · obtain ⟨f0, f1, k5⟩ := ok_at hF.out k hkp
      obtain ⟨g0, g1, _⟩ := ok_at hG.out k hkp
      have k5' : (k : Int) < 5 := by omega
      have f5 : f k < 5 := by omega
      have g5 : g k < 5 := by omega
      have hfk := blk_at B0.out k k5
      have hgk := blk_at B1.out k k5
      have hgf := blk_at B1.out (f k).toNat (by omega)
      have hok := blk_at B3.out (g k).toNat (by omega)
      have hfr := blk_free B3.out (1 + (g k).toNat)
      go_wp2_with fail
      go_region
      all_goals go_wp2_with fail
      all_goals go_roundw
      case rel =>
        refine ⟨k + 1, by omega, by go_num, ?_, by simpa using hsz, ?_, ?_, ?_, ?_⟩
        · (repeat' (first | (with_reducible exact Below.refl _ _) | (with_reducible refine Below.alloc ?_ ?_ _) | (with_reducible refine Below.setCell ?_ ?_ _) | (with_reducible refine Below.drew ?_) | (with_reducible refine below_drewN ?_ _) | (with_reducible refine Below.trans ?_ (Below.mono (Hid.out (by assumption)) ?_)) | omega | (simp; done) | (simp; omega)))
        · (repeat' (first | omega | (rw [hdrew]) | (with_reducible assumption) | (with_reducible exact Hid.out (by assumption)) | (with_reducible rfl) | ((with_reducible refine halloc_at _ _ _ ?_) <;> (first | (with_reducible rfl) | omega | (simp; done))) | (with_reducible refine chain6 ?_) | (with_reducible refine Eq.trans (hset_ne _ _ _ _ ?_) ?_) | (with_reducible refine Eq.trans (halloc_lt _ _ _ ?_) ?_) | (with_reducible refine Eq.trans (Below.block (Hid.out (by assumption)) _ ?_) ?_) | (simp; done) | (simp; omega)))
        · (repeat' (first | omega | (rw [hdrew]) | (with_reducible assumption) | (with_reducible exact Hid.out (by assumption)) | (with_reducible rfl) | ((with_reducible refine halloc_at _ _ _ ?_) <;> (first | (with_reducible rfl) | omega | (simp; done))) | (with_reducible refine chain6 ?_) | (with_reducible refine Eq.trans (hset_ne _ _ _ _ ?_) ?_) | (with_reducible refine Eq.trans (halloc_lt _ _ _ ?_) ?_) | (with_reducible refine Eq.trans (Below.block (Hid.out (by assumption)) _ ?_) ?_) | (simp; done) | (simp; omega)))
        · (repeat' (first | omega | (rw [hdrew]) | (with_reducible assumption) | (with_reducible exact Hid.out (by assumption)) | (with_reducible rfl) | ((with_reducible refine halloc_at _ _ _ ?_) <;> (first | (with_reducible rfl) | omega | (simp; done))) | (with_reducible refine chain6 ?_) | (with_reducible refine Eq.trans (hset_ne _ _ _ _ ?_) ?_) | (with_reducible refine Eq.trans (halloc_lt _ _ _ ?_) ?_) | (with_reducible refine Eq.trans (Below.block (Hid.out (by assumption)) _ ?_) ?_) | (simp; done) | (simp; omega)))
        · rw [hdrew]; exact blk_set B3.out _ (by omega) _
      case measure => simp [intOf]; omega
    · obtain ⟨e0, e1, e2, e3, e4, e5⟩ := blk6 B3.out
      obtain ⟨r0, r1, r2, r3, r4, r5⟩ := blk6 B2.out
      have hfr := blk_free B2.out
      have hp := (blk6 B0.out).1
      have hK : Hid (renK f g k = renm p f g) := by unfold renm; rw [show p.toNat = k by omega]; rfl
      go_wp2_with fail
      refine bodyPost_ret (v := .tuple #[mv p (renK f g k), .int .i64 0]) (by simp [results, Try.results24, go_sem, r0, r1, r2, r3, r4, r5]) rfl ⟨by rw [hK.out], ?_⟩
      (repeat' (first | (with_reducible exact Below.refl _ _) | (with_reducible refine Below.alloc ?_ ?_ _) | (with_reducible refine Below.setCell ?_ ?_ _) | (with_reducible refine Below.drew ?_) | (with_reducible refine below_drewN ?_ _) | (with_reducible refine Below.trans ?_ (Below.mono (Hid.out (by assumption)) ?_)) | omega | (simp; done) | (simp; omega)))

theorem iRen_any (p : Int) (f : Nat → Int) (q : Int) (g : Nat → Int) (w : World) :
    Calls Try.prog 24 #[mv p f, mv q g] w fun e w' => e = .returned (renV p f q g) ∧ Below w.heap.size w w' := by
  by_cases h : isB p f = true ∧ isB q g = true ∧ p = q ∧ permB p g = true
  · obtain ⟨hf, hg, rfl, hq⟩ := h
    exact iRenGood_any p f g hf hg hq w
  · exact iRenBad_any p f q g (fun a b c => by
      cases hq : permB p g
      · rfl
      · exact absurd ⟨a, b, c, hq⟩ h) w

end Go.Proofs.Ytlfddobdaabemaa
