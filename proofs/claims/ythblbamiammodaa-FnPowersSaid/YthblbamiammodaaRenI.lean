/- The contract of impl.RenumberMap. -/
import Derived.Test.YthblbamiammodaaRnm
namespace Go.Proofs.Ythblbamiammodaa
open Go.RowKit

set_option maxHeartbeats 2000000 in
theorem iRenBad_any (p : Int) (f : Nat → Int) (q : Int) (g : Nat → Int) (h : isB p f = true → isB q g = true → p = q → permB p g = false) (w : World) :
    Calls Try.prog 24 #[mv p f, mv q g] w fun e w' => e = .returned (renV p f q g) ∧ Below w.heap.size w w' := by
  cases hf : isB p f
  · have hl : likeC p f q g = 1 := by simp [likeC, hf]
    rw [renV_1 hl]
    have HA := Lib.hid fun w => iis_any p f w
    rw [hf] at HA
    clear h hf hl
    simp only [mv, mcells]
    go_enter Try.func24, Try.ntmps24
    go_wp2_with fail
    (refine (HA.out _).mono ?_; rintro e w1 ⟨rfl, hb⟩; obtain ⟨hc, hf⟩ := bcell hb; have hz := hb.size; have Hb := Lib.hid hb; (try simp at hz hc hf); (try (have hy := Nat.lt_of_succ_le hz)); have hz0 : w.heap.size < w1.heap.size := (by omega); have hz1 : w.heap.size + 1 < w1.heap.size := (by omega); have hz2 : w.heap.size + 1 + 1 < w1.heap.size := (by omega); clear hb)
    go_wp2_with fail
    refine bodyPost_ret (v := .tuple #[mv 0 fun _ => 0, .int .i64 1]) (by simp [results, Try.results24, go_sem, *]) rfl ⟨rfl, ?_⟩
    (repeat' (first | (with_reducible exact Below.refl _ _) | (with_reducible refine Below.alloc ?_ ?_ _) | (with_reducible refine Below.setCell ?_ ?_ _) | (with_reducible refine Below.drew ?_) | (with_reducible refine below_drewN ?_ _) | (with_reducible refine Below.trans ?_ (Below.mono (Hid.out (by assumption)) ?_)) | omega | (simp; done) | (simp; omega)))
  · cases hg : isB q g
    · have hl : likeC p f q g = 1 := by simp [likeC, hg]
      rw [renV_1 hl]
      have HA := Lib.hid fun w => iis_any p f w
      have HB := Lib.hid fun w => iis_any q g w
      rw [hf] at HA
      rw [hg] at HB
      clear h hf hg hl
      simp only [mv, mcells]
      go_enter Try.func24, Try.ntmps24
      go_wp2_with fail
      (refine (HA.out _).mono ?_; rintro e w1 ⟨rfl, hb⟩; obtain ⟨hc, hf⟩ := bcell hb; have hz := hb.size; have Hb := Lib.hid hb; (try simp at hz hc hf); (try (have hy := Nat.lt_of_succ_le hz)); have hz0 : w.heap.size < w1.heap.size := (by omega); have hz1 : w.heap.size + 1 < w1.heap.size := (by omega); have hz2 : w.heap.size + 1 + 1 < w1.heap.size := (by omega); clear hb)
      go_wp2_with fail
      (refine (HB.out _).mono ?_; rintro e w1 ⟨rfl, hb⟩; obtain ⟨hc, hf⟩ := bcell hb; have hz := hb.size; have Hb := Lib.hid hb; (try simp at hz hc hf); (try (have hy := Nat.lt_of_succ_le hz)); have hz0 : w.heap.size < w1.heap.size := (by omega); have hz1 : w.heap.size + 1 < w1.heap.size := (by omega); have hz2 : w.heap.size + 1 + 1 < w1.heap.size := (by omega); clear hb)
      go_wp2_with fail
      refine bodyPost_ret (v := .tuple #[mv 0 fun _ => 0, .int .i64 1]) (by simp [results, Try.results24, go_sem, *]) rfl ⟨rfl, ?_⟩
      (repeat' (first | (with_reducible exact Below.refl _ _) | (with_reducible refine Below.alloc ?_ ?_ _) | (with_reducible refine Below.setCell ?_ ?_ _) | (with_reducible refine Below.drew ?_) | (with_reducible refine below_drewN ?_ _) | (with_reducible refine Below.trans ?_ (Below.mono (Hid.out (by assumption)) ?_)) | omega | (simp; done) | (simp; omega)))
    · have HA := Lib.hid fun w => iis_any p f w
      have HB := Lib.hid fun w => iis_any q g w
      rw [hf] at HA
      rw [hg] at HB
      by_cases hpq : p = q
      · subst hpq
        have hl : likeC p f p g = 0 := by unfold likeC; rw [if_pos ⟨hf, hg⟩, if_pos rfl]
        have hq := h hf hg rfl
        rw [renV_5 hl hq]
        have HP := Lib.hid fun w => iperm_any p g hg w
        rw [hq] at HP
        clear h hf hg hl hq
        simp only [mv, mcells]
        go_enter Try.func24, Try.ntmps24
        go_wp2_with fail
        (refine (HA.out _).mono ?_; rintro e w1 ⟨rfl, hb⟩; obtain ⟨hc, hf⟩ := bcell hb; have hz := hb.size; have Hb := Lib.hid hb; (try simp at hz hc hf); (try (have hy := Nat.lt_of_succ_le hz)); have hz0 : w.heap.size < w1.heap.size := (by omega); have hz1 : w.heap.size + 1 < w1.heap.size := (by omega); have hz2 : w.heap.size + 1 + 1 < w1.heap.size := (by omega); clear hb)
        go_wp2_with fail
        (refine (HB.out _).mono ?_; rintro e w1 ⟨rfl, hb⟩; obtain ⟨hc, hf⟩ := bcell hb; have hz := hb.size; have Hb := Lib.hid hb; (try simp at hz hc hf); (try (have hy := Nat.lt_of_succ_le hz)); have hz0 : w.heap.size < w1.heap.size := (by omega); have hz1 : w.heap.size + 1 < w1.heap.size := (by omega); have hz2 : w.heap.size + 1 + 1 < w1.heap.size := (by omega); clear hb)
        go_wp2_with fail
        (refine (HP.out _).mono ?_; rintro e w1 ⟨rfl, hb⟩; obtain ⟨hc, hf⟩ := bcell hb; have hz := hb.size; have Hb := Lib.hid hb; (try simp at hz hc hf); (try (have hy := Nat.lt_of_succ_le hz)); have hz0 : w.heap.size < w1.heap.size := (by omega); have hz1 : w.heap.size + 1 < w1.heap.size := (by omega); have hz2 : w.heap.size + 1 + 1 < w1.heap.size := (by omega); clear hb)
        go_wp2_with fail
        refine bodyPost_ret (v := .tuple #[mv 0 fun _ => 0, .int .i64 5]) (by simp [results, Try.results24, go_sem, *]) rfl ⟨rfl, ?_⟩
        (repeat' (first | (with_reducible exact Below.refl _ _) | (with_reducible refine Below.alloc ?_ ?_ _) | (with_reducible refine Below.setCell ?_ ?_ _) | (with_reducible refine Below.drew ?_) | (with_reducible refine below_drewN ?_ _) | (with_reducible refine Below.trans ?_ (Below.mono (Hid.out (by assumption)) ?_)) | omega | (simp; done) | (simp; omega)))
      · have hl : likeC p f q g = 2 := by unfold likeC; rw [if_pos ⟨hf, hg⟩, if_neg hpq]
        rw [renV_2 hl]
        have hb : (p != q) = true := by simp [hpq]
        clear h hf hg hl
        simp only [mv, mcells]
        go_enter Try.func24, Try.ntmps24
        go_wp2_with fail
        (refine (HA.out _).mono ?_; rintro e w1 ⟨rfl, hb⟩; obtain ⟨hc, hf⟩ := bcell hb; have hz := hb.size; have Hb := Lib.hid hb; (try simp at hz hc hf); (try (have hy := Nat.lt_of_succ_le hz)); have hz0 : w.heap.size < w1.heap.size := (by omega); have hz1 : w.heap.size + 1 < w1.heap.size := (by omega); have hz2 : w.heap.size + 1 + 1 < w1.heap.size := (by omega); clear hb)
        go_wp2_with fail
        (refine (HB.out _).mono ?_; rintro e w1 ⟨rfl, hb⟩; obtain ⟨hc, hf⟩ := bcell hb; have hz := hb.size; have Hb := Lib.hid hb; (try simp at hz hc hf); (try (have hy := Nat.lt_of_succ_le hz)); have hz0 : w.heap.size < w1.heap.size := (by omega); have hz1 : w.heap.size + 1 < w1.heap.size := (by omega); have hz2 : w.heap.size + 1 + 1 < w1.heap.size := (by omega); clear hb)
        go_wp2_with fail
        refine bodyPost_ret (v := .tuple #[mv 0 fun _ => 0, .int .i64 2]) (by simp [results, Try.results24, go_sem, *]) rfl ⟨rfl, ?_⟩
        (repeat' (first | (with_reducible exact Below.refl _ _) | (with_reducible refine Below.alloc ?_ ?_ _) | (with_reducible refine Below.setCell ?_ ?_ _) | (with_reducible refine Below.drew ?_) | (with_reducible refine below_drewN ?_ _) | (with_reducible refine Below.trans ?_ (Below.mono (Hid.out (by assumption)) ?_)) | omega | (simp; done) | (simp; omega)))

set_option maxRecDepth 100000 in
set_option maxHeartbeats 2000000 in
theorem iRenGood_any (p : Int) (f : Nat → Int) (g : Nat → Int) (hf : isB p f = true) (hg : isB p g = true) (hq : permB p g = true) (w : World) :
    Calls Try.prog 24 #[mv p f, mv p g] w fun e w' => e = .returned (renV p f p g) ∧ Below w.heap.size w w' := by
  have hl : likeC p f p g = 0 := by unfold likeC; rw [if_pos ⟨hf, hg⟩, if_pos rfl]
  rw [renV_0 hl hq]
  clear hl
  have HA := Lib.hid fun w => iis_any p f w
  have HB := Lib.hid fun w => iis_any p g w
  have HP := Lib.hid fun w => iperm_any p g hg w
  have HR := Lib.hid fun w => irnm_any p f g hf hg w
  rw [hf] at HA
  rw [hg] at HB
  rw [hq] at HP
  clear hf hg hq
  generalize renm p f g = G at *
  simp only [mv, mcells] at *
  go_enter Try.func24, Try.ntmps24
  go_wp2_with fail
  (refine (HA.out _).mono ?_; rintro e w1 ⟨rfl, hb⟩; obtain ⟨hc, hf⟩ := bcell hb; have hz := hb.size; have Hb := Lib.hid hb; (try simp at hz hc hf); (try (have hy := Nat.lt_of_succ_le hz)); have hz0 : w.heap.size < w1.heap.size := (by omega); have hz1 : w.heap.size + 1 < w1.heap.size := (by omega); have hz2 : w.heap.size + 1 + 1 < w1.heap.size := (by omega); clear hb)
  go_wp2_with fail
  (refine (HB.out _).mono ?_; rintro e w1 ⟨rfl, hb⟩; obtain ⟨hc, hf⟩ := bcell hb; have hz := hb.size; have Hb := Lib.hid hb; (try simp at hz hc hf); (try (have hy := Nat.lt_of_succ_le hz)); have hz0 : w.heap.size < w1.heap.size := (by omega); have hz1 : w.heap.size + 1 < w1.heap.size := (by omega); have hz2 : w.heap.size + 1 + 1 < w1.heap.size := (by omega); clear hb)
  go_wp2_with fail
  (refine (HP.out _).mono ?_; rintro e w1 ⟨rfl, hb⟩; obtain ⟨hc, hf⟩ := bcell hb; have hz := hb.size; have Hb := Lib.hid hb; (try simp at hz hc hf); (try (have hy := Nat.lt_of_succ_le hz)); have hz0 : w.heap.size < w1.heap.size := (by omega); have hz1 : w.heap.size + 1 < w1.heap.size := (by omega); have hz2 : w.heap.size + 1 + 1 < w1.heap.size := (by omega); clear hb)
  go_wp2_with fail
  (refine (HR.out _).mono ?_; rintro e w1 ⟨rfl, hb⟩; obtain ⟨hc, hf⟩ := bcell hb; have hz := hb.size; have Hb := Lib.hid hb; (try simp at hz hc hf); (try (have hy := Nat.lt_of_succ_le hz)); have hz0 : w.heap.size < w1.heap.size := (by omega); have hz1 : w.heap.size + 1 < w1.heap.size := (by omega); have hz2 : w.heap.size + 1 + 1 < w1.heap.size := (by omega); clear hb)
  go_wp2_with fail
  refine bodyPost_ret (v := .tuple #[mv p G, .int .i64 0]) (by simp [results, Try.results24, go_sem, *]) rfl ⟨rfl, ?_⟩
  (repeat' (first | (with_reducible exact Below.refl _ _) | (with_reducible refine Below.alloc ?_ ?_ _) | (with_reducible refine Below.setCell ?_ ?_ _) | (with_reducible refine Below.drew ?_) | (with_reducible refine below_drewN ?_ _) | (with_reducible refine Below.trans ?_ (Below.mono (Hid.out (by assumption)) ?_)) | omega | (simp; done) | (simp; omega)))

theorem iRen_any (p : Int) (f : Nat → Int) (q : Int) (g : Nat → Int) (w : World) :
    Calls Try.prog 24 #[mv p f, mv q g] w fun e w' => e = .returned (renV p f q g) ∧ Below w.heap.size w w' := by
  by_cases h : isB p f = true ∧ isB q g = true ∧ p = q ∧ permB p g = true
  · obtain ⟨hf, hg, rfl, hq⟩ := h
    exact iRenGood_any p f g hf hg hq w
  · exact iRenBad_any p f q g (fun a b c => by
      cases hq : permB p g
      · rfl
      · exact absurd ⟨a, b, c, hq⟩ h) w

end Go.Proofs.Ythblbamiammodaa
