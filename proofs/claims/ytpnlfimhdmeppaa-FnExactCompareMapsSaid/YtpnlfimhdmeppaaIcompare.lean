/- The contract of impl.CompareMaps. -/
import Derived.Test.YtpnlfimhdmeppaaIcm
import Derived.Test.YtpnlfimhdmeppaaComp
namespace Go.Proofs.Ytpnlfimhdmeppaa
open Go.RowKit

set_option maxHeartbeats 1000000 in
theorem icompare_any (p : Int) (f : Nat → Int) (q : Int) (g : Nat → Int) (w : World) :
    Calls Try.prog 6 #[mv p f, mv q g] w fun e w' => e = .returned (cmpV p f q g) ∧ Below w.heap.size w w' := by
  have HF := fun w => iis_any p f w
  have HG := fun w => iis_any q g w
  unfold cmpV
  cases hf : isB p f
  · rw [if_neg (by simp)]
    rw [hf] at HF
    clear hf HG
    have HF := Lib.hid HF
    simp only [mv, mcells]
    go_enter Try.func6, Try.ntmps6
    go_wp2_with fail
    (refine (HF.out _).mono ?_; rintro e w1 ⟨rfl, hb⟩; obtain ⟨hc, hf⟩ := bcell hb; have hz := hb.size; have Hb := Lib.hid hb; (try simp at hz hc hf); (try (have hy := Nat.lt_of_succ_le hz)); have hz0 : w.heap.size < w1.heap.size := (by omega); have hz1 : w.heap.size + 1 < w1.heap.size := (by omega); clear hb)
    go_wp2_with fail
    refine bodyPost_ret (v := .tuple #[.int .i64 0, .int .i64 1]) (by simp [results, Try.results6, go_sem, *]) rfl ⟨rfl, ?_⟩
    (repeat' (first | (with_reducible exact Below.refl _ _) | (with_reducible refine Below.alloc ?_ ?_ _) | (with_reducible refine Below.setCell ?_ ?_ _) | (with_reducible refine Below.drew ?_) | (with_reducible refine below_drewN ?_ _) | (with_reducible refine Below.trans ?_ (Below.mono (Hid.out (by assumption)) ?_)) | omega | (simp; done) | (simp; omega)))
  · cases hg : isB q g
    · rw [if_neg (by simp)]
      rw [hf] at HF
      rw [hg] at HG
      clear hf hg
      have HF := Lib.hid HF
      have HG := Lib.hid HG
      simp only [mv, mcells]
      go_enter Try.func6, Try.ntmps6
      go_wp2_with fail
      (refine (HF.out _).mono ?_; rintro e w1 ⟨rfl, hb⟩; obtain ⟨hc, hf⟩ := bcell hb; have hz := hb.size; have Hb := Lib.hid hb; (try simp at hz hc hf); (try (have hy := Nat.lt_of_succ_le hz)); have hz0 : w.heap.size < w1.heap.size := (by omega); have hz1 : w.heap.size + 1 < w1.heap.size := (by omega); clear hb)
      go_wp2_with fail
      (refine (HG.out _).mono ?_; rintro e w1 ⟨rfl, hb⟩; obtain ⟨hc, hf⟩ := bcell hb; have hz := hb.size; have Hb := Lib.hid hb; (try simp at hz hc hf); (try (have hy := Nat.lt_of_succ_le hz)); have hz0 : w.heap.size < w1.heap.size := (by omega); have hz1 : w.heap.size + 1 < w1.heap.size := (by omega); clear hb)
      go_wp2_with fail
      refine bodyPost_ret (v := .tuple #[.int .i64 0, .int .i64 1]) (by simp [results, Try.results6, go_sem, *]) rfl ⟨rfl, ?_⟩
      (repeat' (first | (with_reducible exact Below.refl _ _) | (with_reducible refine Below.alloc ?_ ?_ _) | (with_reducible refine Below.setCell ?_ ?_ _) | (with_reducible refine Below.drew ?_) | (with_reducible refine below_drewN ?_ _) | (with_reducible refine Below.trans ?_ (Below.mono (Hid.out (by assumption)) ?_)) | omega | (simp; done) | (simp; omega)))
    · rw [if_pos ⟨rfl, rfl⟩]
      have HC := fun w => icm_any p q f g w
      rw [← co_or hf hg] at HC
      rw [hf] at HF
      rw [hg] at HG
      clear hf hg
      generalize co p q f g = X at *
      have HF := Lib.hid HF
      have HG := Lib.hid HG
      have HC := Lib.hid HC
      simp only [mv, mcells] at *
      go_enter Try.func6, Try.ntmps6
      go_wp2_with fail
      (refine (HF.out _).mono ?_; rintro e w1 ⟨rfl, hb⟩; obtain ⟨hc, hf⟩ := bcell hb; have hz := hb.size; have Hb := Lib.hid hb; (try simp at hz hc hf); (try (have hy := Nat.lt_of_succ_le hz)); have hz0 : w.heap.size < w1.heap.size := (by omega); have hz1 : w.heap.size + 1 < w1.heap.size := (by omega); clear hb)
      go_wp2_with fail
      (refine (HG.out _).mono ?_; rintro e w1 ⟨rfl, hb⟩; obtain ⟨hc, hf⟩ := bcell hb; have hz := hb.size; have Hb := Lib.hid hb; (try simp at hz hc hf); (try (have hy := Nat.lt_of_succ_le hz)); have hz0 : w.heap.size < w1.heap.size := (by omega); have hz1 : w.heap.size + 1 < w1.heap.size := (by omega); clear hb)
      go_wp2_with fail
      (refine (HC.out _).mono ?_; rintro e w1 ⟨rfl, hb⟩; obtain ⟨hc, hf⟩ := bcell hb; have hz := hb.size; have Hb := Lib.hid hb; (try simp at hz hc hf); (try (have hy := Nat.lt_of_succ_le hz)); have hz0 : w.heap.size < w1.heap.size := (by omega); have hz1 : w.heap.size + 1 < w1.heap.size := (by omega); clear hb)
      go_wp2_with fail
      refine bodyPost_ret (v := .tuple #[.int .i64 X, .int .i64 0]) (by simp [results, Try.results6, go_sem, *]) rfl ⟨rfl, ?_⟩
      (repeat' (first | (with_reducible exact Below.refl _ _) | (with_reducible refine Below.alloc ?_ ?_ _) | (with_reducible refine Below.setCell ?_ ?_ _) | (with_reducible refine Below.drew ?_) | (with_reducible refine below_drewN ?_ _) | (with_reducible refine Below.trans ?_ (Below.mono (Hid.out (by assumption)) ?_)) | omega | (simp; done) | (simp; omega)))
end Go.Proofs.Ytpnlfimhdmeppaa
