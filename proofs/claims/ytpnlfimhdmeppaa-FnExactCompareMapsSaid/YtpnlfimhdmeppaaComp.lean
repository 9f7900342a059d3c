/- The contracts of spec.CompareMaps. -/
import Derived.Test.YtpnlfimhdmeppaaLess
import Derived.Test.YtpnlfimhdmeppaaProd
namespace Go.Proofs.Ytpnlfimhdmeppaa
open Go.RowKit

/-- What both CompareMaps return. -/
def cmpV (p : Int) (t : Nat → Int) (q : Int) (u : Nat → Int) : Value :=
  if isB p t = true ∧ isB q u = true then .tuple #[.int .i64 (co p q t u), .int .i64 0] else .tuple #[.int .i64 0, .int .i64 1]

theorem sg_range (a b : Int) : sg a b = -1 ∨ sg a b = 0 ∨ sg a b = 1 := by
  unfold sg; split <;> (try split) <;> omega

theorem cm_range (t u : Nat → Int) : ∀ n, cm t u n = -1 ∨ cm t u n = 0 ∨ cm t u n = 1
  | 0 => Or.inr (Or.inl rfl)
  | n + 1 => by
    unfold cm
    split
    · exact sg_range _ _
    · exact cm_range t u n

theorem co_range (p q : Int) (t u : Nat → Int) : co p q t u = -1 ∨ co p q t u = 0 ∨ co p q t u = 1 := by
  unfold co
  split
  · exact cm_range _ _ _
  · exact sg_range _ _

set_option maxHeartbeats 1000000 in
theorem scompare_any (p : Int) (f : Nat → Int) (q : Int) (g : Nat → Int) (w : World) :
    Calls Try.prog 4 #[mv p f, mv q g] w fun e w' => e = .returned (cmpV p f q g) ∧ Below w.heap.size w w' := by
  have HF := fun w => lis_any p f w
  have HG := fun w => lis_any q g w
  unfold cmpV
  cases hf : isB p f
  · rw [if_neg (by simp)]
    rw [hf] at HF
    clear hf HG
    have HF := Lib.hid HF
    simp only [mv, mcells]
    go_enter Try.func4, Try.ntmps4
    go_wp2_with fail
    (refine (HF.out _).mono ?_; rintro e w1 ⟨rfl, hb⟩; obtain ⟨hc, hf⟩ := bcell hb; have hz := hb.size; have Hb := Lib.hid hb; (try simp at hz hc hf); (try (have hy := Nat.lt_of_succ_le hz)); have hz0 : w.heap.size < w1.heap.size := (by omega); have hz1 : w.heap.size + 1 < w1.heap.size := (by omega); clear hb)
    go_wp2_with fail
    refine bodyPost_ret (v := .tuple #[.int .i64 0, .int .i64 1]) (by simp [results, Try.results4, go_sem, *]) rfl ⟨rfl, ?_⟩
    (repeat' (first | (with_reducible exact Below.refl _ _) | (with_reducible refine Below.alloc ?_ ?_ _) | (with_reducible refine Below.setCell ?_ ?_ _) | (with_reducible refine Below.drew ?_) | (with_reducible refine below_drewN ?_ _) | (with_reducible refine Below.trans ?_ (Below.mono (Hid.out (by assumption)) ?_)) | omega | (simp; done) | (simp; omega)))
  · cases hg : isB q g
    · rw [if_neg (by simp)]
      rw [hf] at HF
      rw [hg] at HG
      clear hf hg
      have HF := Lib.hid HF
      have HG := Lib.hid HG
      simp only [mv, mcells]
      go_enter Try.func4, Try.ntmps4
      go_wp2_with fail
      (refine (HF.out _).mono ?_; rintro e w1 ⟨rfl, hb⟩; obtain ⟨hc, hf⟩ := bcell hb; have hz := hb.size; have Hb := Lib.hid hb; (try simp at hz hc hf); (try (have hy := Nat.lt_of_succ_le hz)); have hz0 : w.heap.size < w1.heap.size := (by omega); have hz1 : w.heap.size + 1 < w1.heap.size := (by omega); clear hb)
      go_wp2_with fail
      (refine (HG.out _).mono ?_; rintro e w1 ⟨rfl, hb⟩; obtain ⟨hc, hf⟩ := bcell hb; have hz := hb.size; have Hb := Lib.hid hb; (try simp at hz hc hf); (try (have hy := Nat.lt_of_succ_le hz)); have hz0 : w.heap.size < w1.heap.size := (by omega); have hz1 : w.heap.size + 1 < w1.heap.size := (by omega); clear hb)
      go_wp2_with fail
      refine bodyPost_ret (v := .tuple #[.int .i64 0, .int .i64 1]) (by simp [results, Try.results4, go_sem, *]) rfl ⟨rfl, ?_⟩
      (repeat' (first | (with_reducible exact Below.refl _ _) | (with_reducible refine Below.alloc ?_ ?_ _) | (with_reducible refine Below.setCell ?_ ?_ _) | (with_reducible refine Below.drew ?_) | (with_reducible refine below_drewN ?_ _) | (with_reducible refine Below.trans ?_ (Below.mono (Hid.out (by assumption)) ?_)) | omega | (simp; done) | (simp; omega)))
    · rw [if_pos ⟨rfl, rfl⟩]
      have HL := fun w => less_any p q f g (isB_pts hf) w
      have HM := fun w => less_any q p g f (isB_pts hg) w
      rw [co_flip p q f g] at HM
      rw [hf] at HF
      rw [hg] at HG
      clear hf hg
      have HF := Lib.hid HF
      have HG := Lib.hid HG
      rcases co_range p q f g with h | h | h
      · rw [h] at HL ⊢
        simp only [decide_true] at HL
        clear h HM
        have HL := Lib.hid HL
        simp only [mv, mcells] at *
        go_enter Try.func4, Try.ntmps4
        go_wp2_with fail
        (refine (HF.out _).mono ?_; rintro e w1 ⟨rfl, hb⟩; obtain ⟨hc, hf⟩ := bcell hb; have hz := hb.size; have Hb := Lib.hid hb; (try simp at hz hc hf); (try (have hy := Nat.lt_of_succ_le hz)); have hz0 : w.heap.size < w1.heap.size := (by omega); have hz1 : w.heap.size + 1 < w1.heap.size := (by omega); clear hb)
        go_wp2_with fail
        (refine (HG.out _).mono ?_; rintro e w1 ⟨rfl, hb⟩; obtain ⟨hc, hf⟩ := bcell hb; have hz := hb.size; have Hb := Lib.hid hb; (try simp at hz hc hf); (try (have hy := Nat.lt_of_succ_le hz)); have hz0 : w.heap.size < w1.heap.size := (by omega); have hz1 : w.heap.size + 1 < w1.heap.size := (by omega); clear hb)
        go_wp2_with fail
        (refine (HL.out _).mono ?_; rintro e w1 ⟨rfl, hb⟩; obtain ⟨hc, hf⟩ := bcell hb; have hz := hb.size; have Hb := Lib.hid hb; (try simp at hz hc hf); (try (have hy := Nat.lt_of_succ_le hz)); have hz0 : w.heap.size < w1.heap.size := (by omega); have hz1 : w.heap.size + 1 < w1.heap.size := (by omega); clear hb)
        go_wp2_with fail
        refine bodyPost_ret (v := .tuple #[.int .i64 (-1), .int .i64 0]) (by simp [results, Try.results4, go_sem, *]) rfl ⟨rfl, ?_⟩
        (repeat' (first | (with_reducible exact Below.refl _ _) | (with_reducible refine Below.alloc ?_ ?_ _) | (with_reducible refine Below.setCell ?_ ?_ _) | (with_reducible refine Below.drew ?_) | (with_reducible refine below_drewN ?_ _) | (with_reducible refine Below.trans ?_ (Below.mono (Hid.out (by assumption)) ?_)) | omega | (simp; done) | (simp; omega)))
      · rw [h] at HL HM ⊢
        simp only [show decide ((0:Int) = -1) = false by decide, show decide (-(0:Int) = -1) = false by decide] at HL HM
        clear h
        have HL := Lib.hid HL
        have HM := Lib.hid HM
        simp only [mv, mcells] at *
        go_enter Try.func4, Try.ntmps4
        go_wp2_with fail
        (refine (HF.out _).mono ?_; rintro e w1 ⟨rfl, hb⟩; obtain ⟨hc, hf⟩ := bcell hb; have hz := hb.size; have Hb := Lib.hid hb; (try simp at hz hc hf); (try (have hy := Nat.lt_of_succ_le hz)); have hz0 : w.heap.size < w1.heap.size := (by omega); have hz1 : w.heap.size + 1 < w1.heap.size := (by omega); clear hb)
        go_wp2_with fail
        (refine (HG.out _).mono ?_; rintro e w1 ⟨rfl, hb⟩; obtain ⟨hc, hf⟩ := bcell hb; have hz := hb.size; have Hb := Lib.hid hb; (try simp at hz hc hf); (try (have hy := Nat.lt_of_succ_le hz)); have hz0 : w.heap.size < w1.heap.size := (by omega); have hz1 : w.heap.size + 1 < w1.heap.size := (by omega); clear hb)
        go_wp2_with fail
        (refine (HL.out _).mono ?_; rintro e w1 ⟨rfl, hb⟩; obtain ⟨hc, hf⟩ := bcell hb; have hz := hb.size; have Hb := Lib.hid hb; (try simp at hz hc hf); (try (have hy := Nat.lt_of_succ_le hz)); have hz0 : w.heap.size < w1.heap.size := (by omega); have hz1 : w.heap.size + 1 < w1.heap.size := (by omega); clear hb)
        go_wp2_with fail
        (refine (HM.out _).mono ?_; rintro e w1 ⟨rfl, hb⟩; obtain ⟨hc, hf⟩ := bcell hb; have hz := hb.size; have Hb := Lib.hid hb; (try simp at hz hc hf); (try (have hy := Nat.lt_of_succ_le hz)); have hz0 : w.heap.size < w1.heap.size := (by omega); have hz1 : w.heap.size + 1 < w1.heap.size := (by omega); clear hb)
        go_wp2_with fail
        refine bodyPost_ret (v := .tuple #[.int .i64 0, .int .i64 0]) (by simp [results, Try.results4, go_sem, *]) rfl ⟨rfl, ?_⟩
        (repeat' (first | (with_reducible exact Below.refl _ _) | (with_reducible refine Below.alloc ?_ ?_ _) | (with_reducible refine Below.setCell ?_ ?_ _) | (with_reducible refine Below.drew ?_) | (with_reducible refine below_drewN ?_ _) | (with_reducible refine Below.trans ?_ (Below.mono (Hid.out (by assumption)) ?_)) | omega | (simp; done) | (simp; omega)))
      · rw [h] at HL HM ⊢
        simp only [show decide ((1:Int) = -1) = false by decide, decide_true] at HL HM
        clear h
        have HL := Lib.hid HL
        have HM := Lib.hid HM
        simp only [mv, mcells] at *
        go_enter Try.func4, Try.ntmps4
        go_wp2_with fail
        (refine (HF.out _).mono ?_; rintro e w1 ⟨rfl, hb⟩; obtain ⟨hc, hf⟩ := bcell hb; have hz := hb.size; have Hb := Lib.hid hb; (try simp at hz hc hf); (try (have hy := Nat.lt_of_succ_le hz)); have hz0 : w.heap.size < w1.heap.size := (by omega); have hz1 : w.heap.size + 1 < w1.heap.size := (by omega); clear hb)
        go_wp2_with fail
        (refine (HG.out _).mono ?_; rintro e w1 ⟨rfl, hb⟩; obtain ⟨hc, hf⟩ := bcell hb; have hz := hb.size; have Hb := Lib.hid hb; (try simp at hz hc hf); (try (have hy := Nat.lt_of_succ_le hz)); have hz0 : w.heap.size < w1.heap.size := (by omega); have hz1 : w.heap.size + 1 < w1.heap.size := (by omega); clear hb)
        go_wp2_with fail
        (refine (HL.out _).mono ?_; rintro e w1 ⟨rfl, hb⟩; obtain ⟨hc, hf⟩ := bcell hb; have hz := hb.size; have Hb := Lib.hid hb; (try simp at hz hc hf); (try (have hy := Nat.lt_of_succ_le hz)); have hz0 : w.heap.size < w1.heap.size := (by omega); have hz1 : w.heap.size + 1 < w1.heap.size := (by omega); clear hb)
        go_wp2_with fail
        (refine (HM.out _).mono ?_; rintro e w1 ⟨rfl, hb⟩; obtain ⟨hc, hf⟩ := bcell hb; have hz := hb.size; have Hb := Lib.hid hb; (try simp at hz hc hf); (try (have hy := Nat.lt_of_succ_le hz)); have hz0 : w.heap.size < w1.heap.size := (by omega); have hz1 : w.heap.size + 1 < w1.heap.size := (by omega); clear hb)
        go_wp2_with fail
        refine bodyPost_ret (v := .tuple #[.int .i64 1, .int .i64 0]) (by simp [results, Try.results4, go_sem, *]) rfl ⟨rfl, ?_⟩
        (repeat' (first | (with_reducible exact Below.refl _ _) | (with_reducible refine Below.alloc ?_ ?_ _) | (with_reducible refine Below.setCell ?_ ?_ _) | (with_reducible refine Below.drew ?_) | (with_reducible refine below_drewN ?_ _) | (with_reducible refine Below.trans ?_ (Below.mono (Hid.out (by assumption)) ?_)) | omega | (simp; done) | (simp; omega)))
end Go.Proofs.Ytpnlfimhdmeppaa
