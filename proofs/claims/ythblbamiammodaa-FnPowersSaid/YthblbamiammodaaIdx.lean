/- The contracts of spec.IndexAndPeriod and impl.IndexAndPeriod. -/
import Derived.Test.YthblbamiammodaaSidx
import Derived.Test.YthblbamiammodaaIdxc
import Derived.Test.YthblbamiammodaaBase
namespace Go.Proofs.Ythblbamiammodaa
open Go.RowKit

/-- The first power that comes again, and when it does. -/
noncomputable def ixP (p : Int) (t : Nat → Int) : Nat × Nat := if h : isB p t = true then (Classical.choose (rep_ex h), Classical.choose (Classical.choose_spec (rep_ex h))) else (0, 0)

theorem ixP_rep {p : Int} {t : Nat → Int} (h : isB p t = true) : Rep p t (ixP p t).1 (ixP p t).2 := by
  unfold ixP; rw [dif_pos h]; exact Classical.choose_spec (Classical.choose_spec (rep_ex h))

noncomputable def idxV (p : Int) (t : Nat → Int) : Value := if isB p t = true then .tuple #[.int .i64 (ixP p t).1, .int .i64 (((ixP p t).2 : Int) - ((ixP p t).1 : Int)), .int .i64 0] else .tuple #[.int .i64 0, .int .i64 0, .int .i64 1]

theorem idxV_1 {p : Int} {t : Nat → Int} (h : isB p t = false) : idxV p t = .tuple #[.int .i64 0, .int .i64 0, .int .i64 1] := by
  unfold idxV; rw [if_neg (by rw [h]; exact Bool.false_ne_true)]

theorem idxV_0 {p : Int} {t : Nat → Int} (h : isB p t = true) : idxV p t = .tuple #[.int .i64 (ixP p t).1, .int .i64 (((ixP p t).2 : Int) - ((ixP p t).1 : Int)), .int .i64 0] := by
  unfold idxV; rw [if_pos h]

set_option maxHeartbeats 1000000 in
theorem sIdx_any (p : Int) (t : Nat → Int) (w : World) :
    Calls Try.prog 9 #[mv p t] w fun e w' => e = .returned (idxV p t) ∧ Below w.heap.size w w' := by
  have HL := fun w => lis_any p t w
  cases hv : isB p t
  · rw [idxV_1 hv]
    rw [hv] at HL
    have HL := Lib.hid HL
    simp only [mv, mcells]
    go_enter Try.func9, Try.ntmps9
    go_wp2_with fail
    (refine (HL.out _).mono ?_; rintro e w1 ⟨rfl, hb⟩; obtain ⟨hc, hf⟩ := bcell hb; have hz := hb.size; have Hb := Lib.hid hb; (try simp at hz hc hf); (try (have hy := Nat.lt_of_succ_le hz)); have hz0 : w.heap.size < w1.heap.size := (by omega); clear hb)
    go_wp2_with fail
    refine bodyPost_ret (v := .tuple #[.int .i64 0, .int .i64 0, .int .i64 1]) (by simp [results, Try.results9, go_sem, *]) rfl ⟨rfl, ?_⟩
    (repeat' (first | (with_reducible exact Below.refl _ _) | (with_reducible refine Below.alloc ?_ ?_ _) | (with_reducible refine Below.setCell ?_ ?_ _) | (with_reducible refine Below.drew ?_) | (with_reducible refine below_drewN ?_ _) | (with_reducible refine Below.trans ?_ (Below.mono (Hid.out (by assumption)) ?_)) | omega | (simp; done) | (simp; omega)))
  · rw [idxV_0 hv]
    rw [hv] at HL
    have HL := Lib.hid HL
    have hr := ixP_rep hv
    generalize (ixP p t).1 = i at *
    generalize (ixP p t).2 = j at *
    have HP := Lib.hid fun w => sidx_any p t hv i j hr w
    clear hv hr
    simp only [mv, mcells] at *
    go_enter Try.func9, Try.ntmps9
    go_wp2_with fail
    (refine (HL.out _).mono ?_; rintro e w1 ⟨rfl, hb⟩; obtain ⟨hc, hf⟩ := bcell hb; have hz := hb.size; have Hb := Lib.hid hb; (try simp at hz hc hf); (try (have hy := Nat.lt_of_succ_le hz)); have hz0 : w.heap.size < w1.heap.size := (by omega); clear hb)
    go_wp2_with fail
    (refine (HP.out _).mono ?_; rintro e w1 ⟨rfl, hb⟩; obtain ⟨hc, hf⟩ := bcell hb; have hz := hb.size; have Hb := Lib.hid hb; (try simp at hz hc hf); (try (have hy := Nat.lt_of_succ_le hz)); have hz0 : w.heap.size < w1.heap.size := (by omega); clear hb)
    go_wp2_with fail
    refine bodyPost_ret (v := .tuple #[.int .i64 i, .int .i64 ((j : Int) - (i : Int)), .int .i64 0]) (by simp [results, Try.results9, go_sem, *]) rfl ⟨rfl, ?_⟩
    (repeat' (first | (with_reducible exact Below.refl _ _) | (with_reducible refine Below.alloc ?_ ?_ _) | (with_reducible refine Below.setCell ?_ ?_ _) | (with_reducible refine Below.drew ?_) | (with_reducible refine below_drewN ?_ _) | (with_reducible refine Below.trans ?_ (Below.mono (Hid.out (by assumption)) ?_)) | omega | (simp; done) | (simp; omega)))

set_option maxHeartbeats 1000000 in
theorem iIdx_any (p : Int) (t : Nat → Int) (w : World) :
    Calls Try.prog 8 #[mv p t] w fun e w' => e = .returned (idxV p t) ∧ Below w.heap.size w w' := by
  have HL := fun w => iis_any p t w
  cases hv : isB p t
  · rw [idxV_1 hv]
    rw [hv] at HL
    have HL := Lib.hid HL
    simp only [mv, mcells]
    go_enter Try.func8, Try.ntmps8
    go_wp2_with fail
    (refine (HL.out _).mono ?_; rintro e w1 ⟨rfl, hb⟩; obtain ⟨hc, hf⟩ := bcell hb; have hz := hb.size; have Hb := Lib.hid hb; (try simp at hz hc hf); (try (have hy := Nat.lt_of_succ_le hz)); have hz0 : w.heap.size < w1.heap.size := (by omega); clear hb)
    go_wp2_with fail
    refine bodyPost_ret (v := .tuple #[.int .i64 0, .int .i64 0, .int .i64 1]) (by simp [results, Try.results8, go_sem, *]) rfl ⟨rfl, ?_⟩
    (repeat' (first | (with_reducible exact Below.refl _ _) | (with_reducible refine Below.alloc ?_ ?_ _) | (with_reducible refine Below.setCell ?_ ?_ _) | (with_reducible refine Below.drew ?_) | (with_reducible refine below_drewN ?_ _) | (with_reducible refine Below.trans ?_ (Below.mono (Hid.out (by assumption)) ?_)) | omega | (simp; done) | (simp; omega)))
  · rw [idxV_0 hv]
    rw [hv] at HL
    have HL := Lib.hid HL
    have hr := ixP_rep hv
    generalize (ixP p t).1 = i at *
    generalize (ixP p t).2 = j at *
    have HP := Lib.hid fun w => iidx_any p t hv i j hr w
    clear hv hr
    simp only [mv, mcells] at *
    go_enter Try.func8, Try.ntmps8
    go_wp2_with fail
    (refine (HL.out _).mono ?_; rintro e w1 ⟨rfl, hb⟩; obtain ⟨hc, hf⟩ := bcell hb; have hz := hb.size; have Hb := Lib.hid hb; (try simp at hz hc hf); (try (have hy := Nat.lt_of_succ_le hz)); have hz0 : w.heap.size < w1.heap.size := (by omega); clear hb)
    go_wp2_with fail
    (refine (HP.out _).mono ?_; rintro e w1 ⟨rfl, hb⟩; obtain ⟨hc, hf⟩ := bcell hb; have hz := hb.size; have Hb := Lib.hid hb; (try simp at hz hc hf); (try (have hy := Nat.lt_of_succ_le hz)); have hz0 : w.heap.size < w1.heap.size := (by omega); clear hb)
    go_wp2_with fail
    refine bodyPost_ret (v := .tuple #[.int .i64 i, .int .i64 ((j : Int) - (i : Int)), .int .i64 0]) (by simp [results, Try.results8, go_sem, *]) rfl ⟨rfl, ?_⟩
    (repeat' (first | (with_reducible exact Below.refl _ _) | (with_reducible refine Below.alloc ?_ ?_ _) | (with_reducible refine Below.setCell ?_ ?_ _) | (with_reducible refine Below.drew ?_) | (with_reducible refine below_drewN ?_ _) | (with_reducible refine Below.trans ?_ (Below.mono (Hid.out (by assumption)) ?_)) | omega | (simp; done) | (simp; omega)))

end Go.Proofs.Ythblbamiammodaa
