/- The contracts of spec.RankOf and impl.RankOf. -/
import Derived.Test.YthblbamiammodaaRank
import Derived.Test.YthblbamiammodaaImage
import Derived.Test.YthblbamiammodaaBase
namespace Go.Proofs.Ythblbamiammodaa
open Go.RowKit

def rankV (p : Int) (t : Nat → Int) : Value := if isB p t = true then .tuple #[.int .i64 (asc (imgB p t)).length, .int .i64 0] else .tuple #[.int .i64 0, .int .i64 1]

theorem sRankOf_any (p : Int) (t : Nat → Int) (w : World) :
    Calls Try.prog 29 #[mv p t] w fun e w' => e = .returned (rankV p t) ∧ Below w.heap.size w w' := by
  cases hv : isB p t
  · have hV : rankV p t = .tuple #[.int .i64 0, .int .i64 1] := by unfold rankV; rw [if_neg (by rw [hv]; exact Bool.false_ne_true)]
    rw [hV]
    clear hV
    simp only [mv, mcells]
    go_enter Try.func29, Try.ntmps29
    go_wp2_with fail
    (refine (lis_any p t _).mono ?_; rintro e w1 ⟨rfl, hb⟩; obtain ⟨hc, hf⟩ := bcell hb; have hz := hb.size; have Hb := Lib.hid hb; (try simp at hz hc hf); (try (have hy := Nat.lt_of_succ_le hz)); have hz0 : w.heap.size < w1.heap.size := (by omega); clear hb)
    go_wp2_with fail
    go_ret2
    refine ⟨rfl, ?_⟩
    (repeat' (first | (with_reducible exact Below.refl _ _) | (with_reducible refine Below.alloc ?_ ?_ _) | (with_reducible refine Below.setCell ?_ ?_ _) | (with_reducible refine Below.drew ?_) | (with_reducible refine below_drewN ?_ _) | (with_reducible refine Below.trans ?_ (Below.mono (Hid.out (by assumption)) ?_)) | omega | (simp; done) | (simp; omega)))
  · have hV : rankV p t = .tuple #[.int .i64 (asc (imgB p t)).length, .int .i64 0] := by unfold rankV; rw [if_pos hv]
    rw [hV]
    clear hV
    have HV := Lib.hid fun w => srank_any p t hv w
    simp only [mv, mcells]
    go_enter Try.func29, Try.ntmps29
    go_wp2_with fail
    (refine (lis_any p t _).mono ?_; rintro e w1 ⟨rfl, hb⟩; obtain ⟨hc, hf⟩ := bcell hb; have hz := hb.size; have Hb := Lib.hid hb; (try simp at hz hc hf); (try (have hy := Nat.lt_of_succ_le hz)); have hz0 : w.heap.size < w1.heap.size := (by omega); clear hb)
    go_wp2_with fail
    (refine (HV.out _).mono ?_; rintro e w1 ⟨rfl, hb⟩; obtain ⟨hc, hf⟩ := bcell hb; have hz := hb.size; have Hb := Lib.hid hb; (try simp at hz hc hf); (try (have hy := Nat.lt_of_succ_le hz)); have hz0 : w.heap.size < w1.heap.size := (by omega); clear hb)
    go_wp2_with fail
    go_ret2
    refine ⟨rfl, ?_⟩
    (repeat' (first | (with_reducible exact Below.refl _ _) | (with_reducible refine Below.alloc ?_ ?_ _) | (with_reducible refine Below.setCell ?_ ?_ _) | (with_reducible refine Below.drew ?_) | (with_reducible refine below_drewN ?_ _) | (with_reducible refine Below.trans ?_ (Below.mono (Hid.out (by assumption)) ?_)) | omega | (simp; done) | (simp; omega)))

theorem iRankOf_any (p : Int) (t : Nat → Int) (w : World) :
    Calls Try.prog 18 #[mv p t] w fun e w' => e = .returned (rankV p t) ∧ Below w.heap.size w w' := by
  cases hv : isB p t
  · have hV : rankV p t = .tuple #[.int .i64 0, .int .i64 1] := by unfold rankV; rw [if_neg (by rw [hv]; exact Bool.false_ne_true)]
    rw [hV]
    clear hV
    simp only [mv, mcells]
    go_enter Try.func18, Try.ntmps18
    go_wp2_with fail
    (refine (iis_any p t _).mono ?_; rintro e w1 ⟨rfl, hb⟩; obtain ⟨hc, hf⟩ := bcell hb; have hz := hb.size; have Hb := Lib.hid hb; (try simp at hz hc hf); (try (have hy := Nat.lt_of_succ_le hz)); have hz0 : w.heap.size < w1.heap.size := (by omega); clear hb)
    go_wp2_with fail
    go_ret2
    refine ⟨rfl, ?_⟩
    (repeat' (first | (with_reducible exact Below.refl _ _) | (with_reducible refine Below.alloc ?_ ?_ _) | (with_reducible refine Below.setCell ?_ ?_ _) | (with_reducible refine Below.drew ?_) | (with_reducible refine below_drewN ?_ _) | (with_reducible refine Below.trans ?_ (Below.mono (Hid.out (by assumption)) ?_)) | omega | (simp; done) | (simp; omega)))
  · have hV : rankV p t = .tuple #[.int .i64 (asc (imgB p t)).length, .int .i64 0] := by unfold rankV; rw [if_pos hv]
    rw [hV]
    clear hV
    have HV := Lib.hid fun w => irank_any p t hv w
    simp only [mv, mcells]
    go_enter Try.func18, Try.ntmps18
    go_wp2_with fail
    (refine (iis_any p t _).mono ?_; rintro e w1 ⟨rfl, hb⟩; obtain ⟨hc, hf⟩ := bcell hb; have hz := hb.size; have Hb := Lib.hid hb; (try simp at hz hc hf); (try (have hy := Nat.lt_of_succ_le hz)); have hz0 : w.heap.size < w1.heap.size := (by omega); clear hb)
    go_wp2_with fail
    (refine (HV.out _).mono ?_; rintro e w1 ⟨rfl, hb⟩; obtain ⟨hc, hf⟩ := bcell hb; have hz := hb.size; have Hb := Lib.hid hb; (try simp at hz hc hf); (try (have hy := Nat.lt_of_succ_le hz)); have hz0 : w.heap.size < w1.heap.size := (by omega); clear hb)
    go_wp2_with fail
    go_ret2
    refine ⟨rfl, ?_⟩
    (repeat' (first | (with_reducible exact Below.refl _ _) | (with_reducible refine Below.alloc ?_ ?_ _) | (with_reducible refine Below.setCell ?_ ?_ _) | (with_reducible refine Below.drew ?_) | (with_reducible refine below_drewN ?_ _) | (with_reducible refine Below.trans ?_ (Below.mono (Hid.out (by assumption)) ?_)) | omega | (simp; done) | (simp; omega)))

end Go.Proofs.Ythblbamiammodaa
