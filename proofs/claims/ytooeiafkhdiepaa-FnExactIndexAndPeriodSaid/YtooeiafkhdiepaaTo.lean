/- The contracts of laws.toInt64A5 and laws.toMap: they hand on what they are given. -/
import Derived.Test.YtooeiafkhdiepaaBlk
namespace Go.Proofs.Ytooeiafkhdiepaa
open Go.RowKit

set_option maxHeartbeats 400000 in
theorem toA5_any (t : Nat → Int) (w : World) :
    Calls Try.prog 119 #[.agg #[.int .i64 (t 0), .int .i64 (t 1), .int .i64 (t 2), .int .i64 (t 3), .int .i64 (t 4)]] w fun e w' =>
      e = .returned (.agg #[.int .i64 (t 0), .int .i64 (t 1), .int .i64 (t 2), .int .i64 (t 3), .int .i64 (t 4)]) ∧ Below w.heap.size w w' := by
  go_enter Try.func119, Try.ntmps119
  go_wp2
  refine wp_loop_rounds 6 ?_
  iterate 6 (rw [rounds_succ]; go_wp2)
  refine bodyPost_ret (v := .agg #[.int .i64 (t 0), .int .i64 (t 1), .int .i64 (t 2), .int .i64 (t 3), .int .i64 (t 4)]) (by simp [results, Try.results119, go_sem]) rfl ⟨rfl, ?_⟩
  repeat (refine Below.alloc ?_ (by simp <;> omega) _)
  exact Below.refl _ _

set_option maxHeartbeats 400000 in
theorem toMap_any (p : Int) (t : Nat → Int) (w : World) :
    Calls Try.prog 68 #[mv p t] w fun e w' => e = .returned (mv p t) ∧ Below w.heap.size w w' := by
  simp only [mv, mcells]
  go_enter Try.func68, Try.ntmps68
  go_wp2_with (go_at_call 119; (with_reducible refine (toA5_any t _).mono ?_); rintro e w1 ⟨rfl, hb⟩; obtain ⟨hc, hf⟩ := bcell hb; have hz := hb.size; have Hb := Lib.hid hb; (try simp at hz hc hf); (try (have hy := Nat.lt_of_succ_le hz)); have hz0 : w.heap.size < w1.heap.size := (by omega); have hz1 : w.heap.size + 1 < w1.heap.size := (by omega); have hz2 : w.heap.size + 1 + 1 < w1.heap.size := (by omega); clear hb)
  refine bodyPost_ret (v := mv p t) (by simp [results, Try.results68, go_sem, hc]) rfl ⟨rfl, ?_⟩
  (repeat' (first | (with_reducible exact Below.refl _ _) | (with_reducible refine Below.alloc ?_ ?_ _) | (with_reducible refine Below.setCell ?_ ?_ _) | (with_reducible refine Below.drew ?_) | (with_reducible refine below_drewN ?_ _) | (with_reducible refine Below.trans ?_ (Below.mono (Hid.out (by assumption)) ?_)) | omega | (simp; done) | (simp; omega)))
end Go.Proofs.Ytooeiafkhdiepaa
