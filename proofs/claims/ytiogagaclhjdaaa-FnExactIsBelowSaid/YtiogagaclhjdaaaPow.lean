/- The contracts of the identities and powers of both packages. -/
import Derived.Test.YtiogagaclhjdaaaBase
import Derived.Test.YtiogagaclhjdaaaPowm
namespace Go.Proofs.Ytiogagaclhjdaaa
open Go.RowKit

set_option maxHeartbeats 1000000 in
theorem sid_any (p : Int) (h1 : 1 ≤ p) (h5 : p ≤ 5) (w : World) :
    Calls Try.prog 109 #[.int .i64 p] w fun e w' => e = .returned (mv p (idn p)) ∧ Below w.heap.size w w' := by
  rcases (by omega : p = 1 ∨ p = 2 ∨ p = 3 ∨ p = 4 ∨ p = 5) with rfl | rfl | rfl | rfl | rfl
  all_goals
    go_enter Try.func109, Try.ntmps109
    go_wp2
    refine wp_loop_rounds 6 ?_
    repeat (rw [rounds_succ]; go_wp2)
    refine bodyPost_ret (v := mv _ (idn _)) (by simp [results, Try.results109, go_sem, idn]) rfl ⟨rfl, ?_⟩
    (repeat' (first | (with_reducible exact Below.refl _ _) | (with_reducible refine Below.alloc ?_ ?_ _) | (with_reducible refine Below.setCell ?_ ?_ _) | (with_reducible refine Below.drew ?_) | (with_reducible refine below_drewN ?_ _) | (with_reducible refine Below.trans ?_ (Below.mono (Hid.out (by assumption)) ?_)) | omega | (simp; done) | (simp; omega)))

set_option maxHeartbeats 1000000 in
theorem iid_any (p : Int) (h1 : 1 ≤ p) (h5 : p ≤ 5) (w : World) :
    Calls Try.prog 67 #[.int .i64 p] w fun e w' => e = .returned (mv p (idn p)) ∧ Below w.heap.size w w' := by
  rcases (by omega : p = 1 ∨ p = 2 ∨ p = 3 ∨ p = 4 ∨ p = 5) with rfl | rfl | rfl | rfl | rfl
  all_goals
    go_enter Try.func67, Try.ntmps67
    go_wp2
    refine wp_loop_rounds 6 ?_
    repeat (rw [rounds_succ]; go_wp2)
    refine bodyPost_ret (v := mv _ (idn _)) (by simp [results, Try.results67, go_sem, idn]) rfl ⟨rfl, ?_⟩
    (repeat' (first | (with_reducible exact Below.refl _ _) | (with_reducible refine Below.alloc ?_ ?_ _) | (with_reducible refine Below.setCell ?_ ?_ _) | (with_reducible refine Below.drew ?_) | (with_reducible refine below_drewN ?_ _) | (with_reducible refine Below.trans ?_ (Below.mono (Hid.out (by assumption)) ?_)) | omega | (simp; done) | (simp; omega)))
end Go.Proofs.Ytiogagaclhjdaaa
