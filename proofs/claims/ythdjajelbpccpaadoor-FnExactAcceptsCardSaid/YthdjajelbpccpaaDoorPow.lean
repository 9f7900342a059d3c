/- The contracts of the identities and powers of both packages. -/
import Derived.Test.YthdjajelbpccpaaDoorBase
import Derived.Test.YthdjajelbpccpaaDoorPowm
namespace Go.Proofs.YthdjajelbpccpaaDoor
open Go.RowKit

set_option maxHeartbeats 1000000 in
theorem sid_any (p : Int) (h1 : 1 ≤ p) (h5 : p ≤ 5) (w : World) :
    Calls Tryd.prog 59 #[.int .i64 p] w fun e w' => e = .returned (mv p (idn p)) ∧ Below w.heap.size w w' := by
  rcases (by omega : p = 1 ∨ p = 2 ∨ p = 3 ∨ p = 4 ∨ p = 5) with rfl | rfl | rfl | rfl | rfl
  all_goals
    go_enter Tryd.func59, Tryd.ntmps59
    go_wp2
    refine wp_loop_rounds 6 ?_
    repeat (rw [rounds_succ]; go_wp2)
    refine bodyPost_ret (v := mv _ (idn _)) (by simp [results, Tryd.results59, go_sem, idn]) rfl ⟨rfl, ?_⟩
    (repeat' (first | (with_reducible exact Below.refl _ _) | (with_reducible refine Below.alloc ?_ ?_ _) | (with_reducible refine Below.setCell ?_ ?_ _) | (with_reducible refine Below.drew ?_) | (with_reducible refine below_drewN ?_ _) | (with_reducible refine Below.trans ?_ (Below.mono (Hid.out (by assumption)) ?_)) | omega | (simp; done) | (simp; omega)))

set_option maxHeartbeats 1000000 in
theorem iid_any (p : Int) (h1 : 1 ≤ p) (h5 : p ≤ 5) (w : World) :
    Calls Tryd.prog 75 #[.int .i64 p] w fun e w' => e = .returned (mv p (idn p)) ∧ Below w.heap.size w w' := by
  rcases (by omega : p = 1 ∨ p = 2 ∨ p = 3 ∨ p = 4 ∨ p = 5) with rfl | rfl | rfl | rfl | rfl
  all_goals
    go_enter Tryd.func75, Tryd.ntmps75
    go_wp2
    refine wp_loop_rounds 6 ?_
    repeat (rw [rounds_succ]; go_wp2)
    refine bodyPost_ret (v := mv _ (idn _)) (by simp [results, Tryd.results75, go_sem, idn]) rfl ⟨rfl, ?_⟩
    (repeat' (first | (with_reducible exact Below.refl _ _) | (with_reducible refine Below.alloc ?_ ?_ _) | (with_reducible refine Below.setCell ?_ ?_ _) | (with_reducible refine Below.drew ?_) | (with_reducible refine below_drewN ?_ _) | (with_reducible refine Below.trans ?_ (Below.mono (Hid.out (by assumption)) ?_)) | omega | (simp; done) | (simp; omega)))
end Go.Proofs.YthdjajelbpccpaaDoor
