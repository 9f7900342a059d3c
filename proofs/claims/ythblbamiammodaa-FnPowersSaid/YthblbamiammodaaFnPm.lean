/- What the law FnPowers wants to know of powers, indices and periods, told of the values that the functions leave. -/
import Derived.Test.YthblbamiammodaaPower
import Derived.Test.YthblbamiammodaaIdx
import Derived.Test.YthblbamiammodaaFpw
namespace Go.Proofs.Ythblbamiammodaa
open Go.RowKit

theorem pow_idx (p : Int) (t : Nat → Int) (k : Int) : ∃ P T C i0 d0 c0, powV p t k = .tuple #[mv P T, .int .i64 C] ∧ idxV p t = .tuple #[.int .i64 i0, .int .i64 d0, .int .i64 c0] ∧
    (C = 0 → i0 ≤ k → k < 900000000000 → 0 ≤ d0 ∧ d0 ≤ 120 ∧ 0 ≤ k ∧ powV p t (k + d0) = .tuple #[mv P T, .int .i64 0]) := by
  cases hv : isB p t
  · rw [powV_1 hv, idxV_1 hv]
    exact ⟨_, _, _, _, _, _, rfl, rfl, fun h => by omega⟩
  · by_cases hk : 0 ≤ k ∧ k ≤ 1000000000000
    · rw [powV_0 hv hk, idxV_0 hv]
      have hr := ixP_rep hv
      generalize (ixP p t).1 = i at *
      generalize (ixP p t).2 = j at *
      refine ⟨_, _, _, _, _, _, rfl, rfl, fun _ h1 h2 => ?_⟩
      have hij := hr.1
      have hj := hr.2.1
      refine ⟨by omega, by omega, hk.1, ?_⟩
      rw [powV_0 hv ⟨by omega, by omega⟩, show (k + ((j : Int) - (i : Int))).toNat = k.toNat + (j - i) by omega, pow_on hv hr k.toNat (by omega)]
    · rw [powV_2 hv hk]
      rcases hx : idxV p t with _ | _
      all_goals first
        | (rw [idxV_0 hv] at hx; exact ⟨_, _, _, _, _, _, rfl, hx.symm, fun h => by omega⟩)
        | (rw [idxV_0 hv] at hx; cases hx)

end Go.Proofs.Ythblbamiammodaa
