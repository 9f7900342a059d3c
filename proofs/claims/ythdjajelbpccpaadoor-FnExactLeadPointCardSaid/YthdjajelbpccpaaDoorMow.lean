/- The contract of impl.MapOfWord. -/
import Derived.Test.YthdjajelbpccpaaDoorChk
import Derived.Test.YthdjajelbpccpaaDoorPow
import Derived.StillTailTactics
namespace Go.Proofs.YthdjajelbpccpaaDoor
open Go.RowKit

/-- The product of the first k maps of a word. -/
def wrdK (L : List MapN) (W : List Int) : Nat → (Nat → Int)
  | 0 => idn (fst0 L)
  | k + 1 => mul (fst0 L) (wrdK L W k) (L.getD (W.getD k 0).toNat z0).2

def mowC (L : List MapN) (W : List Int) : Int := if chkC L [] = 0 then (if W.length ≤ 100 then (if belB L.length W = true then 0 else 2) else 2) else chkC L []

def mowV (L : List MapN) (W : List Int) : Value := .tuple #[mv (resP (mowC L W) (fst0 L)) (resT (mowC L W) (wrdK L W W.length)), .int .i64 (mowC L W)]

theorem mowV_bad {L : List MapN} {W : List Int} {C : Int} (h : mowC L W = C) (h0 : C ≠ 0) : mowV L W = .tuple #[mv 0 fun _ => 0, .int .i64 C] := by
  unfold mowV resP resT; rw [h, if_neg h0]; simp only [if_neg h0]

theorem mowV_good {L : List MapN} {W : List Int} (h : mowC L W = 0) : mowV L W = .tuple #[mv (fst0 L) (wrdK L W W.length), .int .i64 0] := by
  unfold mowV resP resT; rw [h]; rfl

theorem chkC_zero {L O : List MapN} (h : chkC L O = 0) : allB (L ++ O) = true ∧ sizeB L = true ∧ sameB (fst0 L) (L ++ O) = true := by
  unfold chkC at h
  split at h
  · next h1 =>
    split at h
    · next h2 =>
      split at h
      · next h3 => exact ⟨h1, h2, h3⟩
      · omega
    · omega
  · omega

theorem sizeB_at {L : List MapN} (h : sizeB L = true) : 1 ≤ L.length ∧ L.length ≤ 6 := by unfold sizeB at h; simp at h; exact h

/-- A list whose maps all are maps of p points. -/
def goodL (p : Int) (L : List MapN) : Prop := 1 ≤ p ∧ p ≤ 5 ∧ ∀ k, k < L.length → (L.getD k z0).1 = p ∧ isB p (L.getD k z0).2 = true

theorem good_of {L : List MapN} (h : chkC L [] = 0) : goodL (fst0 L) L ∧ 1 ≤ L.length ∧ L.length ≤ 6 := by
  obtain ⟨h1, h2, h3⟩ := chkC_zero h
  rw [List.append_nil] at h1 h3
  have hs := sizeB_at h2
  have h0 := allB_at h1 0 (by omega)
  have hp := isB_pts h0
  refine ⟨⟨hp.1, hp.2, fun k hk => ?_⟩, hs⟩
  have e := sameB_at h3 k hk
  have b := allB_at h1 k hk
  rw [e] at b
  exact ⟨e, b⟩

theorem wrdK_ok {L : List MapN} {W : List Int} (hL : goodL (fst0 L) L) : ∀ k, (∀ j, j < k → 0 ≤ W.getD j 0 ∧ W.getD j 0 < L.length) → isB (fst0 L) (wrdK L W k) = true
  | 0, _ => idn_ok hL.1 hL.2.1
  | k + 1, h => by
    have := h k (by omega)
    exact mul_ok (wrdK_ok hL k (fun j hj => h j (by omega))) (hL.2.2 _ (by omega)).2



end Go.Proofs.YthdjajelbpccpaaDoor
