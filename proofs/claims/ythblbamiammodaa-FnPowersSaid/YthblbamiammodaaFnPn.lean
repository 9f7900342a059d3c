/- What the law FnPowers wants to know of the values that the functions leave, of idempotent powers, inverses, renumbered maps and kernels. -/
import Derived.Test.YthblbamiammodaaFnPm
import Derived.Test.YthblbamiammodaaIp
import Derived.Test.YthblbamiammodaaIdem
import Derived.Test.YthblbamiammodaaRankOf
import Derived.Test.YthblbamiammodaaProd
import Derived.Test.YthblbamiammodaaInv
import Derived.Test.YthblbamiammodaaRenI
import Derived.Test.YthblbamiammodaaFixed
import Derived.Test.YthblbamiammodaaKer
import Derived.Test.YthblbamiammodaaLike
namespace Go.Proofs.Ythblbamiammodaa
open Go.RowKit

theorem ipC_0 {p : Int} {t : Nat → Int} (h : isB p t = true) : ipC p t = 0 := by unfold ipC; rw [if_pos h]
theorem ipC_1 {p : Int} {t : Nat → Int} (h : isB p t = false) : ipC p t = 1 := by unfold ipC; rw [if_neg (by rw [h]; exact Bool.false_ne_true)]

theorem ip_all (p : Int) (t : Nat → Int) : ∃ P T C L, ipV p t = .tuple #[mv P T, .int .i64 C] ∧ ipC p t = C ∧ cycL p t = L ∧ L.length ≤ 5 ∧
    (C = 0 → idemV P T = .tuple #[.bool true, .int .i64 0] ∧ fixL P T = L ∧ fixC P T = 0 ∧ rankV P T = .tuple #[.int .i64 L.length, .int .i64 0]) := by
  cases hv : isB p t
  · have e : cycL p t = [] := by unfold cycL; rw [if_neg (by rw [hv]; exact Bool.false_ne_true)]
    exact ⟨_, _, 1, [], ipV_1 hv, ipC_1 hv, e, by simp, fun h => by omega⟩
  · have e : cycL p t = asc (imgB p (pow p t 60)) := by unfold cycL; rw [if_pos hv]
    have hP := pow_ok hv 60
    refine ⟨_, _, 0, _, ipV_0 hv, ipC_0 hv, e, ascK_len _ 5, fun _ => ⟨?_, ?_, ?_, ?_⟩⟩
    · unfold idemV; rw [if_pos hP, idem_60 hv]
    · unfold fixL; rw [if_pos hP, cyc_img hv]
    · unfold fixC; rw [if_pos hP]
    · unfold rankV; rw [if_pos hP]

theorem inv_all (p : Int) (t : Nat → Int) : ∃ P T C, invV p t = .tuple #[mv P T, .int .i64 C] ∧
    (C = 0 → ∃ U V L, prodV p t P T = .tuple #[mv U V, .int .i64 0] ∧ fixL U V = L ∧ fixC U V = 0 ∧ (L.length : Int) = p) := by
  cases hv : isB p t
  · exact ⟨_, _, 1, invV_1 hv, fun h => by omega⟩
  · cases hq : permB p t
    · exact ⟨_, _, 5, invV_5 hv hq, fun h => by omega⟩
    · have hi := inv_ok hv
      have hu := mul_ok hv hi
      refine ⟨_, _, 0, invV_0 hv hq, fun _ => ⟨_, _, _, prodV_0 (by unfold likeC; rw [if_pos ⟨hv, hi⟩, if_pos rfl]), rfl, ?_, ?_⟩⟩
      · unfold fixC; rw [if_pos hu]
      · unfold fixL; rw [if_pos hu]; exact unit_fix hv hq

theorem ren_all (p : Int) (f : Nat → Int) (q : Int) (g : Nat → Int) : ∃ P T C, renV p f q g = .tuple #[mv P T, .int .i64 C] ∧
    (C = 0 → ∃ A B D E, powV p f 2 = .tuple #[mv A B, .int .i64 0] ∧ renV A B q g = .tuple #[mv D E, .int .i64 0] ∧ powV P T 2 = .tuple #[mv D E, .int .i64 0]) := by
  by_cases h0 : likeC p f q g = 0
  · have h0' := h0
    unfold likeC at h0'
    split at h0'
    · rename_i hh
      split at h0'
      · rename_i e
        subst e
        cases hq : permB p g
        · exact ⟨_, _, 5, renV_5 h0 hq, fun h => by omega⟩
        · refine ⟨_, _, 0, renV_0 h0 hq, fun _ => ⟨_, _, _, _, powV_0 hh.1 (by decide), renV_0 ?_ hq, ?_⟩⟩
          · unfold likeC; rw [if_pos ⟨pow_ok hh.1 _, hh.2⟩, if_pos rfl]
          · rw [powV_0 (ren_ok hh.1 hh.2 hq) (by decide)]
            rw [show (2 : Int).toNat = 2 from rfl, ren_pow2 hh.1 hh.2 hq]
      · exact absurd h0' (by decide)
    · exact absurd h0' (by decide)
  · refine ⟨_, _, renC p f q g, rfl, fun h => ?_⟩
    unfold renC at h
    rw [if_neg h0] at h
    exact absurd h h0

/-- The greatest of the first k numbers of a list, and one more. -/
def mxL (L : List Int) : Nat → Int
  | 0 => 0
  | k + 1 => max (mxL L k) (L.getD k 0 + 1)

theorem mxL_bnd {L : List Int} (h : ∀ i, i < L.length → 0 ≤ L.getD i 0 ∧ L.getD i 0 < 5) : ∀ k, k ≤ L.length → 0 ≤ mxL L k ∧ mxL L k ≤ 5
  | 0, _ => ⟨Int.le_refl _, show (0 : Int) ≤ 5 by decide⟩
  | k + 1, hk => by
    have := mxL_bnd h k (by omega)
    have := h k (by omega)
    show 0 ≤ max (mxL L k) _ ∧ max (mxL L k) _ ≤ 5
    omega

theorem mxL_mxK (t : Nat → Int) (n : Nat) : ∀ k, k ≤ n → mxL (kerK t n) k = mxK t k
  | 0, _ => rfl
  | k + 1, hk => by
    show max (mxL _ k) _ = max (mxK t k) _
    rw [mxL_mxK t n k (by omega), kerK_getD t n k (by omega)]

theorem kvK_bnd (t : Nat → Int) (i : Nat) : 0 ≤ kvK t i ∧ kvK t i ≤ i := by
  have h1 := (fst1_at t i).2.1
  have h2 := rkK_le t (fst1 t i)
  unfold kvK
  omega

theorem ker_all (p : Int) (t : Nat → Int) : ∃ L C R D, kerL p t = L ∧ kerC p t = C ∧ rankV p t = .tuple #[.int .i64 R, .int .i64 D] ∧ L.length ≤ 5 ∧
    (∀ i, i < L.length → 0 ≤ L.getD i 0 ∧ L.getD i 0 < 5) ∧ (C = 0 → mxL L L.length = R) := by
  cases hv : isB p t
  · have hn : ¬ (isB p t = true) := by rw [hv]; exact Bool.false_ne_true
    refine ⟨[], 1, 0, 1, ?_, ?_, ?_, by simp, fun i hi => by simp at hi, fun h => by omega⟩
    · unfold kerL; rw [if_neg hn]
    · unfold kerC; rw [if_neg hn]
    · unfold rankV; rw [if_neg hn]
  · have hp := isB_pts hv
    refine ⟨kerK t p.toNat, 0, ((asc (imgB p t)).length : Int), 0, ?_, ?_, ?_, ?_, fun i hi => ?_, fun _ => ?_⟩
    rotate_left 3
    · rw [kerK_len]; omega
    · rw [kerK_len] at hi
      rw [kerK_getD t _ i hi]
      have := kvK_bnd t i
      omega
    · rw [kerK_len, mxL_mxK t _ _ (Nat.le_refl _), mxK_rk]
      rw [← img_rk t p.toNat (fun i hi => by have := ok_at hv i (by omega); omega)]
      rfl
    · unfold kerL; rw [if_pos hv]
    · unfold kerC; rw [if_pos hv]
    · unfold rankV; rw [if_pos hv]

theorem idem_some (p : Int) (t : Nat → Int) : ∃ b C, idemV p t = .tuple #[.bool b, .int .i64 C] := by
  cases hv : isB p t
  · exact ⟨_, _, by unfold idemV; rw [if_neg (by rw [hv]; exact Bool.false_ne_true)]⟩
  · exact ⟨_, _, by unfold idemV; rw [if_pos hv]⟩

end Go.Proofs.Ythblbamiammodaa
