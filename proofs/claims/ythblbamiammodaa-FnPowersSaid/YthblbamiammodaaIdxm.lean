/- The map from powers to numbers that impl.indexAndPeriod keeps to itself, told as a datum. -/
import Derived.Test.YthblbamiammodaaKey
import Derived.Test.YthblbamiammodaaSidx
import Derived.Maps.OwnSet
import Derived.Maps.OwnOps
namespace Go.Proofs.Ythblbamiammodaa
open Go.RowKit Go.Maps

/-- The map behind k rounds. -/
def pD (p : Int) (f : Nat → Int) : Nat → DataW Unit
  | 0 => .map []
  | k + 1 => (pD p f k).put (kyL p (pow p f k)) (.lit (.int .i64 k))

theorem pD_tidy {p : Int} {f : Nat → Int} (hf : isB p f = true) : ∀ k, Tidy (pD p f k)
  | 0 => tidy_empty
  | k + 1 => (pD_tidy hf k).put (kyL_key (pow_ok hf k)) _

theorem ky_ne {p : Int} {f : Nat → Int} (hf : isB p f = true) {a b : Nat} (h : pow p f a ≠ pow p f b) : kyL p (pow p f a) ≠ kyL p (pow p f b) := fun e => by
  have hi := kyL_inj (pow_ok hf a) (pow_ok hf b) e
  refine h (eq_pow hf ?_)
  simp [eqB, eqA, hi 0 (by omega), hi 1 (by omega), hi 2 (by omega), hi 3 (by omega), hi 4 (by omega)]

theorem has_pD_new {p : Int} {f : Nat → Int} (hf : isB p f = true) (m : Nat) : ∀ k, (∀ b, b < k → pow p f b ≠ pow p f m) → Maps.has (pD p f k) (kyL p (pow p f m)) = false
  | 0, _ => rfl
  | k + 1, h => by
    show Maps.has ((pD p f k).put _ _) _ = false
    rw [has_put_other (ky_ne hf (fun e => h k (by omega) e.symm))]
    exact has_pD_new hf m k fun b hb => h b (by omega)

theorem has_pD_old {p : Int} {f : Nat → Int} (hf : isB p f = true) (m b : Nat) (e : pow p f b = pow p f m) : ∀ k, b < k → Maps.has (pD p f k) (kyL p (pow p f m)) = true
  | 0, h => by omega
  | k + 1, h => by
    show Maps.has ((pD p f k).put _ _) _ = true
    by_cases c : pow p f m = pow p f k
    · rw [c, has_put_same (pD_tidy hf k).isMap (kyL_key (pow_ok hf k))]
    · rw [has_put_other (ky_ne hf c)]
      exact has_pD_old hf m b e k (by
        by_cases c2 : b = k
        · subst c2; exact absurd e.symm c
        · omega)

theorem at_pD {p : Int} {f : Nat → Int} (hf : isB p f = true) (z : DataW Unit) (b : Nat) : ∀ k, b < k → NoRep p f k → (pD p f k).atKey (kyL p (pow p f b)) z = .lit (.int .i64 b)
  | 0, h, _ => by omega
  | k + 1, h, hn => by
    show ((pD p f k).put _ _).atKey _ _ = _
    by_cases c : b = k
    · subst c; rw [atKey_put_same (pD_tidy hf b).isMap (kyL_key (pow_ok hf b))]
    · rw [atKey_put_other (ky_ne hf (hn b k (by omega) (by omega)))]
      exact at_pD hf z b k (by omega) fun a b' h1 h2 => hn a b' h1 (by omega)

end Go.Proofs.Ythblbamiammodaa
