/- Fixed points: the contracts of impl.fixedPoints, impl.FixedPoints and spec.FixedPoints. -/
import Derived.Test.YtpphihjbgikjkaaSl
import Derived.Test.YtpphihjbgikjkaaBase
namespace Go.Proofs.Ytpphihjbgikjkaa
open Go.RowKit

/-- The fixed points among the first k. -/
def fixK (t : Nat → Int) (k : Nat) : Nat → Bool := fun i => if i < k then t i == (i : Int) else false

def fixB (p : Int) (t : Nat → Int) : Nat → Bool := fixK t p.toNat

theorem fixK_succ (t : Nat → Int) (k : Nat) : (fun i => if i = k then t k == (k : Int) else fixK t k i) = fixK t (k + 1) := by
  funext i
  unfold fixK
  by_cases h : i = k
  · subst h; simp
  · by_cases h' : i < k
    · rw [if_neg h, if_pos h', if_pos (by omega)]
    · rw [if_neg h, if_neg h', if_neg (by omega)]

theorem ascK_cut (b : Nat → Bool) (k : Nat) : ∀ n, k ≤ n → (∀ i, k ≤ i → b i = false) → ascK b n = ascK b k
  | 0, hk, _ => by rw [show k = 0 by omega]
  | n + 1, hk, hb => by
    by_cases h : k = n + 1
    · rw [h]
    · rw [ascK_succ, if_neg (by rw [hb n (by omega)]; exact Bool.false_ne_true)]
      exact ascK_cut b k n (by omega) hb

theorem ascK_congr (b c : Nat → Bool) : ∀ n, (∀ i, i < n → b i = c i) → ascK b n = ascK c n
  | 0, _ => rfl
  | n + 1, h => by
    rw [ascK_succ, ascK_succ, h n (by omega), ascK_congr b c n (fun i hi => h i (by omega))]





theorem asc_len (b : Nat → Bool) : (asc b).length ≤ 2000000 := by have := ascK_len b 5; unfold asc; omega

def fixL (p : Int) (t : Nat → Int) : List Int := if isB p t = true then asc (fixB p t) else []

def fixC (p : Int) (t : Nat → Int) : Int := if isB p t = true then 0 else 1

theorem fix_asc {p : Int} (t : Nat → Int) (k : Nat) (hk : p.toNat = k) (h5 : k ≤ 5) : ascK (fun i => t i == (i : Int)) k = asc (fixB p t) := by
  unfold asc fixB
  rw [hk, ascK_cut (fixK t k) k 5 h5 (fun i hi => by unfold fixK; rw [if_neg (by omega)])]
  exact ascK_congr _ _ k (fun i hi => by unfold fixK; rw [if_pos hi])





end Go.Proofs.Ytpphihjbgikjkaa
