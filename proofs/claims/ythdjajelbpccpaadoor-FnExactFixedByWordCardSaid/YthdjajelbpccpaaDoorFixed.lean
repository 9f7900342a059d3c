/- Fixed points: the contracts of impl.fixedPoints, impl.FixedPoints and spec.FixedPoints. -/
import Derived.Test.YthdjajelbpccpaaDoorSl
import Derived.Test.YthdjajelbpccpaaDoorBase
namespace Go.Proofs.YthdjajelbpccpaaDoor
open Go.RowKit

/-- The fixed points among the first k. -/
def fixK (t : Nat → Int) (k : Nat) : Nat → Bool := fun i => if i < k then t i == (i : Int) else false

def fixB (p : Int) (t : Nat → Int) : Nat → Bool := fixK t p.toNat

theorem fixK_succ (t : Nat → Int) (k : Nat) : (fun i => if i = k then t k == (k : Int) else fixK t k i) = fixK t (k + 1) := by
  funext i
  unfold fixK
  by_cases h : i = k
  · subst h; simp
  · by_cases h' : i < k
    · rw [if_neg h, if_pos h', if_pos (by omega)]
    · rw [if_neg h, if_neg h', if_neg (by omega)]

theorem ascK_cut (b : Nat → Bool) (k : Nat) : ∀ n, k ≤ n → (∀ i, k ≤ i → b i = false) → ascK b n = ascK b k
  | 0, hk, _ => by rw [show k = 0 by omega]
  | n + 1, hk, hb => by
    by_cases h : k = n + 1
    · rw [h]
    · rw [ascK_succ, if_neg (by rw [hb n (by omega)]; exact Bool.false_ne_true)]
      exact ascK_cut b k n (by omega) hb

theorem ascK_congr (b c : Nat → Bool) : ∀ n, (∀ i, i < n → b i = c i) → ascK b n = ascK c n
  | 0, _ => rfl
  | n + 1, h => by
    rw [ascK_succ, ascK_succ, h n (by omega), ascK_congr b c n (fun i hi => h i (by omega))]

set_option maxHeartbeats 1000000 in
theorem ifix_all (p : Int) (t : Nat → Int) (h1 : 0 ≤ p) (h5 : p ≤ 5) (w : World) :
    Calls Tryd.prog 42 #[mv p t] w (RetOwn w.heap.size (asc (fixB p t)) w) := by
  simp only [mv, mcells]
  go_enter Tryd.func42, Tryd.ntmps42
  go_wp2_with fail
  go_loopw [4, 7] (fun _ i wr => ∃ (k : Nat), (k : Int) ≤ p ∧ i = .int .i64 k ∧ Below w.heap.size w wr ∧ w.heap.size + 1 < wr.heap.size ∧
      wr.heap[w.heap.size]? = some (.cells (mcells p t) 54 (0, 0)) ∧ wr.heap[w.heap.size + 1]? = some (.cells (cells5 (fixK t k)) 84 (0, 0))) (fun _ i _ => (p - intOf i).toNat)
  case atStart =>
    refine ⟨0, by omega, rfl, ?_, by simp, ?_, ?_⟩
    · (repeat' (first | (with_reducible exact Below.refl _ _) | (with_reducible refine Below.alloc ?_ ?_ _) | (with_reducible refine Below.setCell ?_ ?_ _) | (with_reducible refine Below.drew ?_) | (with_reducible refine below_drewN ?_ _) | (with_reducible refine Below.trans ?_ (Below.mono (Hid.out (by assumption)) ?_)) | omega | (simp; done) | (simp; omega)))
    · ((try rw [hdrew]); simp only [halloc, Array.getElem?_push, Array.size_push]; (repeat (first | rw [if_pos (by omega)] | rw [if_neg (by omega)])); try rfl)
    · ((try rw [hdrew]); simp only [halloc, Array.getElem?_push, Array.size_push]; (repeat (first | rw [if_pos (by omega)] | rw [if_neg (by omega)])); try rfl)
  case round =>
    obtain ⟨k, hk, rfl, hb, hsz, b0, b1⟩ := hrel
    have Hb := Lib.hid hb
    have B0 := Lib.hid b0
    have B1 := Lib.hid b1
    clear hb b0 b1
    by_cases hkp : (k : Int) < p
    · have k5 : k < 5 := by omega
      have k5' : (k : Int) < 5 := by omega
      have hfk := blk_at B0.out k k5
      have hok := blk5_at B1.out k k5
      have hfr := blk_free B1.out k
      have hput := cells5_put (fixK t k) k k5 (t k == (k : Int))
      rw [fixK_succ] at hput
      have HPUT := Lib.hid hput
      clear hput
      go_wp2_with fail
      go_roundw
      case rel =>
        refine ⟨k + 1, by omega, by go_num, Hb.out.setCell (by simp) _, by simpa using hsz, ?_, ?_⟩
        · rw [hset_ne _ _ _ _ (by simp)]; exact B0.out
        · rw [Joins.block_setCell B1.out, HPUT.out]
      case measure => simp [intOf]; omega
    · have hK : Hid (fixK t k = fixB p t) := by unfold fixB; rw [show p.toNat = k by omega]; rfl
      obtain ⟨e0, e1, e2, e3, e4⟩ := blk5 B1.out
      have HR := Lib.hid (asc_any (fixK t k))
      simp only [cells5] at HR
      go_wp2_with fail
      refine (HR.out _).mono ?_
      rintro e w1 ⟨v, rfl, hown, hbel⟩
      have HB := Lib.hid hbel
      have HO := Lib.hid hown
      clear hbel hown
      go_wp2_with fail
      go_ret
      refine ⟨_, rfl, ?_, ?_⟩
      · rw [← hK.out]; exact Joins.ownsRow_le HO.out (by omega)
      · (repeat' (first | (with_reducible exact Below.refl _ _) | (with_reducible refine Below.alloc ?_ ?_ _) | (with_reducible refine Below.setCell ?_ ?_ _) | (with_reducible refine Below.drew ?_) | (with_reducible refine below_drewN ?_ _) | (with_reducible refine Below.trans ?_ (Below.mono (Hid.out (by assumption)) ?_)) | omega | (simp; done) | (simp; omega)))

theorem ifix_any (p : Int) (t : Nat → Int) (hf : isB p t = true) (w : World) :
    Calls Tryd.prog 42 #[mv p t] w (RetOwn w.heap.size (asc (fixB p t)) w) := by
  obtain ⟨h1, h5⟩ := isB_pts hf
  exact ifix_all p t (by omega) h5 w

theorem asc_len (b : Nat → Bool) : (asc b).length ≤ 2000000 := by have := ascK_len b 5; unfold asc; omega

def fixL (p : Int) (t : Nat → Int) : List Int := if isB p t = true then asc (fixB p t) else []

def fixC (p : Int) (t : Nat → Int) : Int := if isB p t = true then 0 else 1

theorem fix_asc {p : Int} (t : Nat → Int) (k : Nat) (hk : p.toNat = k) (h5 : k ≤ 5) : ascK (fun i => t i == (i : Int)) k = asc (fixB p t) := by
  unfold asc fixB
  rw [hk, ascK_cut (fixK t k) k 5 h5 (fun i hi => by unfold fixK; rw [if_neg (by omega)])]
  exact ascK_congr _ _ k (fun i hi => by unfold fixK; rw [if_pos hi])





end Go.Proofs.YthdjajelbpccpaaDoor
