/- Permutations and inverses: the contracts of impl.isPermutation, spec.l01Inverse, spec.InverseOf and impl.InverseOf. -/
import Derived.Test.YtpkapgidpgmdoaaRank
import Derived.Test.YtpkapgidpgmdoaaImage
import Derived.Test.YtpkapgidpgmdoaaBase
import Derived.Deep.RegionHeld3
namespace Go.Proofs.Ytpkapgidpgmdoaa
open Go.RowKit

def permB (p : Int) (t : Nat → Int) : Bool := ((asc (imgB p t)).length : Int) == p

/-- The inverse as the loops make it: the last point that is led to j. -/
def invK (t : Nat → Int) : Nat → (Nat → Int)
  | 0 => fun _ => 0
  | k + 1 => upd (invK t k) (t k).toNat (k : Int)

def invm (p : Int) (t : Nat → Int) : Nat → Int := invK t p.toNat

set_option maxRecDepth 100000 in
theorem iperm_any (p : Int) (t : Nat → Int) (hf : isB p t = true) (w : World) :
    Calls Try.prog 84 #[mv p t] w fun e w' => e = .returned (.bool (permB p t)) ∧ Below w.heap.size w w' := by
  have HR := Lib.hid fun w => irank_any p t hf w
  have rf0 : ∀ x : World, x.heap[w.heap.size]? = some (.cells (mcells p t) 39 (0, 0)) → x.cell? ⟨w.heap.size, 0, none⟩ = some (.int .i64 p) := fun x h => (blk6 h).1
  have rf1 : ∀ x : World, x.heap[w.heap.size]? = some (.cells (mcells p t) 39 (0, 0)) → x.cell? ⟨w.heap.size, 1, none⟩ = some (.int .i64 (t 0)) := fun x h => (blk6 h).2.1
  have rf2 : ∀ x : World, x.heap[w.heap.size]? = some (.cells (mcells p t) 39 (0, 0)) → x.cell? ⟨w.heap.size, 2, none⟩ = some (.int .i64 (t 1)) := fun x h => (blk6 h).2.2.1
  have rf3 : ∀ x : World, x.heap[w.heap.size]? = some (.cells (mcells p t) 39 (0, 0)) → x.cell? ⟨w.heap.size, 3, none⟩ = some (.int .i64 (t 2)) := fun x h => (blk6 h).2.2.2.1
  have rf4 : ∀ x : World, x.heap[w.heap.size]? = some (.cells (mcells p t) 39 (0, 0)) → x.cell? ⟨w.heap.size, 4, none⟩ = some (.int .i64 (t 3)) := fun x h => (blk6 h).2.2.2.2.1
  have rf5 : ∀ x : World, x.heap[w.heap.size]? = some (.cells (mcells p t) 39 (0, 0)) → x.cell? ⟨w.heap.size, 5, none⟩ = some (.int .i64 (t 4)) := fun x h => (blk6 h).2.2.2.2.2
  unfold permB
  generalize (asc (imgB p t)).length = R at *
  simp only [mv, mcells] at *
  go_enter Try.func84, Try.ntmps84
  go_wp2_with fail
  go_region_held3 (fun w' => w'.heap[w.heap.size]? = some (.cells (mcells p t) 39 (0, 0))) (first | ((try dsimp only); (try go_split_ands); (repeat' apply And.intro) <;> ((repeat' (first | omega | (rw [hdrew]) | (with_reducible assumption) | (with_reducible exact Hid.out (by assumption)) | (with_reducible rfl) | ((with_reducible refine halloc_at _ _ _ ?_) <;> (first | (with_reducible rfl) | omega | (simp; done))) | (with_reducible refine chain6 ?_) | (with_reducible refine Eq.trans (hset_ne _ _ _ _ ?_) ?_) | (with_reducible refine Eq.trans (halloc_lt _ _ _ ?_) ?_) | (with_reducible refine Eq.trans (Below.block (Hid.out (by assumption)) _ ?_) ?_) | (simp; done) | (simp; omega))); done))) (first | (go_at_call 94; (with_reducible refine (HR.out _).mono ?_); rintro e w1 ⟨rfl, hb⟩; obtain ⟨hc, hf⟩ := bcell hb; have hz := hb.size; have Hb := Lib.hid hb; (try simp at hz hc hf); (try (have hy := Nat.lt_of_succ_le hz)); have hz0 : w.heap.size < w1.heap.size := (by omega); clear hb))
  all_goals go_wp2_with fail
  all_goals go_ret
  all_goals
    refine ⟨rfl, ?_⟩
    (repeat' (first | (with_reducible exact Below.refl _ _) | (with_reducible refine Below.alloc ?_ ?_ _) | (with_reducible refine Below.setCell ?_ ?_ _) | (with_reducible refine Below.drew ?_) | (with_reducible refine below_drewN ?_ _) | (with_reducible refine Below.trans ?_ (Below.mono (Hid.out (by assumption)) ?_)) | omega | (simp; done) | (simp; omega)))



def invC (p : Int) (t : Nat → Int) : Int := if isB p t = true then (if permB p t = true then 0 else 5) else 1

def invV (p : Int) (t : Nat → Int) : Value := .tuple #[mv (resP (invC p t) p) (resT (invC p t) (invm p t)), .int .i64 (invC p t)]

theorem invV_1 {p : Int} {t : Nat → Int} (h : isB p t = false) : invV p t = .tuple #[mv 0 fun _ => 0, .int .i64 1] := by
  have e : invC p t = 1 := by unfold invC; rw [if_neg (by rw [h]; exact Bool.false_ne_true)]
  unfold invV; rw [e]; rfl

theorem invV_5 {p : Int} {t : Nat → Int} (h : isB p t = true) (h' : permB p t = false) : invV p t = .tuple #[mv 0 fun _ => 0, .int .i64 5] := by
  have e : invC p t = 5 := by unfold invC; rw [if_pos h, if_neg (by rw [h']; exact Bool.false_ne_true)]
  unfold invV; rw [e]; rfl

theorem invV_0 {p : Int} {t : Nat → Int} (h : isB p t = true) (h' : permB p t = true) : invV p t = .tuple #[mv p (invm p t), .int .i64 0] := by
  have e : invC p t = 0 := by unfold invC; rw [if_pos h, if_pos h']
  unfold invV; rw [e]; rfl





end Go.Proofs.Ytpkapgidpgmdoaa
