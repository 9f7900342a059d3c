/- A row of numbers in a block. -/
import Derived.Test.YtpphihjbgikjkaaDoorSl
import Derived.Test.YtpphihjbgikjkaaDoorBase
namespace Go.Proofs.YtpphihjbgikjkaaDoor
open Go Go.RowKit

/-- A row of numbers in a block. -/
def Ni (w : World) (g n : Nat) (V : Nat → Int) : Prop := g < w.heap.size ∧ ∀ j, j < n → w.cell? ⟨g, j, none⟩ = some (.int .i64 (V j)) ∧ w.frozen? ⟨g, j, none⟩ = false

theorem Ni.set {w : World} {g n : Nat} {V : Nat → Int} (h : Ni w g n V) (y : Nat) (hy : y < n) (x : Int) : Ni (w.setCell ⟨g, y, none⟩ (.int .i64 x)) g n (upd V y x) := by
  refine ⟨by simpa using h.1, fun j hj => ?_⟩
  rw [World.frozen?_setCell]
  refine ⟨?_, (h.2 j hj).2⟩
  unfold upd
  by_cases e : j = y
  · subst e
    rw [if_pos rfl]
    exact World.cell?_setCell_same _ _ _ (h.2 j hj).1
  · rw [if_neg e, World.cell?_setCell_other _ _ _ _ (by intro q; injection q with _ q; exact e q.symm)]
    exact (h.2 j hj).1

theorem Ni.same {w w' : World} {g n : Nat} {V : Nat → Int} (h : Ni w g n V) (e : w'.heap[g]? = w.heap[g]?) : Ni w' g n V := by
  refine ⟨?_, fun j hj => ?_⟩
  · obtain ⟨o, ho⟩ : ∃ o, w.heap[g]? = some o := ⟨_, Array.getElem?_eq_getElem h.1⟩
    exact (Array.getElem?_eq_some_iff.1 (e.trans ho)).1
  · have h1 := h.2 j hj
    unfold World.cell? World.frozen? at h1 ⊢
    rw [e]
    exact h1

theorem Ni.below {w w' : World} {g n : Nat} {V : Nat → Int} (h : Ni w g n V) (hb : Below w.heap.size w w') : Ni w' g n V := h.same (hb.block _ h.1)

theorem Ni.congr {w : World} {g n : Nat} {V U : Nat → Int} (h : Ni w g n V) (e : ∀ j, j < n → V j = U j) : Ni w g n U :=
  ⟨h.1, fun j hj => by rw [← e j hj]; exact h.2 j hj⟩

theorem make_ints9 (n : Nat) (hn : n ≤ 13) (w : World) :
    (Instr.makeSlice 36 (.int .i64 (n : Int)) (.int .i64 (n : Int))).run Tryd.prog w = .ok (.slice (some ⟨w.heap.size, 0, none⟩) n n) (w.alloc (.cells (Array.replicate n (.int .i64 0)) 2)) := by
  rcases (by omega : n = 0 ∨ n = 1 ∨ n = 2 ∨ n = 3 ∨ n = 4 ∨ n = 5 ∨ n = 6 ∨ n = 7 ∨ n = 8 ∨ n = 9 ∨ n = 10 ∨ n = 11 ∨ n = 12 ∨ n = 13) with rfl | rfl | rfl | rfl | rfl | rfl | rfl | rfl | rfl | rfl | rfl | rfl | rfl | rfl <;> kernel_rfl

theorem ni_new (n : Nat) (w : World) : Ni (w.alloc (.cells (Array.replicate n (.int .i64 0)) 2)) w.heap.size n (fun _ => 0) := by
  have hb : (w.alloc (.cells (Array.replicate n (.int .i64 0)) 2)).heap[w.heap.size]? = some (.cells (Array.replicate n (.int .i64 0)) 2 (0, 0)) := halloc_at _ _ _ rfl
  refine ⟨by simp, fun j hj => ⟨?_, Joins.unfrozen_of_block hb j⟩⟩
  rw [Joins.cell_of_block hb j]
  simp [hj]

theorem ni_one (n F : Nat) (_ : F < n) (w : World) : Ni (w.alloc (.cells ((Array.replicate n (.int .i64 0)).setIfInBounds F (.int .i64 1)) 2)) w.heap.size n (upd (fun _ => 0) F 1) := by
  have hb : (w.alloc (.cells ((Array.replicate n (.int .i64 0)).setIfInBounds F (.int .i64 1)) 2)).heap[w.heap.size]? = some (.cells ((Array.replicate n (.int .i64 0)).setIfInBounds F (.int .i64 1)) 2 (0, 0)) := halloc_at _ _ _ rfl
  refine ⟨by simp, fun j hj => ⟨?_, Joins.unfrozen_of_block hb j⟩⟩
  rw [Joins.cell_of_block hb j]
  unfold upd
  by_cases e : j = F
  · subst e
    rw [if_pos rfl, Array.getElem?_setIfInBounds_self_of_lt (by simpa using hj)]
  · rw [if_neg e, Array.getElem?_setIfInBounds_ne (fun q => e q.symm)]
    simp [hj]
end Go.Proofs.YtpphihjbgikjkaaDoor
