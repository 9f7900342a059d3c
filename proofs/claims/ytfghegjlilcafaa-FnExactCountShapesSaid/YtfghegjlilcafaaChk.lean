/- Lists of maps checked: the contracts of impl.checkMaps and impl.areNumbersBelow. -/
import Derived.Test.YtfghegjlilcafaaConc
import Derived.Test.YtfghegjlilcafaaBase
import Derived.Test.YtfghegjlilcafaaSl
namespace Go.Proofs.Ytfghegjlilcafaa
open Go.RowKit

def allB (L : List MapN) : Bool := L.all fun x => isB x.1 x.2

def fst0 (L : List MapN) : Int := (L.getD 0 z0).1

def sizeB (L : List MapN) : Bool := decide (1 ≤ L.length) && decide (L.length ≤ 6)

def sameB (p : Int) (M : List MapN) : Bool := M.all fun x => x.1 == p

/-- The code of a list of maps and maps beside it. -/
def chkC (L O : List MapN) : Int := if allB (L ++ O) = true then (if sizeB L = true then (if sameB (fst0 L) (L ++ O) = true then 0 else 2) else 2) else 1

/-- The six cells of a map. -/
def At6 (w : World) (b o : Nat) (x : MapN) : Prop :=
  w.cell? ⟨b, o, none⟩ = some (.int .i64 x.1) ∧ w.cell? ⟨b, o + 1, none⟩ = some (.int .i64 (x.2 0)) ∧ w.cell? ⟨b, o + 2, none⟩ = some (.int .i64 (x.2 1)) ∧
    w.cell? ⟨b, o + 3, none⟩ = some (.int .i64 (x.2 2)) ∧ w.cell? ⟨b, o + 4, none⟩ = some (.int .i64 (x.2 3)) ∧ w.cell? ⟨b, o + 5, none⟩ = some (.int .i64 (x.2 4))

theorem RdM.at6 {w : World} {B : Nat} {a : Option Addr} {L : List MapN} (h : RdM w B a L) (k : Nat) (hk : k < L.length) : ∃ g, a = some ⟨g, 0, none⟩ ∧ At6 w g (k * 6) (L.getD k z0) := by
  rcases h.2 with h0 | ⟨g, ha, _, _, hc, _⟩
  · rw [h0] at hk; simp at hk
  · have := hc k hk
    unfold AtM at this
    rw [Nat.zero_add] at this
    exact ⟨g, ha, this⟩

theorem InRowM.at6 {w : World} {a : Option Addr} {L : List MapN} (h : InRowM w a L) (k : Nat) (hk : k < L.length) : ∃ b off, a = some ⟨b, off, none⟩ ∧ b < w.heap.size ∧ At6 w b (off + k * 6) (L.getD k z0) := by
  rcases h with h0 | ⟨g, off, ha, hg, hc⟩
  · rw [h0] at hk; simp at hk
  · exact ⟨g, off, ha, hg, hc k hk⟩

theorem InRowM.at0 {w : World} {a : Option Addr} {L : List MapN} (h : InRowM w a L) (hk : 0 < L.length) : ∃ b off, a = some ⟨b, off, none⟩ ∧ b < w.heap.size ∧ At6 w b off (L.getD 0 z0) := by
  obtain ⟨b, off, ha, hg, hc⟩ := h.at6 0 hk
  rw [Nat.zero_mul, Nat.add_zero] at hc
  exact ⟨b, off, ha, hg, hc⟩

theorem allB_false {L : List MapN} (k : Nat) (hk : k < L.length) (h : isB (L.getD k z0).1 (L.getD k z0).2 = false) : allB L = false := by
  unfold allB; rw [List.all_eq_false]
  refine ⟨L.getD k z0, ?_, by rw [h]; exact Bool.false_ne_true⟩
  simp [hk]

theorem allB_true {L : List MapN} (h : ∀ k, k < L.length → isB (L.getD k z0).1 (L.getD k z0).2 = true) : allB L = true := by
  unfold allB; rw [List.all_eq_true]
  intro x hx
  obtain ⟨k, hk, e⟩ := List.mem_iff_getElem.1 hx
  have := h k hk
  simp [hk, e] at this
  exact this

theorem allB_at {L : List MapN} (h : allB L = true) (k : Nat) (hk : k < L.length) : isB (L.getD k z0).1 (L.getD k z0).2 = true := by
  unfold allB at h; rw [List.all_eq_true] at h
  exact h _ (by simp [hk])

theorem sameB_false {p : Int} {L : List MapN} (k : Nat) (hk : k < L.length) (h : (L.getD k z0).1 ≠ p) : sameB p L = false := by
  unfold sameB; rw [List.all_eq_false]
  exact ⟨L.getD k z0, by simp [hk], by simpa using h⟩

theorem sameB_true {p : Int} {L : List MapN} (h : ∀ k, k < L.length → (L.getD k z0).1 = p) : sameB p L = true := by
  unfold sameB; rw [List.all_eq_true]
  intro x hx
  obtain ⟨k, hk, e⟩ := List.mem_iff_getElem.1 hx
  have := h k hk
  simp [hk, e] at this
  simpa using this

theorem sameB_at {p : Int} {L : List MapN} (h : sameB p L = true) (k : Nat) (hk : k < L.length) : (L.getD k z0).1 = p := by
  unfold sameB at h; rw [List.all_eq_true] at h
  simpa using h (L.getD k z0) (by simp [hk])





/-- Whether all numbers lie in 0 .. n - 1. -/
def belB (n : Int) (W : List Int) : Bool := W.all fun x => decide (0 ≤ x) && decide (x < n)

theorem belB_false {n : Int} {W : List Int} (k : Nat) (hk : k < W.length) (h : ¬ (0 ≤ W.getD k 0 ∧ W.getD k 0 < n)) : belB n W = false := by
  unfold belB; rw [List.all_eq_false]
  exact ⟨W.getD k 0, by simp [hk], by simpa using h⟩

theorem belB_true {n : Int} {W : List Int} (h : ∀ k, k < W.length → 0 ≤ W.getD k 0 ∧ W.getD k 0 < n) : belB n W = true := by
  unfold belB; rw [List.all_eq_true]
  intro x hx
  obtain ⟨k, hk, e⟩ := List.mem_iff_getElem.1 hx
  have := h k hk
  simp [hk, e] at this
  simpa using this

theorem belB_at {n : Int} {W : List Int} (h : belB n W = true) (k : Nat) (hk : k < W.length) : 0 ≤ W.getD k 0 ∧ W.getD k 0 < n := by
  unfold belB at h; rw [List.all_eq_true] at h
  simpa using h (W.getD k 0) (by simp [hk])



end Go.Proofs.Ytfghegjlilcafaa
