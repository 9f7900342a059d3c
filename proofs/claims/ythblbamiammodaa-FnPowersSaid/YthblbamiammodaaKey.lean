/- Maps as keys of Go's maps. -/
import Derived.Test.YthblbamiammodaaRow
import Derived.Test.YthblbamiammodaaBase
import Derived.Maps.OwnSet
import Derived.Maps.OwnOps
import Derived.DeepKeys4
namespace Go.Proofs.Ythblbamiammodaa
open Go.RowKit Go.Maps

set_option maxRecDepth 100000 in
theorem lawM : Keyed Try.prog 26 := Keyed.of_law (deep_law_laid laidOut (m := 5) (by omega) (of_decide_eq_true (by kernel_rfl)) (by kernel_rfl) (by kernel_rfl))

theorem cellsMI : Try.prog.cellsOf 26 = 6 := by kernel_rfl

theorem lits_int (d : Nat) (x : Int) (h : (Lit.int .i64 x).wf = true) : Try.prog.keyLits (d + 1) 2 [.int .i64 x] = some [.int .i64 x] := by
  unfold Program.keyLits
  simp only [Try.underlying2]
  simp [h]

theorem lits_arr (d : Nat) (t0 t1 t2 t3 t4 : Int) (h0 : (Lit.int .i64 t0).wf = true) (h1 : (Lit.int .i64 t1).wf = true) (h2 : (Lit.int .i64 t2).wf = true) (h3 : (Lit.int .i64 t3).wf = true) (h4 : (Lit.int .i64 t4).wf = true) :
    Try.prog.keyLits (d + 1 + 1) 24 [.int .i64 t0, .int .i64 t1, .int .i64 t2, .int .i64 t3, .int .i64 t4] = some [.int .i64 t0, .int .i64 t1, .int .i64 t2, .int .i64 t3, .int .i64 t4] := by
  unfold Program.keyLits
  simp only [Try.underlying24, cellsA, cellsI]
  simp [List.range_succ, List.range_zero, lits_int _ _ h0, lits_int _ _ h1, lits_int _ _ h2, lits_int _ _ h3, lits_int _ _ h4]

theorem key_lits (d : Nat) (p t0 t1 t2 t3 t4 : Int) (hp : (Lit.int .i64 p).wf = true) (h0 : (Lit.int .i64 t0).wf = true) (h1 : (Lit.int .i64 t1).wf = true) (h2 : (Lit.int .i64 t2).wf = true) (h3 : (Lit.int .i64 t3).wf = true) (h4 : (Lit.int .i64 t4).wf = true) :
    Try.prog.keyLits (d + 1 + 1 + 1) 26 [.int .i64 p, .int .i64 t0, .int .i64 t1, .int .i64 t2, .int .i64 t3, .int .i64 t4] = some [.int .i64 p, .int .i64 t0, .int .i64 t1, .int .i64 t2, .int .i64 t3, .int .i64 t4] := by
  unfold Program.keyLits
  simp only [Try.underlying26, cellsMI]
  simp [cellsI, cellsA, lits_int _ _ hp, lits_arr _ _ _ _ _ _ h0 h1 h2 h3 h4]

/-- What a map reads as, as a key. -/
def kyL (p : Int) (t : Nat → Int) : Lit := .string (keyBytes [.int .i64 p, .int .i64 (t 0), .int .i64 (t 1), .int .i64 (t 2), .int .i64 (t 3), .int .i64 (t 4)])

theorem types_many : decide (2 ≤ Try.prog.types.size) = true := by kernel_rfl

theorem keyOf_map {p : Int} {t : Nat → Int} (hp : (Lit.int .i64 p).wf = true) (h : ∀ i, i < 5 → (Lit.int .i64 (t i)).wf = true) : keyOf Try.prog 26 (mv p t) = some (kyL p t) := by
  obtain ⟨d, hd⟩ : ∃ d, Try.prog.types.size + 1 = d + 1 + 1 + 1 := ⟨Try.prog.types.size - 2, by
    have := of_decide_eq_true types_many
    omega⟩
  have hk : Try.prog.keyType 26 = true := by kernel_rfl
  have hf : (mv p t).formed Try.prog 26 = true := by
    unfold Value.formed
    simp only [Try.underlying26, cellsMI]
    rfl
  have hc : (mv p t).cells.toList = [.int .i64 p, .int .i64 (t 0), .int .i64 (t 1), .int .i64 (t 2), .int .i64 (t 3), .int .i64 (t 4)] := rfl
  unfold keyOf
  simp only [Try.underlying26]
  rw [hk, hf, hd, hc, key_lits d _ _ _ _ _ _ hp (h 0 (by omega)) (h 1 (by omega)) (h 2 (by omega)) (h 3 (by omega)) (h 4 (by omega))]
  rfl

theorem small_wf {x : Int} (h0 : 0 ≤ x) (h : x < 6) : (Lit.int .i64 x).wf = true := WalkArith.wf_i64 (by omega)

theorem map_wf {p : Int} {t : Nat → Int} (h : isB p t = true) : (Lit.int .i64 p).wf = true ∧ ∀ i, i < 5 → (Lit.int .i64 (t i)).wf = true := by
  have hp := isB_pts h
  refine ⟨small_wf (by omega) (by omega), fun i hi => ?_⟩
  by_cases c : (i : Int) < p
  · have := ok_at h i c; exact small_wf (by omega) (by omega)
  · have := ok_past h i (by omega) hi; exact small_wf (by omega) (by omega)

theorem key_of {p : Int} {t : Nat → Int} (h : isB p t = true) : keyOf Try.prog 26 (mv p t) = some (kyL p t) := keyOf_map (map_wf h).1 (map_wf h).2

theorem kyL_key {p : Int} {t : Nat → Int} (h : isB p t = true) : WideAt.IsKeyLit (kyL p t) := lawM.key (key_of h)

theorem kyL_inj {p : Int} {s t : Nat → Int} (hs : isB p s = true) (ht : isB p t = true) (e : kyL p s = kyL p t) : ∀ i, i < 5 → s i = t i := by
  have h1 := key_of hs
  rw [e] at h1
  have h2 := lawM.inj h1 (key_of ht)
  have h3 : mcells p s = mcells p t := by injection h2
  have h4 := congrArg Array.toList h3
  simp only [List.cons.injEq, Value.int.injEq, true_and, and_true] at h4
  have h2 := h4
  intro i hi
  rcases (by omega : i = 0 ∨ i = 1 ∨ i = 2 ∨ i = 3 ∨ i = 4) with rfl | rfl | rfl | rfl | rfl
  · exact h2.1
  · exact h2.2.1
  · exact h2.2.2.1
  · exact h2.2.2.2.1
  · exact h2.2.2.2.2

end Go.Proofs.Ythblbamiammodaa
