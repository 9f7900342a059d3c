/- The contracts of spec.SizesByRank and impl.SizesByRank. -/
import Derived.Test.YtiogagaclhjdaaaSels
import Derived.Test.YtiogagaclhjdaaaImage
import Derived.Test.YtiogagaclhjdaaaSl
namespace Go.Proofs.Ytiogagaclhjdaaa
open Go.RowKit Go.Maps

theorem ascK_stop (b : Nat → Bool) (m : Nat) (h : ∀ j, m ≤ j → b j = false) : ∀ k, (ascK b k).length ≤ m := by
  intro k
  induction k with
  | zero => simp [ascK]
  | succ k ih =>
    by_cases hk : k < m
    · exact Nat.le_trans (ascK_len b (k + 1)) hk
    · rw [ascK_succ, h k (by omega)]
      simpa using ih

theorem ascK_pos (b : Nat → Bool) (j k : Nat) (hj : j < k) (hb : b j = true) : 1 ≤ (ascK b k).length := by
  unfold ascK
  exact List.length_pos_of_mem (List.mem_map.2 ⟨j, List.mem_filter.2 ⟨List.mem_range.2 hj, hb⟩, rfl⟩)

/-- The rank of a map. -/
def rkM (x : MapN) : Nat := (asc (imgB x.1 x.2)).length

theorem rkM_bd {p : Int} {t : Nat → Int} (h : isB p t = true) : 1 ≤ rkM (p, t) ∧ (rkM (p, t) : Int) ≤ p := by
  obtain ⟨h1, h5⟩ := isB_pts h
  have h0 := ok_at h 0 (by omega)
  refine ⟨ascK_pos _ (t 0).toNat 5 (by omega) ?_, ?_⟩
  · unfold imgB imgK
    rw [List.any_eq_true]
    exact ⟨0, List.mem_range.2 (by omega), by simp; omega⟩
  · have := ascK_stop (imgB p t) p.toNat (fun j hj => by
      unfold imgB imgK
      rw [List.any_eq_false]
      intro i hi
      have := ok_at h i (by have := List.mem_range.1 hi; omega)
      simp; omega) 5
    unfold rkM asc
    simp only []
    omega

def addR (S : List Int) (x : MapN) : List Int := S.set (rkM x - 1) (S.getD (rkM x - 1) 0 + 1)
/-- The numbers of maps by their ranks. -/
def cntR (p : Nat) (M : List MapN) : List Int := M.foldl addR (List.replicate p 0)

theorem addR_len (S : List Int) (x : MapN) : (addR S x).length = S.length := by simp [addR]
theorem cntR_len (p : Nat) (M : List MapN) : (cntR p M).length = p := by
  unfold cntR
  have : ∀ (M : List MapN) (S : List Int), (M.foldl addR S).length = S.length := fun M => by
    induction M with
    | nil => intro S; rfl
    | cons x M ih => intro S; rw [List.foldl_cons, ih, addR_len]
  rw [this]; simp

theorem cntR_succ (p : Nat) (M : List MapN) (k : Nat) (hk : k < M.length) : cntR p (M.take (k + 1)) = addR (cntR p (M.take k)) (M.getD k z0) := by
  unfold cntR
  rw [List.take_add_one, List.getElem?_eq_getElem hk, List.foldl_append]
  simp [hk]

theorem cntR_bd (p : Nat) (M : List MapN) : ∀ k, k ≤ M.length → ∀ i, 0 ≤ (cntR p (M.take k)).getD i 0 ∧ (cntR p (M.take k)).getD i 0 ≤ k := by
  intro k
  induction k with
  | zero =>
    intro _ i
    simp only [List.take_zero, cntR, List.foldl_nil]
    by_cases h : i < p
    · simp [h]
    · simp [List.getElem?_eq_none (show (List.replicate p (0 : Int)).length ≤ i by simp; omega)]
  | succ k ih =>
    intro hk i
    rw [cntR_succ p M k (by omega)]
    unfold addR
    have h1 := ih (by omega)
    by_cases h : rkM (M.getD k z0) - 1 < (cntR p (M.take k)).length
    · rw [set_getD _ _ _ _ h]
      by_cases hi : i = rkM (M.getD k z0) - 1
      · rw [if_pos hi]; have := h1 (rkM (M.getD k z0) - 1); omega
      · rw [if_neg hi]; have := h1 i; omega
    · rw [List.set_eq_of_length_le (by omega)]
      have := h1 i; omega

noncomputable def szrL (L : List MapN) : List Int := if elsC L [] = 0 then cntR (fst0 L).toNat (mE (fst0 L) (elsK L)) else []

theorem szrL_bad {L : List MapN} (h : elsC L [] ≠ 0) : szrL L = [] := by unfold szrL; rw [if_neg h]
theorem szrL_good {L : List MapN} (h : elsC L [] = 0) : szrL L = cntR (fst0 L).toNat (mE (fst0 L) (elsK L)) := by unfold szrL; rw [if_pos h]

theorem elsC_good {L O : List MapN} (h : elsC L O = 0) : chkC L O = 0 := by
  unfold elsC at h
  by_cases hc : chkC L O = 0
  · exact hc
  · rw [if_neg hc] at h; exact absurd h hc

theorem els_inv {L : List MapN} (hg : GoodL L) : Cinv (fst0 L) (codes L) (cfin (fst0 L) (codes L)) := by
  unfold cfin
  split
  · exact rch_inv hg.p1 hg.p5 hg.vl _
  · exact rch_inv hg.p1 hg.p5 hg.vl 0

theorem elsK_300 {L O : List MapN} (h : elsC L O = 0) (hg : GoodL L) : (elsK L).length ≤ 300 := by
  have e : (elsK L).length = (cfin (fst0 L) (codes L)).E.length := srtE_len _ (els_inv hg).nd
  unfold elsC at h
  rw [if_pos (elsC_good h)] at h
  by_cases h3 : 300 < (cfin (fst0 L) (codes L)).E.length
  · rw [if_pos h3] at h; simp at h
  · omega

theorem elsL_0 {L O : List MapN} (h : elsC L O = 0) : elsL L O = mE (fst0 L) (elsK L) := by unfold elsL; rw [if_pos h]
theorem elsL_1 {L O : List MapN} (h : elsC L O ≠ 0) : elsL L O = [] := by unfold elsL; rw [if_neg h]

theorem elsK_vld {L : List MapN} (hg : GoodL L) : ∀ c ∈ elsK L, vld (fst0 L) c := fun c hc => (els_inv hg).vl c ((srtE_mem _ _).1 hc)

theorem own_zeros {w : World} {B m : Nat} {v : Value} (h : w.ownsRow B 2 1 v m (madeCells #[.int .i64 0] m).toList) : Own w B v (List.replicate m 0) := by
  have e : (madeCells #[.int .i64 0] m).toList = (List.replicate m (0 : Int)).map (Value.int .i64) := by
    rw [toList_madeCells_one, List.map_replicate]
  unfold Own
  rw [List.length_replicate, ← e]
  exact h

theorem rd_set {w : World} {B g : Nat} {S : List Int} (h : Rd w B (some ⟨g, 0, none⟩) S) (k : Nat) (hk : k < S.length) (x : Int) : Rd (w.setCell ⟨g, k, none⟩ (.int .i64 x)) B (some ⟨g, 0, none⟩) (S.set k x) := by
  refine ⟨by rw [List.length_set]; exact h.1, ?_⟩
  rcases h.2 with h0 | ⟨k', ha, hB, hg, hc⟩
  · rw [h0] at hk; simp at hk
  · injection ha with ha
    injection ha with ha
    subst ha
    refine Or.inr ⟨g, rfl, hB, by simpa [World.setCell] using hg, fun i hi => ?_⟩
    rw [List.length_set] at hi
    have h1 := hc i hi
    rw [set_getD _ _ _ _ hk, World.frozen?_setCell]
    by_cases e : i = k
    · subst e
      rw [if_pos rfl]
      exact ⟨World.cell?_setCell_same _ _ _ h1.1, h1.2⟩
    · rw [if_neg e, World.cell?_setCell_other _ _ _ _ (by intro e'; injection e' with _ e'; exact e e'.symm)]
      exact h1



end Go.Proofs.Ytiogagaclhjdaaa
