/- Shapes counted, without Go: the k-th map is of a new shape if no map before it has its least form; what has been met, as a set of codes and as truths by number. -/
import Derived.Test.YtfghegjlilcafaaAsh
import Derived.Test.YtfghegjlilcafaaDgt
namespace Go.Proofs.Ytfghegjlilcafaa
open Go Go.RowKit

/-- The code of the k-th map. -/
def cdN (n k : Nat) : Nat := ecd (dgF n k)
theorem cdN_vld {n k : Nat} (h1 : 1 ≤ n) (h5 : n ≤ 5) : vld (n : Int) (cdN n k) := vld_ecd (dgF_ok h1 h5)
/-- One of the first k maps has this least form. -/
def mtB (n k c : Nat) : Bool := (List.range k).any fun j => lfC n (cdN n j) == lfC n c
theorem mtB_true {n k c : Nat} : mtB n k c = true ↔ ∃ j, j < k ∧ lfC n (cdN n j) = lfC n c := by
  unfold mtB
  rw [List.any_eq_true]
  constructor
  · rintro ⟨j, hj, e⟩; exact ⟨j, List.mem_range.1 hj, eq_of_beq e⟩
  · rintro ⟨j, hj, e⟩; exact ⟨j, List.mem_range.2 hj, by rw [e]; exact beq_self_eq_true _⟩
theorem mtB_zero (n c : Nat) : mtB n 0 c = false := rfl
theorem mtB_succ (n k c : Nat) : mtB n (k + 1) c = (mtB n k c || (lfC n (cdN n k) == lfC n c)) := by
  unfold mtB
  rw [List.range_succ, List.any_append]
  simp
/-- Shapes among the first k maps. -/
def shK (n : Nat) : Nat → Nat
  | 0 => 0
  | k + 1 => shK n k + (if mtB n k (cdN n k) = true then 0 else 1)
theorem shK_le (n : Nat) : ∀ k, shK n k ≤ k
  | 0 => Nat.le_refl _
  | k + 1 => by
    have := shK_le n k
    show shK n k + _ ≤ _
    split <;> omega
theorem shK_old {n k : Nat} (h : mtB n k (cdN n k) = true) : shK n (k + 1) = shK n k := by
  show shK n k + _ = _
  rw [if_pos h]; rfl
theorem shK_new {n k : Nat} (h : mtB n k (cdN n k) = false) : shK n (k + 1) = shK n k + 1 := by
  show shK n k + _ = _
  rw [if_neg (by rw [h]; decide)]
/-- A shape that was met is met by the next map of its shape too. -/
theorem mtB_old {n k : Nat} (h : mtB n k (cdN n k) = true) (c : Nat) : mtB n (k + 1) c = mtB n k c := by
  rw [mtB_succ, Bool.eq_iff_iff, Bool.or_eq_true]
  constructor
  · rintro (h' | h')
    · exact h'
    · obtain ⟨j, hj, e⟩ := mtB_true.1 h
      exact mtB_true.2 ⟨j, hj, e.trans (eq_of_beq h')⟩
  · exact Or.inl

/-- The codes that were met, in the order of their coming. -/
structure MetL (n k : Nat) (F : List Nat) : Prop where
  nd : F.Nodup
  vl : ∀ x, x ∈ F → vld (n : Int) x
  mem : ∀ x, vld (n : Int) x → (x ∈ F ↔ mtB n k x = true)
theorem MetL.zero (n : Nat) : MetL n 0 [] := ⟨List.nodup_nil, fun x hx => (by cases hx), fun x _ => (by rw [mtB_zero]; simp)⟩
theorem MetL.len {n k : Nat} {F : List Nat} (h : MetL n k F) : F.length ≤ 3125 := nodup_bound 3125 F h.nd (fun x hx => (h.vl x hx).1)
theorem MetL.old {n k : Nat} {F : List Nat} (h : MetL n k F) (h' : mtB n k (cdN n k) = true) : MetL n (k + 1) F := ⟨h.nd, h.vl, fun x hx => by rw [mtB_old h']; exact h.mem x hx⟩
theorem MetL.new {n k : Nat} {F E : List Nat} (h1 : 1 ≤ n) (h5 : n ≤ 5) (h : MetL n k F) (h' : mtB n k (cdN n k) = false) (hE : Orbt (rnA n) (n - 1) (vld (n : Int)) (cdN n k) E) :
    (∀ y, y ∈ E → y ∉ F) ∧ MetL n (k + 1) (F ++ E) := by
  have hc := cdN_vld (k := k) h1 h5
  have hlf : ∀ y, vld (n : Int) y → (y ∈ E ↔ lfC n (cdN n k) = lfC n y) := fun y hy => (orb_rn h1 h5 hc hE y).trans (lf_eq h1 h5 hc hy).symm
  have hap : ∀ y, y ∈ E → y ∉ F := fun y hy hF => by
    have hv := hE.vl y hy
    obtain ⟨j, hj, e⟩ := mtB_true.1 ((h.mem y hv).1 hF)
    have : mtB n k (cdN n k) = true := mtB_true.2 ⟨j, hj, e.trans ((hlf y hv).1 hy).symm⟩
    rw [h'] at this
    cases this
  refine ⟨hap, List.nodup_append.2 ⟨h.nd, hE.nd, fun a ha b hb e => hap b hb (e ▸ ha)⟩, fun x hx => ?_, fun x hx => ?_⟩
  · rcases List.mem_append.1 hx with hx | hx
    · exact h.vl x hx
    · exact hE.vl x hx
  · rw [List.mem_append, h.mem x hx, hlf x hx, mtB_succ, Bool.or_eq_true, beq_iff_eq]

/-- What CountShapes returns. -/
def shV (x : Int) : Value := .tuple #[.int .i64 (if 1 ≤ x ∧ x ≤ 5 then (shK x.toNat (x.toNat ^ x.toNat) : Int) else 0), .int .i64 (if 1 ≤ x ∧ x ≤ 5 then 0 else 2)]
theorem shV_no {x : Int} (h : ¬ (1 ≤ x ∧ x ≤ 5)) : shV x = .tuple #[.int .i64 0, .int .i64 2] := by unfold shV; rw [if_neg h, if_neg h]
theorem shV_yes {n : Nat} (h1 : 1 ≤ n) (h5 : n ≤ 5) : shV (n : Int) = .tuple #[.int .i64 (shK n (n ^ n) : Int), .int .i64 0] := by
  unfold shV
  rw [if_pos (by omega), if_pos (by omega)]
  rfl

end Go.Proofs.Ytfghegjlilcafaa
