/- All maps of n points, by their numbers: the digits in base n. Told without Go. -/
import Derived.Test.YtfghegjlilcafaaMrow
namespace Go.Proofs.Ytfghegjlilcafaa
open Go Go.RowKit

def dgN (n c i : Nat) : Nat := (c / n ^ (n - 1 - i)) % n
/-- The map with the number c. -/
def dgF (n c : Nat) : Nat → Int := fun i => if i < n then (dgN n c i : Int) else 0
/-- Its last j images, all others 0. -/
def dgS (n c j : Nat) : Nat → Int := fun i => if n - j ≤ i then dgF n c i else 0
/-- Its last j images 0. -/
def dgZ (n c j : Nat) : Nat → Int := fun i => if i < n ∧ n - j ≤ i then 0 else dgF n c i

def ckS (n c j : Nat) : Bool :=
  !((List.range n).all fun i => decide (i < n - j) || dgN n c i == n - 1) ||
    (if j < n then dgN n c (n - 1 - j) == n - 1 || (decide (c + 1 < n ^ n) && (List.range n).all fun i => dgN n (c + 1) i == (if i = n - 1 - j then dgN n c i + 1 else if n - j ≤ i then 0 else dgN n c i)) else c + 1 == n ^ n)
theorem ck4 : ((List.range 4).all fun n => (List.range ((n+1) ^ (n+1))).all fun c => (List.range (n + 2)).all fun j => ckS (n+1) c j) = true := by decide +kernel
theorem ck5 : ((List.range 3125).all fun c => (List.range 6).all fun j => ckS 5 c j) = true := by decide +kernel
theorem ck_any {n c j : Nat} (h1 : 1 ≤ n) (h5 : n ≤ 5) (hc : c < n ^ n) (hj : j ≤ n) : ckS n c j = true := by
  by_cases e : n = 5
  · subst e
    exact List.all_eq_true.1 (List.all_eq_true.1 ck5 c (List.mem_range.2 hc)) j (List.mem_range.2 (by omega))
  · obtain ⟨m, rfl⟩ : ∃ m, n = m + 1 := ⟨n - 1, by omega⟩
    exact List.all_eq_true.1 (List.all_eq_true.1 (List.all_eq_true.1 ck4 m (List.mem_range.2 (by omega))) c (List.mem_range.2 hc)) j (List.mem_range.2 (by omega))

theorem dgN_lt {n c i : Nat} (h1 : 1 ≤ n) : dgN n c i < n := Nat.mod_lt _ h1
theorem dgF_at {n c i : Nat} (h : i < n) : dgF n c i = (dgN n c i : Int) := by unfold dgF; rw [if_pos h]
theorem dgF_ge {n c i : Nat} (h : n ≤ i) : dgF n c i = 0 := by unfold dgF; rw [if_neg (by omega)]
theorem dgF_ok {n c : Nat} (h1 : 1 ≤ n) (h5 : n ≤ 5) : isB (n : Int) (dgF n c) = true := by
  rw [isB_true]
  refine ⟨by omega, by omega, fun i _ => ⟨fun h => ?_, fun h => dgF_ge (by omega)⟩⟩
  rw [dgF_at (by omega)]
  have := dgN_lt (c := c) (i := i) h1
  omega
theorem dgS_zero (n c i : Nat) : dgS n c 0 i = 0 := by
  unfold dgS
  by_cases h : n - 0 ≤ i
  · rw [if_pos h, dgF_ge (by omega)]
  · rw [if_neg h]
theorem dgS_full (n c : Nat) : dgS n c n = dgF n c := by funext i; unfold dgS; rw [if_pos (by omega)]
theorem dgS_step {n c j : Nat} (hj : j < n) : upd (dgS n c j) (n - 1 - j) (((c / n ^ j) % n : Nat) : Int) = dgS n c (j + 1) := by
  funext i
  unfold upd dgS
  by_cases h : i = n - 1 - j
  · subst h
    rw [if_pos rfl, if_pos (by omega), dgF_at (by omega)]
    unfold dgN
    rw [show n - 1 - (n - 1 - j) = j by omega]
  · rw [if_neg h]
    by_cases h2 : n - j ≤ i
    · rw [if_pos h2, if_pos (by omega)]
    · rw [if_neg h2, if_neg (by omega)]
theorem rest_step (c n j : Nat) : c / n ^ j / n = c / n ^ (j + 1) := by rw [Nat.div_div_eq_div_mul, Nat.pow_succ]

/-- The last j images are all the last point. -/
def Car (n c j : Nat) : Prop := ∀ i, i < n → n - j ≤ i → dgN n c i = n - 1
theorem car_zero (n c : Nat) : Car n c 0 := fun i h1 h2 => by omega
theorem dgZ_zero (n c : Nat) : dgZ n c 0 = dgF n c := by funext i; unfold dgZ; rw [if_neg (by omega)]
theorem dgZ_at {n c j : Nat} (hj : j < n) : dgZ n c j (n - 1 - j) = (dgN n c (n - 1 - j) : Int) := by
  unfold dgZ; rw [if_neg (by omega), dgF_at (by omega)]
theorem car_step {n c j : Nat} (h : Car n c j) (hj : j < n) (he : dgN n c (n - 1 - j) = n - 1) : Car n c (j + 1) := fun i h1 h2 => by
  by_cases e : i = n - 1 - j
  · rw [e]; exact he
  · exact h i h1 (by omega)
theorem dgZ_step {n c j : Nat} (hj : j < n) : upd (dgZ n c j) (n - 1 - j) 0 = dgZ n c (j + 1) := by
  funext i
  unfold upd dgZ
  by_cases h : i = n - 1 - j
  · rw [if_pos h, if_pos (by omega)]
  · rw [if_neg h]
    by_cases h2 : i < n ∧ n - j ≤ i
    · rw [if_pos h2, if_pos (by omega)]
    · rw [if_neg h2, if_neg (by omega)]
theorem car_all {n c j : Nat} (h : Car n c j) : ((List.range n).all fun i => decide (i < n - j) || dgN n c i == n - 1) = true := by
  rw [List.all_eq_true]
  intro i hi
  rw [Bool.or_eq_true, decide_eq_true_eq, beq_iff_eq]
  by_cases h2 : i < n - j
  · exact Or.inl h2
  · exact Or.inr (h i (List.mem_range.1 hi) (by omega))
theorem car_end {n c : Nat} (h1 : 1 ≤ n) (h5 : n ≤ 5) (hc : c < n ^ n) (h : Car n c n) : c + 1 = n ^ n := by
  have hk := ck_any h1 h5 hc (Nat.le_refl n)
  unfold ckS at hk
  rw [car_all h, if_neg (by omega)] at hk
  simpa using hk
theorem car_stop {n c j : Nat} (h1 : 1 ≤ n) (h5 : n ≤ 5) (hc : c < n ^ n) (hj : j < n) (h : Car n c j) (hne : dgN n c (n - 1 - j) ≠ n - 1) :
    c + 1 < n ^ n ∧ upd (dgZ n c j) (n - 1 - j) ((dgN n c (n - 1 - j) : Int) + 1) = dgF n (c + 1) := by
  have hk := ck_any h1 h5 hc (Nat.le_of_lt hj)
  unfold ckS at hk
  rw [car_all h, if_pos hj, beq_false_of_ne hne, Bool.not_true, Bool.false_or, Bool.false_or, Bool.and_eq_true, decide_eq_true_eq, List.all_eq_true] at hk
  refine ⟨hk.1, ?_⟩
  funext i
  by_cases hi : i < n
  · have h2 := hk.2 i (List.mem_range.2 hi)
    rw [beq_iff_eq] at h2
    rw [dgF_at hi, h2]
    unfold upd dgZ
    by_cases e : i = n - 1 - j
    · rw [if_pos e, if_pos e, e]; omega
    · rw [if_neg e, if_neg e]
      by_cases e2 : n - j ≤ i
      · rw [if_pos ⟨hi, e2⟩, if_pos e2]; rfl
      · rw [if_neg (by omega), if_neg e2, dgF_at hi]
  · rw [dgF_ge (by omega)]
    unfold upd dgZ
    rw [if_neg (by omega), if_neg (by omega), dgF_ge (by omega)]

theorem pow_le {n : Nat} (h1 : 1 ≤ n) (h5 : n ≤ 5) : n ^ n ≤ 3125 := by
  rcases (by omega : n = 1 ∨ n = 2 ∨ n = 3 ∨ n = 4 ∨ n = 5) with rfl | rfl | rfl | rfl | rfl <;> decide
theorem pow_pos {n : Nat} (h1 : 1 ≤ n) (h5 : n ≤ 5) : 1 ≤ n ^ n := by
  rcases (by omega : n = 1 ∨ n = 2 ∨ n = 3 ∨ n = 4 ∨ n = 5) with rfl | rfl | rfl | rfl | rfl <;> decide
theorem powk_le {n k : Nat} (h1 : 1 ≤ n) (h5 : n ≤ 5) (hk : k ≤ n) : n ^ k ≤ 3125 := Nat.le_trans (Nat.pow_le_pow_right h1 hk) (pow_le h1 h5)

theorem dec_all : ((List.range 6).all fun n => (List.range (n ^ n)).all fun c => (List.range n).foldl (fun a i => a * n + dgN n c i) 0 == c) = true := by decide +kernel
theorem dec_any {n c : Nat} (h1 : 1 ≤ n) (h5 : n ≤ 5) (hc : c < n ^ n) : (List.range n).foldl (fun a i => a * n + dgN n c i) 0 = c :=
  beq_iff_eq.1 (List.all_eq_true.1 (List.all_eq_true.1 dec_all n (List.mem_range.2 (by omega))) c (List.mem_range.2 hc))
theorem foldl_ext {α : Type} (f g : α → Nat → α) : ∀ (L : List Nat) (a : α), (∀ a i, i ∈ L → f a i = g a i) → L.foldl f a = L.foldl g a
  | [], _, _ => rfl
  | x :: L, a, h => by
    rw [List.foldl_cons, List.foldl_cons, h a x (by simp)]
    exact foldl_ext f g L _ (fun a i hi => h a i (by simp [hi]))
/-- The number of the map in a block. -/
def cdB (n : Nat) : Option Obj → Nat
  | some (.cells cs _ _) => (List.range n).foldl (fun a i => a * n + (intOf (cs.getD (1 + i) (.int .i64 0))).toNat) 0
  | _ => 0
theorem cdB_at {n c T : Nat} {fr : Nat × Nat} (h1 : 1 ≤ n) (h5 : n ≤ 5) (hc : c < n ^ n) : cdB n (some (.cells (mcells (n : Int) (dgF n c)) T fr)) = c := by
  refine Eq.trans (foldl_ext _ _ _ _ fun a i hi => ?_) (dec_any h1 h5 hc)
  have hi := List.mem_range.1 hi
  have : (mcells (n : Int) (dgF n c)).getD (1 + i) (.int .i64 0) = .int .i64 (dgF n c i) := by
    rcases (by omega : i = 0 ∨ i = 1 ∨ i = 2 ∨ i = 3 ∨ i = 4) with rfl | rfl | rfl | rfl | rfl <;> rfl
  rw [this, dgF_at hi]
  simp [intOf]

/-- The first c maps of n points. -/
def allM (n c : Nat) : List MapN := (List.range c).map fun k => ((n : Int), dgF n k)
theorem allM_len (n c : Nat) : (allM n c).length = c := by simp [allM]
theorem allM_succ (n c : Nat) : allM n (c + 1) = allM n c ++ [((n : Int), dgF n c)] := by simp [allM, List.range_succ]
theorem allM_at {n c k : Nat} (h : k < c) (d : MapN) : (allM n c).getD k d = ((n : Int), dgF n k) := by simp [allM, h]
end Go.Proofs.Ytfghegjlilcafaa
