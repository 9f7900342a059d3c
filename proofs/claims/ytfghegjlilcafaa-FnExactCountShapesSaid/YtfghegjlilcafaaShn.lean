/- The number of a map as its digits in base n, without Go: each valid code is that of one number below n ^ n. -/
import Derived.Test.YtfghegjlilcafaaShp
namespace Go.Proofs.Ytfghegjlilcafaa
open Go Go.RowKit

/-- The number of the first j digits. -/
def idK (n y : Nat) : Nat → Nat
  | 0 => 0
  | j + 1 => idK n y j * n + d5 y j
def idN (n y : Nat) : Nat := idK n y n
/-- A code with digits below n at the first n places, 0 behind them. -/
def lvB (n y : Nat) : Bool := (List.range 5).all fun i => if i < n then decide (d5 y i < n) else d5 y i == 0
def ckI (n y : Nat) : Bool := !lvB n y || (decide (idN n y < n ^ n) && (List.range n).all fun i => dgN n (idN n y) i == d5 y i)
theorem id_all : ((List.range 5).all fun n => (List.range 3125).all fun y => ckI (n + 1) y) = true := by decide +kernel
theorem lv_of {n y : Nat} (h : vld (n : Int) y) : lvB n y = true := by
  unfold lvB
  rw [List.all_eq_true]
  intro i hi
  have hi5 := List.mem_range.1 hi
  have hd := dcd_d5 y i hi5
  by_cases hin : i < n
  · rw [if_pos hin, decide_eq_true_iff]
    have := ok_at h.2 i (by omega)
    omega
  · rw [if_neg hin, beq_iff_eq]
    have := ((isB_true.1 h.2).2.2 i hi5).2 (by omega)
    omega
theorem id_any {n y : Nat} (h1 : 1 ≤ n) (h5 : n ≤ 5) (h : vld (n : Int) y) : idN n y < n ^ n ∧ cdN n (idN n y) = y := by
  have hc := all5 (P := fun n => (List.range 3125).all fun y => ckI n y) id_all h1 h5
  have hc := List.all_eq_true.1 hc y (List.mem_range.2 h.1)
  unfold ckI at hc
  rw [lv_of h, Bool.not_true, Bool.false_or, Bool.and_eq_true, decide_eq_true_iff, List.all_eq_true] at hc
  refine ⟨hc.1, ?_⟩
  rw [← ecd_dcd h.1]
  unfold cdN
  have e : ecd (dcd y) = y := ecd_dcd h.1
  refine ecd_congr fun i hi => ?_
  rw [e, dcd_d5 y i hi]
  by_cases hin : i < n
  · rw [dgF_at hin, eq_of_beq (hc.2 i (List.mem_range.2 hin))]
  · rw [dgF_ge (by omega)]
    have := dcd_d5 y i hi
    have := ((isB_true.1 h.2).2.2 i hi).2 (by omega)
    omega
theorem id_cd {n k : Nat} (h1 : 1 ≤ n) (h5 : n ≤ 5) (hk : k < n ^ n) : idN n (cdN n k) = k := by
  have h := (id_any h1 h5 (cdN_vld (k := k) h1 h5)).2
  have hd := (id_any h1 h5 (cdN_vld (k := k) h1 h5)).1
  have e : ∀ i, i < n → dgN n (idN n (cdN n k)) i = dgN n k i := fun i hi => by
    have hg : ∀ m, dcd (cdN n m) i = dgF n m i := fun m => dcd_ecd (dgF_ok h1 h5) i (by omega)
    have h' : dgF n (idN n (cdN n k)) i = dgF n k i := by rw [← hg, ← hg, h]
    rw [dgF_at hi, dgF_at hi] at h'
    omega
  have a := dec_any h1 h5 hd
  have b := dec_any h1 h5 hk
  exact a.symm.trans ((foldl_ext _ _ _ _ fun a i hi => by rw [e i (List.mem_range.1 hi)]).trans b)

end Go.Proofs.Ytfghegjlilcafaa
