/- Lists of the numbers 0 to n - 1, each once: the contracts of spec.l08Order and impl.isArrangement. -/
import Derived.Test.YtgiefgbpcjoieaaTbl
import Derived.Test.YtgiefgbpcjoieaaSl
namespace Go.Proofs.Ytgiefgbpcjoieaa
open Go.RowKit

def ordB (n : Nat) (X : List Int) : Bool := (decide (X.length = n) && belB (n : Int) X) && (List.range n).all fun k => !(imgK (tL X) k (X.getD k 0).toNat)

theorem ordB_len {n : Nat} {X : List Int} (h : X.length ≠ n) : ordB n X = false := by unfold ordB; simp [h]
theorem ordB_bel {n : Nat} {X : List Int} (h : belB (n : Int) X = false) : ordB n X = false := by unfold ordB; simp [h]
theorem ordB_met {n : Nat} {X : List Int} (k : Nat) (hk : k < n) (h : imgK (tL X) k (X.getD k 0).toNat = true) : ordB n X = false := by
  rw [Bool.eq_false_iff]
  intro hh
  unfold ordB at hh
  simp only [Bool.and_eq_true, List.all_eq_true] at hh
  have := hh.2 k (by simpa using hk)
  rw [h] at this
  exact absurd this (by decide)
theorem ordB_good {n : Nat} {X : List Int} (hl : X.length = n) (hb : belB (n : Int) X = true) (h : ∀ k, k < n → imgK (tL X) k (X.getD k 0).toNat = false) : ordB n X = true := by
  unfold ordB
  simp only [Bool.and_eq_true, List.all_eq_true, decide_eq_true_eq]
  refine ⟨⟨hl, hb⟩, fun k hk => ?_⟩
  rw [h k (by simpa using hk)]
  rfl
theorem ordB_at {n : Nat} {X : List Int} (h : ordB n X = true) : X.length = n ∧ belB (n : Int) X = true := by
  unfold ordB at h
  simp only [Bool.and_eq_true, decide_eq_true_eq] at h
  exact h.1

/-- A row of truths in a block. -/
def Mt (w : World) (g n : Nat) (s : Nat → Bool) : Prop := g < w.heap.size ∧ ∀ j, j < n → w.cell? ⟨g, j, none⟩ = some (.bool (s j)) ∧ w.frozen? ⟨g, j, none⟩ = false

theorem Mt.set {w : World} {g n : Nat} {s : Nat → Bool} (h : Mt w g n s) (y : Nat) (hy : y < n) : Mt (w.setCell ⟨g, y, none⟩ (.bool true)) g n (setB s y) := by
  refine ⟨by simpa using h.1, fun j hj => ?_⟩
  rw [World.frozen?_setCell]
  refine ⟨?_, (h.2 j hj).2⟩
  unfold setB
  by_cases e : j = y
  · subst e
    rw [if_pos rfl]
    exact World.cell?_setCell_same _ _ _ (h.2 j hj).1
  · rw [if_neg e, World.cell?_setCell_other _ _ _ _ (by intro q; injection q with _ q; exact e q.symm)]
    exact (h.2 j hj).1

theorem make_bools8 (n : Nat) (hn : n ≤ 40) (w : World) :
    (Instr.makeSlice 108 (.int .i64 (n : Int)) (.int .i64 (n : Int))).run Try.prog w = .ok (.slice (some ⟨w.heap.size, 0, none⟩) n n) (w.alloc (.cells (Array.replicate n (.bool false)) 4)) := by
  rcases (by omega : n = 0 ∨ n = 1 ∨ n = 2 ∨ n = 3 ∨ n = 4 ∨ n = 5 ∨ n = 6 ∨ n = 7 ∨ n = 8 ∨ n = 9 ∨ n = 10 ∨ n = 11 ∨ n = 12 ∨ n = 13 ∨ n = 14 ∨ n = 15 ∨ n = 16 ∨ n = 17 ∨ n = 18 ∨ n = 19 ∨ n = 20 ∨ n = 21 ∨ n = 22 ∨ n = 23 ∨ n = 24 ∨ n = 25 ∨ n = 26 ∨ n = 27 ∨ n = 28 ∨ n = 29 ∨ n = 30 ∨ n = 31 ∨ n = 32 ∨ n = 33 ∨ n = 34 ∨ n = 35 ∨ n = 36 ∨ n = 37 ∨ n = 38 ∨ n = 39 ∨ n = 40) with rfl | rfl | rfl | rfl | rfl | rfl | rfl | rfl | rfl | rfl | rfl | rfl | rfl | rfl | rfl | rfl | rfl | rfl | rfl | rfl | rfl | rfl | rfl | rfl | rfl | rfl | rfl | rfl | rfl | rfl | rfl | rfl | rfl | rfl | rfl | rfl | rfl | rfl | rfl | rfl | rfl <;> kernel_rfl

theorem mt_new (n : Nat) (w : World) : Mt (w.alloc (.cells (Array.replicate n (.bool false)) 4)) w.heap.size n (fun _ => false) := by
  have hb : (w.alloc (.cells (Array.replicate n (.bool false)) 4)).heap[w.heap.size]? = some (.cells (Array.replicate n (.bool false)) 4 (0, 0)) := halloc_at _ _ _ rfl
  refine ⟨by simp, fun j hj => ⟨?_, Joins.unfrozen_of_block hb j⟩⟩
  rw [Joins.cell_of_block hb j]
  simp [hj]

theorem imgK_zero (t : Nat → Int) : imgK t 0 = fun _ => false := by funext j; simp [imgK]

set_option maxRecDepth 100000 in
set_option maxHeartbeats 2000000 in
theorem sord_any (n : Nat) (hn1 : 1 ≤ n) (hn : n ≤ 40) (X : List Int) (a : Option Addr) (c : Nat) (w : World) (h : InRow w a X) :
    Calls Try.prog 83 #[.slice a X.length c, .int .i64 (n : Nat)] w fun e w' => e = .returned (.bool (ordB n X)) ∧ Below w.heap.size w w' := by
  have hmk := make_bools8 n hn
  have HN := Lib.hid h
  clear h
  by_cases hl : X.length = n
  rotate_left
  · have HF := Lib.hid (ordB_len hl)
    have hq : ((X.length : Int) != (n : Int)) = true := by simp; omega
    have hq2 : ¬ ((X.length : Int) = (n : Int)) := by omega
    clear hl
    go_enter Try.func83, Try.ntmps83
    go_wp2_with fail
    go_ret
    exact ⟨ret_b HF.out.symm, by (repeat' (first | (with_reducible exact Below.refl _ _) | (with_reducible refine Below.alloc ?_ ?_ _) | (with_reducible refine Below.setCell ?_ ?_ _) | (with_reducible refine Below.drew ?_) | (with_reducible refine below_drewN ?_ _) | (with_reducible refine Below.trans ?_ (Below.mono (Hid.out (by assumption)) ?_)) | omega | (simp; done) | (simp; omega)))⟩
  have hlI : (X.length : Int) = (n : Int) := by omega
  rw [hl]
  go_enter Try.func83, Try.ntmps83
  go_wp2_with fail
  go_loopw [6] (fun i wr => ∃ k : Nat, k ≤ n ∧ i = .int .i64 k ∧ Mt wr w.heap.size n (imgK (tL X) k) ∧ Below w.heap.size w wr ∧ (∀ j, j < k → (0 ≤ X.getD j 0 ∧ X.getD j 0 < (n : Int)) ∧ imgK (tL X) j (X.getD j 0).toNat = false)) (fun i _ => n - (intOf i).toNat)
  case atStart => exact ⟨0, by omega, rfl, by rw [imgK_zero]; exact mt_new n w, (Below.refl _ _).alloc (Nat.le_refl _) _, fun j hj => by omega⟩
  case round =>
    obtain ⟨k, hk, rfl, hm, hb, hok⟩ := hrel
    have HM := Lib.hid hm
    have HB := Lib.hid hb
    have HOK := Lib.hid hok
    clear hm hb hok
    by_cases hkn : k < n
    · have hkn' : (k : Int) < (n : Int) := by omega
      obtain ⟨b, off, rfl, hlt, hin⟩ := HN.out.resolve_left (fun e => by rw [e] at hl; simp at hl; omega)
      have e1 := (HB.out.cell (p := ⟨b, off + k, none⟩) hlt).trans (hin k (by omega))
      have HBF := Lib.hid fun h => ordB_bel (belB_false (n := (n : Int)) (W := X) k (by omega) h)
      have HMF := Lib.hid fun h => ordB_met (n := n) (X := X) k hkn h
      have HST : Hid (0 ≤ X.getD k 0 → setB (imgK (tL X) k) (X.getD k 0).toNat = imgK (tL X) (k + 1)) := Lib.hid fun h => imgK_succ (tL X) k h
      have HGO : Hid ((0 ≤ X.getD k 0 ∧ X.getD k 0 < (n : Int)) ∧ imgK (tL X) k (X.getD k 0).toNat = false → ∀ j, j < k + 1 → (0 ≤ X.getD j 0 ∧ X.getD j 0 < (n : Int)) ∧ imgK (tL X) j (X.getD j 0).toNat = false) := Lib.hid fun h j hj => by
        by_cases e : j = k
        · rw [e]; exact h
        · exact HOK.out j (by omega)
      clear hin
      generalize X.getD k 0 = Z at *
      have HIN := Lib.hid fun w => in_any Z 0 ((n : Int) - 1) w
      by_cases hZ : 0 ≤ Z ∧ Z < (n : Int)
      · have hin : inB Z 0 ((n : Int) - 1) = true := inB_true.2 (by omega)
        rw [hin] at HIN
        obtain ⟨y, rfl⟩ := Int.eq_ofNat_of_zero_le hZ.1
        have hy : y < n := by omega
        have hy' : (y : Int) < (n : Int) := by omega
        simp only [Int.toNat_natCast] at HMF HST HGO
        obtain ⟨e2, e3⟩ := HM.out.2 y hy
        cases hmet : imgK (tL X) k y
        · rw [hmet] at e2
          have HNX := Lib.hid (HM.out.set y hy)
          rw [HST.out hZ.1] at HNX
          have HG := Lib.hid (HGO.out ⟨hZ, hmet⟩)
          clear hmet hin hZ HBF HMF HGO HST
          go_wp2_with fail
          refine (HIN.out _).mono ?_
          rintro e w5 ⟨rfl, rfl⟩
          go_wp2_with fail
          go_roundw
          case rel => exact ⟨k + 1, by omega, by go_num, HNX.out, HB.out.setCell (Nat.le_refl _) _, HG.out⟩
          case measure => simp [intOf]; omega
        · rw [hmet] at e2
          have HF := Lib.hid (HMF.out hmet)
          clear hmet hin hZ HBF HMF HGO HST
          go_wp2_with fail
          refine (HIN.out _).mono ?_
          rintro e w5 ⟨rfl, rfl⟩
          go_wp2_with fail
          go_ret
          exact ⟨ret_b HF.out.symm, HB.out⟩
      · have hin : inB Z 0 ((n : Int) - 1) = false := by
          rw [Bool.eq_false_iff]; intro hin; exact hZ (by have := inB_true.1 hin; omega)
        rw [hin] at HIN
        have HF := Lib.hid (HBF.out hZ)
        clear hin hZ HBF HMF HGO HST
        go_wp2_with fail
        refine (HIN.out _).mono ?_
        rintro e w5 ⟨rfl, rfl⟩
        go_wp2_with fail
        go_ret
        exact ⟨ret_b HF.out.symm, HB.out⟩
    · obtain rfl : k = n := by omega
      have HV := Lib.hid (ordB_good hl (belB_true (fun j hj => (HOK.out j (by omega)).1)) (fun j hj => (HOK.out j hj).2))
      go_wp2_with fail
      go_ret
      exact ⟨ret_b HV.out.symm, HB.out⟩

set_option maxRecDepth 100000 in
set_option maxHeartbeats 2000000 in
theorem iord_any (n : Nat) (hn1 : 1 ≤ n) (hn : n ≤ 40) (X : List Int) (hX : X.length ≤ 1048576) (a : Option Addr) (c : Nat) (w : World) (h : InRow w a X) :
    Calls Try.prog 84 #[.slice a X.length c, .int .i64 (n : Nat)] w fun e w' => e = .returned (.bool (ordB n X)) ∧ Below w.heap.size w w' := by
  have hmk := make_bools8 n hn
  have HN := Lib.hid h
  have HBE := Lib.hid (below_any (n : Int) X hX a c w h)
  clear h
  by_cases hl : X.length = n
  rotate_left
  · have HF := Lib.hid (ordB_len hl)
    have hq : ((X.length : Int) != (n : Int)) = true := by simp; omega
    have hq2 : ¬ ((X.length : Int) = (n : Int)) := by omega
    clear hl
    go_enter Try.func84, Try.ntmps84
    go_wp2_with fail
    go_ret
    exact ⟨ret_b HF.out.symm, Below.refl _ _⟩
  have hlI : (X.length : Int) = (n : Int) := by omega
  rw [hl] at HBE ⊢
  clear hX
  cases hbv : belB (n : Int) X
  · have HF := Lib.hid (ordB_bel hbv)
    rw [hbv] at HBE
    clear hbv
    go_enter Try.func84, Try.ntmps84
    go_wp2_with fail
    refine HBE.out.mono ?_
    rintro e w1 ⟨rfl, rfl⟩
    go_wp2_with fail
    go_ret
    exact ⟨ret_b HF.out.symm, Below.refl _ _⟩
  have HBT := Lib.hid hbv
  rw [hbv] at HBE
  clear hbv
  go_enter Try.func84, Try.ntmps84
  go_wp2_with fail
  refine HBE.out.mono ?_
  rintro e w1 ⟨rfl, rfl⟩
  clear HBE
  go_wp2_with fail
  go_loopw [7, 22] (fun _ i wr => ∃ k : Nat, k ≤ n ∧ i = .int .i64 k ∧ Mt wr w1.heap.size n (imgK (tL X) k) ∧ Below w1.heap.size w1 wr ∧ (∀ j, j < k → imgK (tL X) j (X.getD j 0).toNat = false)) (fun _ i _ => n - (intOf i).toNat)
  case atStart => exact ⟨0, by omega, rfl, by rw [imgK_zero]; exact mt_new n w1, (Below.refl _ _).alloc (Nat.le_refl _) _, fun j hj => by omega⟩
  case round =>
    obtain ⟨k, hk, rfl, hm, hb, hok⟩ := hrel
    have HM := Lib.hid hm
    have HB := Lib.hid hb
    have HOK := Lib.hid hok
    clear hm hb hok
    by_cases hkn : k < n
    · have hkn' : (k : Int) < (n : Int) := by omega
      obtain ⟨b, off, rfl, hlt, hin⟩ := HN.out.resolve_left (fun e => by rw [e] at hl; simp at hl; omega)
      have e1 := (HB.out.cell (p := ⟨b, off + k, none⟩) hlt).trans (hin k (by omega))
      have hZ := belB_at HBT.out k (by omega)
      have HMF := Lib.hid fun h => ordB_met (n := n) (X := X) k hkn h
      have HST : Hid (0 ≤ X.getD k 0 → setB (imgK (tL X) k) (X.getD k 0).toNat = imgK (tL X) (k + 1)) := Lib.hid fun h => imgK_succ (tL X) k h
      have HGO : Hid (imgK (tL X) k (X.getD k 0).toNat = false → ∀ j, j < k + 1 → imgK (tL X) j (X.getD j 0).toNat = false) := Lib.hid fun h j hj => by
        by_cases e : j = k
        · rw [e]; exact h
        · exact HOK.out j (by omega)
      clear hin
      generalize X.getD k 0 = Z at *
      obtain ⟨y, rfl⟩ := Int.eq_ofNat_of_zero_le hZ.1
      have hy : y < n := by omega
      have hy' : (y : Int) < (n : Int) := by omega
      simp only [Int.toNat_natCast] at HMF HST HGO
      obtain ⟨e2, e3⟩ := HM.out.2 y hy
      cases hmet : imgK (tL X) k y
      · rw [hmet] at e2
        have HNX := Lib.hid (HM.out.set y hy)
        rw [HST.out hZ.1] at HNX
        have HG := Lib.hid (HGO.out hmet)
        clear hmet hZ HMF HGO HST
        go_wp2_with fail
        go_roundw
        case rel => exact ⟨k + 1, by omega, by go_num, HNX.out, HB.out.setCell (Nat.le_refl _) _, HG.out⟩
        case measure => simp [intOf]; omega
      · rw [hmet] at e2
        have HF := Lib.hid (HMF.out hmet)
        clear hmet hZ HMF HGO HST
        go_wp2_with fail
        go_ret
        exact ⟨ret_b HF.out.symm, HB.out⟩
    · obtain rfl : k = n := by omega
      have HV := Lib.hid (ordB_good hl HBT.out HOK.out)
      go_wp2_with fail
      go_ret
      exact ⟨ret_b HV.out.symm, HB.out⟩

end Go.Proofs.Ytgiefgbpcjoieaa
