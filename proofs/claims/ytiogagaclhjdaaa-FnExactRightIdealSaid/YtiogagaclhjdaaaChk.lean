/- Lists of maps checked: the contracts of impl.checkMaps and impl.areNumbersBelow. -/
import Derived.Test.YtiogagaclhjdaaaConc
import Derived.Test.YtiogagaclhjdaaaBase
import Derived.Test.YtiogagaclhjdaaaSl
namespace Go.Proofs.Ytiogagaclhjdaaa
open Go.RowKit

def allB (L : List MapN) : Bool := L.all fun x => isB x.1 x.2

def fst0 (L : List MapN) : Int := (L.getD 0 z0).1

def sizeB (L : List MapN) : Bool := decide (1 ≤ L.length) && decide (L.length ≤ 6)

def sameB (p : Int) (M : List MapN) : Bool := M.all fun x => x.1 == p

/-- The code of a list of maps and maps beside it. -/
def chkC (L O : List MapN) : Int := if allB (L ++ O) = true then (if sizeB L = true then (if sameB (fst0 L) (L ++ O) = true then 0 else 2) else 2) else 1

/-- The six cells of a map. -/
def At6 (w : World) (b o : Nat) (x : MapN) : Prop :=
  w.cell? ⟨b, o, none⟩ = some (.int .i64 x.1) ∧ w.cell? ⟨b, o + 1, none⟩ = some (.int .i64 (x.2 0)) ∧ w.cell? ⟨b, o + 2, none⟩ = some (.int .i64 (x.2 1)) ∧
    w.cell? ⟨b, o + 3, none⟩ = some (.int .i64 (x.2 2)) ∧ w.cell? ⟨b, o + 4, none⟩ = some (.int .i64 (x.2 3)) ∧ w.cell? ⟨b, o + 5, none⟩ = some (.int .i64 (x.2 4))

theorem RdM.at6 {w : World} {B : Nat} {a : Option Addr} {L : List MapN} (h : RdM w B a L) (k : Nat) (hk : k < L.length) : ∃ g, a = some ⟨g, 0, none⟩ ∧ At6 w g (k * 6) (L.getD k z0) := by
  rcases h.2 with h0 | ⟨g, ha, _, _, hc, _⟩
  · rw [h0] at hk; simp at hk
  · have := hc k hk
    unfold AtM at this
    rw [Nat.zero_add] at this
    exact ⟨g, ha, this⟩

theorem InRowM.at6 {w : World} {a : Option Addr} {L : List MapN} (h : InRowM w a L) (k : Nat) (hk : k < L.length) : ∃ b off, a = some ⟨b, off, none⟩ ∧ b < w.heap.size ∧ At6 w b (off + k * 6) (L.getD k z0) := by
  rcases h with h0 | ⟨g, off, ha, hg, hc⟩
  · rw [h0] at hk; simp at hk
  · exact ⟨g, off, ha, hg, hc k hk⟩

theorem InRowM.at0 {w : World} {a : Option Addr} {L : List MapN} (h : InRowM w a L) (hk : 0 < L.length) : ∃ b off, a = some ⟨b, off, none⟩ ∧ b < w.heap.size ∧ At6 w b off (L.getD 0 z0) := by
  obtain ⟨b, off, ha, hg, hc⟩ := h.at6 0 hk
  rw [Nat.zero_mul, Nat.add_zero] at hc
  exact ⟨b, off, ha, hg, hc⟩

theorem allB_false {L : List MapN} (k : Nat) (hk : k < L.length) (h : isB (L.getD k z0).1 (L.getD k z0).2 = false) : allB L = false := by
  unfold allB; rw [List.all_eq_false]
  refine ⟨L.getD k z0, ?_, by rw [h]; exact Bool.false_ne_true⟩
  simp [hk]

theorem allB_true {L : List MapN} (h : ∀ k, k < L.length → isB (L.getD k z0).1 (L.getD k z0).2 = true) : allB L = true := by
  unfold allB; rw [List.all_eq_true]
  intro x hx
  obtain ⟨k, hk, e⟩ := List.mem_iff_getElem.1 hx
  have := h k hk
  simp [hk, e] at this
  exact this

theorem allB_at {L : List MapN} (h : allB L = true) (k : Nat) (hk : k < L.length) : isB (L.getD k z0).1 (L.getD k z0).2 = true := by
  unfold allB at h; rw [List.all_eq_true] at h
  exact h _ (by simp [hk])

theorem sameB_false {p : Int} {L : List MapN} (k : Nat) (hk : k < L.length) (h : (L.getD k z0).1 ≠ p) : sameB p L = false := by
  unfold sameB; rw [List.all_eq_false]
  exact ⟨L.getD k z0, by simp [hk], by simpa using h⟩

theorem sameB_true {p : Int} {L : List MapN} (h : ∀ k, k < L.length → (L.getD k z0).1 = p) : sameB p L = true := by
  unfold sameB; rw [List.all_eq_true]
  intro x hx
  obtain ⟨k, hk, e⟩ := List.mem_iff_getElem.1 hx
  have := h k hk
  simp [hk, e] at this
  simpa using this

theorem sameB_at {p : Int} {L : List MapN} (h : sameB p L = true) (k : Nat) (hk : k < L.length) : (L.getD k z0).1 = p := by
  unfold sameB at h; rw [List.all_eq_true] at h
  simpa using h (L.getD k z0) (by simp [hk])

set_option maxRecDepth 100000 in
set_option maxHeartbeats 2000000 in
theorem ams_any (M : List MapN) (hM : M.length ≤ 2000000) (a : Option Addr) (c : Nat) (w : World) (h : InRowM w a M) :
    Calls Try.prog 96 #[.slice a M.length c] w fun e w' => e = .returned (.bool (allB M)) ∧ Below w.heap.size w w' := by
  have HRM := Lib.hid h
  have HI := Lib.hid fun (x : MapN) w => iis_any x.1 x.2 w
  clear h
  go_enter Try.func96, Try.ntmps96
  go_wp2_with fail
  go_loopw [4, 7] (fun _ i wr => ∃ k : Nat, k ≤ M.length ∧ i = .int .i64 k ∧ (∀ j, j < k → isB (M.getD j z0).1 (M.getD j z0).2 = true) ∧ Below w.heap.size w wr) (fun _ i _ => M.length - (intOf i).toNat)
  case atStart => exact ⟨0, by omega, rfl, by omega, Below.refl _ _⟩
  case round =>
    obtain ⟨k, hk, rfl, hok, hb⟩ := hrel
    have HB := Lib.hid hb
    have HOK := Lib.hid hok
    have hsz := hb.size
    clear hb hok
    by_cases hkm : k < M.length
    · have hkm' : (k : Int) < (M.length : Int) := by omega
      obtain ⟨g, off, rfl, _, hat⟩ := (HRM.out.below HB.out).at6 k hkm
      obtain ⟨x0, x1, x2, x3, x4, x5⟩ := hat
      have HX := Lib.hid fun w => HI.out (M.getD k z0) w
      have HXX := Lib.hid (allB_false k hkm)
      have HG : Hid (isB (M.getD k z0).1 (M.getD k z0).2 = true → ∀ j, j < k + 1 → isB (M.getD j z0).1 (M.getD j z0).2 = true) := Lib.hid fun h j hj => by
        by_cases e : j = k
        · rw [e]; exact h
        · exact HOK.out j (by omega)
      generalize M.getD k z0 = X at *
      obtain ⟨p, t⟩ := X
      cases hv : isB p t
      · have HF := Lib.hid (HXX.out hv)
        have HQ := HX.out
        simp only [hv] at HQ
        have HQ := Lib.hid HQ
        clear hv
        simp only [mv, mcells] at *
        go_wp2_with fail
        refine (HQ.out _).mono ?_
        rintro e w2 ⟨rfl, hb2⟩
        have HB2 := Lib.hid hb2
        have hz2 := hb2.size
        clear hb2
        go_wp2_with fail
        go_ret
        refine ⟨ret_b HF.out.symm, ?_⟩
        simp at hz2
        exact (HB.out.alloc hsz _).trans (HB2.out.mono (by simp; omega))
      · have HG := Lib.hid (HG.out hv)
        have HQ := HX.out
        simp only [hv] at HQ
        have HQ := Lib.hid HQ
        clear hv
        simp only [mv, mcells] at *
        go_wp2_with fail
        refine (HQ.out _).mono ?_
        rintro e w2 ⟨rfl, hb2⟩
        have HB2 := Lib.hid hb2
        have hz2 := hb2.size
        clear hb2
        go_wp2_with fail
        go_roundw
        case rel => exact ⟨k + 1, by omega, by go_num, HG.out, (HB.out.alloc hsz _).trans (HB2.out.mono (by simp; omega))⟩
        case measure => simp [intOf]; omega
    · obtain rfl : k = M.length := by omega
      have HALL := Lib.hid (allB_true HOK.out)
      go_wp2_with fail
      go_ret
      exact ⟨ret_b HALL.out.symm, HB.out⟩

set_option maxRecDepth 100000 in
set_option maxHeartbeats 2000000 in
theorem check_any (a1 a2 : Option Addr) (c1 c2 : Nat) (L O : List MapN) (h1 : a1 = none → c1 = 0) (h2 : a2 = none → c2 = 0) (hl1 : L.length ≤ 1048576) (hl2 : O.length ≤ 900000) (w : World) (hr1 : InRowM w a1 L) (hr2 : InRowM w a2 O) :
    Calls Try.prog 77 #[.slice a1 L.length c1, .slice a2 O.length c2] w fun e w' => e = .returned (.int .i64 (chkC L O)) ∧ Below w.heap.size w w' := by
  have HR1 := Lib.hid hr1
  have HR2 := Lib.hid hr2
  have HI := Lib.hid fun (x : MapN) w => iis_any x.1 x.2 w
  clear hr1 hr2
  go_enter Try.func77, Try.ntmps77
  go_wp2_with fail
  refine (concat_any a1 a2 c1 c2 L O h1 h2 hl1 hl2 w.heap.size _ (HR1.out.below ((Below.refl _ _).alloc (Nat.le_refl _) _)) (HR2.out.below ((Below.refl _ _).alloc (Nat.le_refl _) _)) (World.cell?_alloc_new (w := w) _ _ 0) (World.cell?_alloc_new (w := w) _ _ 1)).mono ?_
  rintro e wo ⟨v, rfl, hown, hb⟩
  have hlen : (L ++ O).length = L.length + O.length := List.length_append
  obtain ⟨am, cm, rfl, hrd⟩ := ownM_rd hown (by omega)
  have hzo := hb.size
  simp at hzo
  have HB0 : Hid (Below w.heap.size w wo) := Lib.hid (((Below.refl _ _).alloc (Nat.le_refl _) _).trans (hb.mono (by simp)))
  have HRM := Lib.hid hrd
  have HL1 := Lib.hid (HR1.out.below HB0.out)
  have hM : (L ++ O).length ≤ 2000000 := by omega
  have HM : Hid (∃ M, M = L ++ O) := Lib.hid ⟨_, rfl⟩
  have HCC : Hid (chkC L O = if allB (L ++ O) = true then (if sizeB L = true then (if sameB (fst0 L) (L ++ O) = true then 0 else 2) else 2) else 1) := Lib.hid rfl
  clear hown hb hrd hlen HM
  generalize L ++ O = M at *
  have HAM := Lib.hid (ams_any M hM am cm wo HRM.out.inRow)
  cases hall : allB M
  · have HC := HCC.out
    rw [if_neg (by rw [hall]; exact Bool.false_ne_true)] at HC
    have HC := Lib.hid HC
    rw [hall] at HAM
    clear hall
    go_wp2_with fail
    refine HAM.out.mono ?_
    rintro e w2 ⟨rfl, hb2⟩
    have HB2 := Lib.hid hb2
    clear hb2
    go_wp2_with fail
    go_ret
    exact ⟨ret_i HC.out.symm, HB0.out.trans (HB2.out.mono (by omega))⟩
  · have HALL := Lib.hid hall
    rw [hall] at HAM
    clear hall
    go_wp2_with fail
    refine HAM.out.mono ?_
    rintro e wr ⟨rfl, hb2⟩
    have HB : Hid (Below wo.heap.size wo wr) := Lib.hid hb2
    have hsz2 := hb2.size
    clear hb2
    by_cases hs : 1 ≤ L.length ∧ L.length ≤ 6
    · have HC := HCC.out
      rw [if_pos HALL.out, if_pos (by unfold sizeB; simp; exact hs)] at HC
      have HC := Lib.hid HC
      obtain ⟨hs1, hs6⟩ := hs
      have hlo : ¬ ((L.length : Int) < 1) := by omega
      have hhi : ¬ (6 < (L.length : Int)) := by omega
      obtain ⟨wp, hwp⟩ : ∃ wp, wp = wr := ⟨_, rfl⟩
      subst hwp
      have HBP := Lib.hid HB.out
      clear HB
      go_wp2_with fail
      go_loopw [7, 25] (fun _ i wr => ∃ k : Nat, k ≤ M.length ∧ i = .int .i64 k ∧ (∀ j, j < k → (M.getD j z0).1 = fst0 L) ∧ Below wo.heap.size wo wr) (fun _ i _ => M.length - (intOf i).toNat)
      case atStart => exact ⟨0, by omega, rfl, by omega, HBP.out⟩
      case round =>
        obtain ⟨k, hk, rfl, hok, hb⟩ := hrel
        have HB := Lib.hid hb
        have HOK := Lib.hid hok
        have hsz := hb.size
        clear hb hok
        by_cases hkm : k < M.length
        · have hkm' : (k : Int) < (M.length : Int) := by omega
          obtain ⟨g, rfl, hat⟩ := (HRM.out.below HB.out).at6 k hkm
          obtain ⟨x0, x1, x2, x3, x4, x5⟩ := hat
          obtain ⟨b, off, rfl, hbl, hat0⟩ := (HL1.out.below HB.out).at0 (by omega)
          obtain ⟨y0, y1, y2, y3, y4, y5⟩ := hat0
          have hf0 : (L.getD 0 z0).1 = fst0 L := rfl
          rw [hf0] at y0
          have HXX := Lib.hid (sameB_false (p := fst0 L) k hkm)
          have HG : Hid ((M.getD k z0).1 = fst0 L → ∀ j, j < k + 1 → (M.getD j z0).1 = fst0 L) := Lib.hid fun h j hj => by
            by_cases e : j = k
            · rw [e]; exact h
            · exact HOK.out j (by omega)
          clear hf0 y1 y2 y3 y4 y5
          generalize fst0 L = p0 at *
          generalize M.getD k z0 = X at *
          obtain ⟨p, t⟩ := X
          by_cases hv : p = p0
          · have HG := Lib.hid (HG.out hv)
            have hne : (p != p0) = false := by simp [hv]
            clear hv
            simp only [] at x0 x1 x2 x3 x4 x5
            go_wp2_with fail
            go_quiet (fail)
            go_wp2_with fail
            go_roundw
            case rel => exact ⟨k + 1, by omega, by go_num, HG.out, below_drewN (HB.out.alloc hsz _) _⟩
            case measure => simp [intOf]; omega
          · have HF := HXX.out hv
            have HC := HC.out
            rw [if_neg (by rw [HF]; exact Bool.false_ne_true)] at HC
            have HC := Lib.hid HC
            have hne : (p != p0) = true := by simp [hv]
            clear hv HF
            simp only [] at x0 x1 x2 x3 x4 x5
            go_wp2_with fail
            go_quiet (fail)
            go_wp2_with fail
            go_ret
            exact ⟨ret_i HC.out.symm, HB0.out.trans ((below_drewN (HB.out.alloc hsz _) _).mono (by omega))⟩
        · obtain rfl : k = M.length := by omega
          have HC := HC.out
          rw [if_pos (sameB_true HOK.out)] at HC
          have HC := Lib.hid HC
          go_wp2_with fail
          go_ret
          exact ⟨(by first | exact ret_i HC.out.symm | rfl), HB0.out.trans (HB.out.mono (by omega))⟩
    · have HC := HCC.out
      rw [if_pos HALL.out, if_neg (by unfold sizeB; simp; omega)] at HC
      have HC := Lib.hid HC
      by_cases hlo : (L.length : Int) < 1
      · clear hs
        go_wp2_with fail
        go_ret
        exact ⟨(by first | exact ret_i HC.out.symm | rfl), HB0.out.trans (HB.out.mono (by omega))⟩
      · have hhi : 6 < (L.length : Int) := by omega
        clear hs
        go_wp2_with fail
        go_ret
        exact ⟨(by first | exact ret_i HC.out.symm | rfl), HB0.out.trans (HB.out.mono (by omega))⟩

/-- Whether all numbers lie in 0 .. n - 1. -/
def belB (n : Int) (W : List Int) : Bool := W.all fun x => decide (0 ≤ x) && decide (x < n)

theorem belB_false {n : Int} {W : List Int} (k : Nat) (hk : k < W.length) (h : ¬ (0 ≤ W.getD k 0 ∧ W.getD k 0 < n)) : belB n W = false := by
  unfold belB; rw [List.all_eq_false]
  exact ⟨W.getD k 0, by simp [hk], by simpa using h⟩

theorem belB_true {n : Int} {W : List Int} (h : ∀ k, k < W.length → 0 ≤ W.getD k 0 ∧ W.getD k 0 < n) : belB n W = true := by
  unfold belB; rw [List.all_eq_true]
  intro x hx
  obtain ⟨k, hk, e⟩ := List.mem_iff_getElem.1 hx
  have := h k hk
  simp [hk, e] at this
  simpa using this

theorem belB_at {n : Int} {W : List Int} (h : belB n W = true) (k : Nat) (hk : k < W.length) : 0 ≤ W.getD k 0 ∧ W.getD k 0 < n := by
  unfold belB at h; rw [List.all_eq_true] at h
  simpa using h (W.getD k 0) (by simp [hk])



end Go.Proofs.Ytiogagaclhjdaaa
