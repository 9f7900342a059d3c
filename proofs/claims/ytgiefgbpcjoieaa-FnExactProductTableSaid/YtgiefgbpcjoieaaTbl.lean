/- Tables of numbers: told without Go, and in memory; the contracts of spec.l08Is and impl.isTable. -/
import Derived.Test.YtgiefgbpcjoieaaRss
import Derived.Test.YtgiefgbpcjoieaaChk
namespace Go.Proofs.Ytgiefgbpcjoieaa
open Go.RowKit

def mp (LL : List (List Int)) (i j : Nat) : Nat := ((LL.getD i []).getD j 0).toNat
def rowB (n : Nat) (X : List Int) : Bool := decide (X.length = n) && belB (n : Int) X
/-- Whether rows are a table. -/
def tblB (LL : List (List Int)) : Bool := (decide (1 ≤ LL.length) && decide (LL.length ≤ 40)) && LL.all fun X => rowB LL.length X

theorem tblB_n {LL : List (List Int)} (h : tblB LL = true) : 1 ≤ LL.length ∧ LL.length ≤ 40 := by
  unfold tblB at h
  simp only [Bool.and_eq_true, decide_eq_true_eq] at h
  exact h.1

theorem tblB_row {LL : List (List Int)} (h : tblB LL = true) (i : Nat) (hi : i < LL.length) : (LL.getD i []).length = LL.length ∧ belB (LL.length : Int) (LL.getD i []) = true := by
  unfold tblB at h
  simp only [Bool.and_eq_true, List.all_eq_true] at h
  have := h.2 (LL.getD i []) (by simp [hi])
  unfold rowB at this
  simpa using this

theorem tblB_val {LL : List (List Int)} (h : tblB LL = true) (i j : Nat) (hi : i < LL.length) (hj : j < LL.length) : (LL.getD i []).getD j 0 = (mp LL i j : Nat) ∧ mp LL i j < LL.length := by
  obtain ⟨h1, h2⟩ := tblB_row h i hi
  have := belB_at h2 j (by omega)
  unfold mp
  omega

theorem tblB_size {LL : List (List Int)} (h : ¬ (1 ≤ LL.length ∧ LL.length ≤ 40)) : tblB LL = false := by
  rw [Bool.eq_false_iff]; intro ht; exact h (tblB_n ht)

theorem tblB_bad {LL : List (List Int)} (k : Nat) (hk : k < LL.length) (h : ¬ ((LL.getD k []).length = LL.length ∧ belB (LL.length : Int) (LL.getD k []) = true)) : tblB LL = false := by
  rw [Bool.eq_false_iff]; intro ht; exact h (tblB_row ht k hk)

theorem tblB_good {LL : List (List Int)} (h1 : 1 ≤ LL.length) (h2 : LL.length ≤ 40) (h : ∀ k, k < LL.length → (LL.getD k []).length = LL.length ∧ belB (LL.length : Int) (LL.getD k []) = true) : tblB LL = true := by
  unfold tblB
  simp only [Bool.and_eq_true, decide_eq_true_eq, List.all_eq_true]
  refine ⟨⟨h1, h2⟩, fun X hX => ?_⟩
  obtain ⟨k, hk, e⟩ := List.mem_iff_getElem.1 hX
  have := h k hk
  simp [hk, e] at this
  unfold rowB
  simpa using this

/-- A table of n in memory: its rows' places and its products. -/
structure Tbi (w : World) (b off : Nat) (gr ro cr : Nat → Nat) (n : Nat) (mu : Nat → Nat → Nat) : Prop where
  lt : b < w.heap.size
  glt : ∀ i, i < n → gr i < w.heap.size
  row : ∀ i, i < n → w.cell? ⟨b, off + i, none⟩ = some (.slice (some ⟨gr i, ro i, none⟩) n (cr i))
  val : ∀ i j, i < n → j < n → w.cell? ⟨gr i, ro i + j, none⟩ = some (.int .i64 (mu i j : Nat))
  mlt : ∀ i j, i < n → j < n → mu i j < n

theorem Tbi.below {w w' : World} {b off : Nat} {gr ro cr : Nat → Nat} {n : Nat} {mu : Nat → Nat → Nat} (h : Tbi w b off gr ro cr n mu) (hb : Below w.heap.size w w') : Tbi w' b off gr ro cr n mu :=
  ⟨Nat.lt_of_lt_of_le h.lt hb.size, fun i hi => Nat.lt_of_lt_of_le (h.glt i hi) hb.size, fun i hi => (hb.cell (p := ⟨b, off + i, none⟩) h.lt).trans (h.row i hi), fun i j hi hj => (hb.cell (p := ⟨gr i, ro i + j, none⟩) (h.glt i hi)).trans (h.val i j hi hj), h.mlt⟩

def TbA (w : World) (a : Option Addr) (n : Nat) (mu : Nat → Nat → Nat) : Prop := ∃ b off gr ro cr, a = some ⟨b, off, none⟩ ∧ Tbi w b off gr ro cr n mu

theorem TbA.below {w w' : World} {a : Option Addr} {n : Nat} {mu : Nat → Nat → Nat} (h : TbA w a n mu) (hb : Below w.heap.size w w') : TbA w' a n mu := by
  obtain ⟨b, off, gr, ro, cr, ha, ht⟩ := h
  exact ⟨b, off, gr, ro, cr, ha, ht.below hb⟩

theorem InRowL.tbl {w : World} {a : Option Addr} {LL : List (List Int)} (h : InRowL w a LL) (ht : tblB LL = true) : TbA w a LL.length (mp LL) := by
  obtain ⟨h1, h2⟩ := tblB_n ht
  obtain ⟨b, off, ha, hlt, hc⟩ := h.resolve_left (fun e => by rw [e] at h1; simp at h1)
  have hr : ∀ i, i < LL.length → ∃ g o c, w.cell? ⟨b, off + i, none⟩ = some (.slice (some ⟨g, o, none⟩) LL.length c) ∧ g < w.heap.size ∧ ∀ j, j < LL.length → w.cell? ⟨g, o + j, none⟩ = some (.int .i64 ((LL.getD i []).getD j 0)) := fun i hi => by
    obtain ⟨ar, c, e1, e2⟩ := hc i hi
    have hl := (tblB_row ht i hi).1
    obtain ⟨g, o, e3, hg, hcs⟩ := e2.resolve_left (fun e => by rw [e] at hl; simp at hl; omega)
    rw [e3, hl] at e1
    exact ⟨g, o, c, e1, hg, fun j hj => hcs j (by omega)⟩
  have hch : ∀ i, ∃ t : Nat × Nat × Nat, i < LL.length → w.cell? ⟨b, off + i, none⟩ = some (.slice (some ⟨t.1, t.2.1, none⟩) LL.length t.2.2) ∧ t.1 < w.heap.size ∧ ∀ j, j < LL.length → w.cell? ⟨t.1, t.2.1 + j, none⟩ = some (.int .i64 ((LL.getD i []).getD j 0)) := fun i => by
    by_cases hi : i < LL.length
    · obtain ⟨g, o, c, h⟩ := hr i hi
      exact ⟨(g, o, c), fun _ => h⟩
    · exact ⟨(0, 0, 0), fun h => absurd h hi⟩
  have hT := fun i => Classical.choose_spec (hch i)
  refine ⟨b, off, fun i => (Classical.choose (hch i)).1, fun i => (Classical.choose (hch i)).2.1, fun i => (Classical.choose (hch i)).2.2, ha, hlt, fun i hi => (hT i hi).2.1, fun i hi => (hT i hi).1, fun i j hi hj => ?_, fun i j hi hj => (tblB_val ht i j hi hj).2⟩
  rw [(hT i hi).2.2 j hj, (tblB_val ht i j hi hj).1]

set_option maxRecDepth 100000 in
set_option maxHeartbeats 2000000 in
theorem sis8_any (LL : List (List Int)) (hn : LL.length ≤ 1048576) (hl : ∀ j, j < LL.length → (LL.getD j []).length ≤ 1048576) (a : Option Addr) (c : Nat) (w : World) (h : InRowL w a LL) :
    Calls Try.prog 72 #[.slice a LL.length c] w fun e w' => e = .returned (.bool (tblB LL)) ∧ Below w.heap.size w w' := by
  have HN := Lib.hid h
  have HL := Lib.hid hl
  clear h hl
  by_cases h1 : LL.length < 1
  · have HF := Lib.hid (tblB_size (LL := LL) (by omega))
    go_enter Try.func72, Try.ntmps72
    go_wp2_with fail
    go_ret
    exact ⟨ret_b HF.out.symm, Below.refl _ _⟩
  by_cases h2 : 40 < LL.length
  · have HF := Lib.hid (tblB_size (LL := LL) (by omega))
    go_enter Try.func72, Try.ntmps72
    go_wp2_with fail
    go_ret
    exact ⟨ret_b HF.out.symm, Below.refl _ _⟩
  go_enter Try.func72, Try.ntmps72
  go_wp2_with fail
  go_loopw [4, 5] (fun i _ wr => ∃ k : Nat, k ≤ LL.length ∧ i = .int .i64 k ∧ (∀ j, j < k → (LL.getD j []).length = LL.length ∧ belB (LL.length : Int) (LL.getD j []) = true) ∧ Below w.heap.size w wr) (fun i _ _ => LL.length - (intOf i).toNat)
  case atStart => exact ⟨0, by omega, rfl, fun j hj => by omega, Below.refl _ _⟩
  case round =>
    obtain ⟨k, hk, rfl, hok, hb⟩ := hrel
    have HB := Lib.hid hb
    have HOK := Lib.hid hok
    have hsz := hb.size
    clear hb hok
    obtain ⟨wo, hwo⟩ : ∃ wo, wo = wr := ⟨_, rfl⟩
    subst hwo
    by_cases hkl : k < LL.length
    · have hkl' : (k : Int) < (LL.length : Int) := by omega
      obtain ⟨b, off, rfl, hlt, hc⟩ := (HN.out.below HB.out).resolve_left (fun e => by rw [e] at hkl; simp at hkl)
      obtain ⟨ar, cr, e1, e2⟩ := hc k hkl
      have HR := Lib.hid e2
      have hBAD := Lib.hid (tblB_bad k hkl)
      have HSTEP : Hid ((LL.getD k []).length = LL.length ∧ belB (LL.length : Int) (LL.getD k []) = true → ∀ j, j < k + 1 → (LL.getD j []).length = LL.length ∧ belB (LL.length : Int) (LL.getD j []) = true) := Lib.hid fun h j hj => by
        by_cases e : j = k
        · rw [e]; exact h
        · exact HOK.out j (by omega)
      have hlen := HL.out k hkl
      clear hc e2
      generalize LL.getD k [] = X at *
      by_cases hX : X.length = LL.length
      · rw [hX] at e1
        have hne : (LL.length : Int) ≠ 0 := by omega
        go_wp2_with fail
        go_loopw [5] (fun q wr => ∃ j : Nat, j ≤ LL.length ∧ q = .int .i64 j ∧ (∀ i, i < j → 0 ≤ X.getD i 0 ∧ X.getD i 0 < (LL.length : Int)) ∧ Below w.heap.size w wr ∧ Below wo.heap.size wo wr) (fun q _ => LL.length - (intOf q).toNat)
        case atStart => exact ⟨0, by omega, rfl, fun i hi => by omega, HB.out, Below.refl _ _⟩
        case round =>
          obtain ⟨j, hj, rfl, hok2, hb2, hb3⟩ := hrel
          have HB2 := Lib.hid hb2
          have HB3 := Lib.hid hb3
          have HOK2 := Lib.hid hok2
          clear hb2 hb3 hok2
          by_cases hjl : j < LL.length
          · have hjl' : (j : Int) < (LL.length : Int) := by omega
            have e1 := (HB3.out.cell (p := ⟨b, off + k, none⟩) hlt).trans e1
            obtain ⟨g, o, rfl, hg, hcs⟩ := (HR.out.below HB3.out).resolve_left (fun e => by rw [e] at hX; simp at hX; omega)
            have e3 := hcs j (by omega)
            have HBF := Lib.hid (belB_false (n := (LL.length : Int)) (W := X) j (by omega))
            have HGO : Hid (0 ≤ X.getD j 0 ∧ X.getD j 0 < (LL.length : Int) → ∀ i, i < j + 1 → 0 ≤ X.getD i 0 ∧ X.getD i 0 < (LL.length : Int)) := Lib.hid fun h i hi => by
              by_cases e : i = j
              · rw [e]; exact h
              · exact HOK2.out i (by omega)
            clear hcs
            generalize X.getD j 0 = Z at *
            have HIN := Lib.hid fun w => in_any Z 0 ((LL.length : Int) - 1) w
            by_cases hZ : 0 ≤ Z ∧ Z < (LL.length : Int)
            · have hin : inB Z 0 ((LL.length : Int) - 1) = true := inB_true.2 (by omega)
              rw [hin] at HIN
              have HGO := Lib.hid (HGO.out hZ)
              clear hin hZ HBF
              go_wp2_with fail
              refine (HIN.out _).mono ?_
              rintro e w5 ⟨rfl, rfl⟩
              go_wp2_with fail
              go_roundw
              case rel => exact ⟨j + 1, by omega, by go_num, HGO.out, HB2.out, HB3.out⟩
              case measure => simp [intOf]; omega
            · have hin : inB Z 0 ((LL.length : Int) - 1) = false := by
                rw [Bool.eq_false_iff]; intro hin; exact hZ (by have := inB_true.1 hin; omega)
              rw [hin] at HIN
              have HF := Lib.hid (hBAD.out (fun h => by rw [HBF.out hZ] at h; exact Bool.false_ne_true h.2))
              clear hin hZ HBF HGO
              go_wp2_with fail
              refine (HIN.out _).mono ?_
              rintro e w5 ⟨rfl, rfl⟩
              go_wp2_with fail
              go_ret
              exact ⟨ret_b HF.out.symm, HB2.out⟩
          · obtain rfl : j = LL.length := by omega
            have HST := Lib.hid (HSTEP.out ⟨hX, belB_true (fun i hi => HOK2.out i (by omega))⟩)
            go_wp2_with fail
            go_roundw
            case rel => exact ⟨k + 1, by omega, by go_num, HST.out, HB2.out⟩
            case measure => simp [intOf]; omega
      · have HF := Lib.hid (hBAD.out (fun h => hX h.1))
        have hq : ((X.length : Int) != (LL.length : Int)) = true := by simp; omega
        have hq2 : ¬ ((X.length : Int) = (LL.length : Int)) := by omega
        clear hX
        go_wp2_with fail
        go_ret
        exact ⟨ret_b HF.out.symm, HB.out⟩
    · obtain rfl : k = LL.length := by omega
      have HT := Lib.hid (tblB_good (by omega) (by omega) HOK.out)
      go_wp2_with fail
      go_ret
      exact ⟨ret_b HT.out.symm, HB.out⟩

set_option maxRecDepth 100000 in
set_option maxHeartbeats 2000000 in
theorem iis8_any (LL : List (List Int)) (hn : LL.length ≤ 1048576) (hl : ∀ j, j < LL.length → (LL.getD j []).length ≤ 1048576) (a : Option Addr) (c : Nat) (w : World) (h : InRowL w a LL) :
    Calls Try.prog 74 #[.slice a LL.length c] w fun e w' => e = .returned (.bool (tblB LL)) ∧ Below w.heap.size w w' := by
  have HN := Lib.hid h
  have HL := Lib.hid hl
  clear h hl
  by_cases h1 : LL.length < 1
  · have HF := Lib.hid (tblB_size (LL := LL) (by omega))
    go_enter Try.func74, Try.ntmps74
    go_wp2_with fail
    go_ret
    exact ⟨ret_b HF.out.symm, Below.refl _ _⟩
  by_cases h2 : 40 < LL.length
  · have HF := Lib.hid (tblB_size (LL := LL) (by omega))
    go_enter Try.func74, Try.ntmps74
    go_wp2_with fail
    go_ret
    exact ⟨ret_b HF.out.symm, Below.refl _ _⟩
  go_enter Try.func74, Try.ntmps74
  go_wp2_with fail
  go_loopw [5, 16] (fun _ i wr => ∃ k : Nat, k ≤ LL.length ∧ i = .int .i64 k ∧ (∀ j, j < k → (LL.getD j []).length = LL.length ∧ belB (LL.length : Int) (LL.getD j []) = true) ∧ wr = w) (fun _ i _ => LL.length - (intOf i).toNat)
  case atStart => exact ⟨0, by omega, rfl, fun j hj => by omega, rfl⟩
  case round =>
    obtain ⟨k, hk, rfl, hok, rfl⟩ := hrel
    have HOK := Lib.hid hok
    clear hok
    by_cases hkl : k < LL.length
    · have hkl' : (k : Int) < (LL.length : Int) := by omega
      obtain ⟨b, off, rfl, hlt, hc⟩ := HN.out.resolve_left (fun e => by rw [e] at hkl; simp at hkl)
      obtain ⟨ar, cr, e1, e2⟩ := hc k hkl
      have hBAD := Lib.hid (tblB_bad k hkl)
      have HSTEP : Hid ((LL.getD k []).length = LL.length ∧ belB (LL.length : Int) (LL.getD k []) = true → ∀ j, j < k + 1 → (LL.getD j []).length = LL.length ∧ belB (LL.length : Int) (LL.getD j []) = true) := Lib.hid fun h j hj => by
        by_cases e : j = k
        · rw [e]; exact h
        · exact HOK.out j (by omega)
      have HBE := Lib.hid (below_any (LL.length : Int) (LL.getD k []) (HL.out k hkl) ar cr wr e2)
      clear hc e2
      generalize LL.getD k [] = X at *
      by_cases hX : X.length = LL.length
      · rw [hX] at e1 HBE
        cases hbv : belB (LL.length : Int) X
        · have HF := Lib.hid (hBAD.out (fun h => by rw [hbv] at h; exact Bool.false_ne_true h.2))
          rw [hbv] at HBE
          clear hbv HSTEP hBAD
          go_wp2_with fail
          refine HBE.out.mono ?_
          rintro e w5 ⟨rfl, rfl⟩
          go_wp2_with fail
          go_ret
          exact ⟨ret_b HF.out.symm, Below.refl _ _⟩
        · have HST := Lib.hid (HSTEP.out ⟨hX, hbv⟩)
          rw [hbv] at HBE
          clear hbv HSTEP hBAD
          go_wp2_with fail
          refine HBE.out.mono ?_
          rintro e w5 ⟨rfl, rfl⟩
          go_wp2_with fail
          go_roundw
          case rel => exact ⟨k + 1, by omega, by go_num, HST.out, trivial⟩
          case measure => simp [intOf]; omega
      · have HF := Lib.hid (hBAD.out (fun h => hX h.1))
        have hq : ((X.length : Int) != (LL.length : Int)) = true := by simp; omega
        have hq2 : ¬ ((X.length : Int) = (LL.length : Int)) := by omega
        clear hX
        go_wp2_with fail
        go_ret
        exact ⟨ret_b HF.out.symm, Below.refl _ _⟩
    · obtain rfl : k = LL.length := by omega
      have HT := Lib.hid (tblB_good (by omega) (by omega) HOK.out)
      go_wp2_with fail
      go_ret
      exact ⟨ret_b HT.out.symm, Below.refl _ _⟩

end Go.Proofs.Ytgiefgbpcjoieaa
