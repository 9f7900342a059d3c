/- The closure of impl.ProductTable. -/
import Derived.Test.YtgiefgbpcjoieaaTby
import Derived.Test.YtgiefgbpcjoieaaOpi
import Derived.Deep.RegionHeld3
namespace Go.Proofs.Ytgiefgbpcjoieaa
open Go Go.RowKit

/-- The products of a product of two tables. -/
def prF (m : Nat) (mu nu : Nat → Nat → Nat) (x y : Nat) : Int := (m : Int) * (mu (x / m) (y / m) : Int) + (nu (x % m) (y % m) : Int)

theorem tdiv_nat (x m : Nat) : Int.tdiv (x : Int) (m : Int) = ((x / m : Nat) : Int) := rfl
theorem tmod_nat (x m : Nat) : Int.tmod (x : Int) (m : Int) = ((x % m : Nat) : Int) := rfl

set_option maxRecDepth 100000 in
set_option maxHeartbeats 4000000 in
theorem prq_any (n m : Nat) (hm1 : 1 ≤ m) (hN : n * m ≤ 40) (mu nu : Nat → Nat → Nat) (bm bx by_ : Nat) (b1 o1 : Nat) (g1 r1 d1 : Nat → Nat) (c1 : Nat) (b2 o2 : Nat) (g2 r2 d2 : Nat → Nat) (c2 : Nat) (w : World) (h0 : w.heap[bm]? = some (.cells #[.int .i64 (m : Nat)] 2 (0, 0))) (hx : w.heap[bx]? = some (.cells #[.slice (some ⟨b1, o1, none⟩) n c1] 43 (0, 0))) (hy : w.heap[by_]? = some (.cells #[.slice (some ⟨b2, o2, none⟩) m c2] 43 (0, 0))) (ht : Tbi w b1 o1 g1 r1 d1 n mu) (hu : Tbi w b2 o2 g2 r2 d2 m nu) :
    Tells2 w (n * m) (prF m mu nu) 82 #[.pointer (some ⟨bm, 0, none⟩), .pointer (some ⟨bx, 0, none⟩), .pointer (some ⟨by_, 0, none⟩)] := by
  intro i j hi hj z hz
  have hT := ht.below hz
  have hU := hu.below hz
  have e0 := Joins.cell_of_block ((hz.block _ (Array.getElem?_eq_some_iff.1 h0).1).trans h0) 0
  have ex := Joins.cell_of_block ((hz.block _ (Array.getElem?_eq_some_iff.1 hx).1).trans hx) 0
  have ey := Joins.cell_of_block ((hz.block _ (Array.getElem?_eq_some_iff.1 hy).1).trans hy) 0
  simp only [List.getElem?_toArray, List.getElem?_cons_zero] at e0 ex ey
  obtain ⟨qi, hqi⟩ : ∃ q, q = i / m := ⟨_, rfl⟩
  obtain ⟨qj, hqj⟩ : ∃ q, q = j / m := ⟨_, rfl⟩
  obtain ⟨si, hsi⟩ : ∃ q, q = i % m := ⟨_, rfl⟩
  obtain ⟨sj, hsj⟩ : ∃ q, q = j % m := ⟨_, rfl⟩
  have li : qi < n := by rw [hqi]; exact Nat.div_lt_of_lt_mul (by rw [Nat.mul_comm]; exact hi)
  have lj : qj < n := by rw [hqj]; exact Nat.div_lt_of_lt_mul (by rw [Nat.mul_comm]; exact hj)
  have ki : si < m := by rw [hsi]; exact Nat.mod_lt _ hm1
  have kj : sj < m := by rw [hsj]; exact Nat.mod_lt _ hm1
  have t1 : Int.tdiv (i : Int) (m : Int) = (qi : Int) := by rw [tdiv_nat, hqi]
  have t2 : Int.tdiv (j : Int) (m : Int) = (qj : Int) := by rw [tdiv_nat, hqj]
  have t3 : Int.tmod (i : Int) (m : Int) = (si : Int) := by rw [tmod_nat, hsi]
  have t4 : Int.tmod (j : Int) (m : Int) = (sj : Int) := by rw [tmod_nat, hsj]
  have a1 := hT.row qi li
  have a2 := hT.val qi qj li lj
  have a3 := hU.row si ki
  have a4 := hU.val si sj ki kj
  have m1 := hT.mlt qi qj li lj
  have m2 := hU.mlt si sj ki kj
  have HV : Hid (prF m mu nu i j = (m : Int) * (mu qi qj : Int) + (nu si sj : Int)) := Lib.hid (by unfold prF; rw [← hqi, ← hqj, ← hsi, ← hsj])
  have hn40 : n ≤ 40 := Nat.le_trans (Nat.le_mul_of_pos_right n hm1) hN
  have hm40 : m ≤ 40 := Nat.le_trans (Nat.le_mul_of_pos_left m (by omega)) hN
  clear hT hU ht hu h0 hx hy hz hqi hqj hsi hsj
  generalize mu qi qj = X at *
  generalize nu si sj = Y at *
  have hp0 : (m : Int) * (X : Int) ≤ 40 * 40 := Int.mul_le_mul (by omega) (by omega) (by omega) (by omega)
  have hp1 : 0 ≤ (m : Int) * (X : Int) := Int.mul_nonneg (by omega) (by omega)
  have hw1 : IntKind.i64.wrap ((m : Int) * (X : Int)) = (m : Int) * (X : Int) := IntWalk.i64_in _ (by omega)
  have hw2 : IntKind.i64.wrap ((m : Int) * (X : Int) + (Y : Int)) = (m : Int) * (X : Int) + (Y : Int) := IntWalk.i64_in _ (by omega)
  have li' : (qi : Int) < (n : Int) := by omega
  have lj' : (qj : Int) < (n : Int) := by omega
  have ki' : (si : Int) < (m : Int) := by omega
  have kj' : (sj : Int) < (m : Int) := by omega
  have hm0 : ¬ ((m : Int) = 0) := by omega
  simp only [List.append_toArray, List.cons_append, List.nil_append]
  go_enter Try.func82, Try.ntmps82
  go_wp2_with fail
  go_quiet (fail)
  go_wp2_with fail
  go_ret
  exact ⟨ret_i HV.out.symm, below_drewN (Below.refl _ _) _⟩

theorem prq_enters : ∀ args w, (callFunc 82 args).run Try.prog w = .ok (.enter 82 args) w := enters_of Try.func82 (by kernel_rfl) rfl

def prL (A B : List (List Int)) : List (List Int) := if tblB A = true ∧ tblB B = true ∧ A.length * B.length ≤ 40 then tbL (prF B.length (mp A) (mp B)) (A.length * B.length) (A.length * B.length) else []
def prC (A B : List (List Int)) : Int := if tblB A = true then (if tblB B = true then (if A.length * B.length ≤ 40 then 0 else 3) else 2) else 2
theorem prC_a {A B : List (List Int)} (h : tblB A = false) : prC A B = 2 := by unfold prC; rw [h]; rfl
theorem prC_b {A B : List (List Int)} (h : tblB A = true) (h2 : tblB B = false) : prC A B = 2 := by unfold prC; rw [h, h2]; rfl
theorem prC_n {A B : List (List Int)} (h : tblB A = true) (h2 : tblB B = true) (h3 : ¬ A.length * B.length ≤ 40) : prC A B = 3 := by unfold prC; rw [if_pos h, if_pos h2, if_neg h3]
theorem prC_0 {A B : List (List Int)} (h : tblB A = true) (h2 : tblB B = true) (h3 : A.length * B.length ≤ 40) : prC A B = 0 := by unfold prC; rw [if_pos h, if_pos h2, if_pos h3]
theorem prL_a {A B : List (List Int)} (h : tblB A = false) : prL A B = [] := by unfold prL; rw [h]; simp
theorem prL_b {A B : List (List Int)} (h : tblB B = false) : prL A B = [] := by unfold prL; rw [h]; simp
theorem prL_n {A B : List (List Int)} (h : ¬ A.length * B.length ≤ 40) : prL A B = [] := by unfold prL; rw [if_neg (fun q => h q.2.2)]
theorem prL_0 {A B : List (List Int)} (h : tblB A = true) (h2 : tblB B = true) (h3 : A.length * B.length ≤ 40) : prL A B = tbL (prF B.length (mp A) (mp B)) (A.length * B.length) (A.length * B.length) := by unfold prL; rw [if_pos ⟨h, h2, h3⟩]

set_option maxRecDepth 100000 in
set_option maxHeartbeats 4000000 in
theorem iPrt_any (A : List (List Int)) (hn : A.length ≤ 1048576) (hl : ∀ j, j < A.length → (A.getD j []).length ≤ 1048576) (B : List (List Int)) (hn2 : B.length ≤ 1048576) (hl2 : ∀ j, j < B.length → (B.getD j []).length ≤ 1048576) (a1 : Option Addr) (c1 : Nat) (a2 : Option Addr) (c2 : Nat) (w : World) (h1 : InRowL w a1 A) (h2 : InRowL w a2 B) :
    Calls Try.prog 50 #[.slice a1 A.length c1, .slice a2 B.length c2] w (RetT w.heap.size (prL A B) (prC A B) w) := by
  have HA := Lib.hid fun wx (hb : Below w.heap.size w wx) => iis8_any A hn hl a1 c1 wx (h1.below hb)
  have HB := Lib.hid fun wx (hb : Below w.heap.size w wx) => iis8_any B hn2 hl2 a2 c2 wx (h2.below hb)
  obtain ⟨wb, hwb⟩ : ∃ wb, wb = (w.alloc (.cells #[.slice a1 A.length c1] 43)).alloc (.cells #[.slice a2 B.length c2] 43) := ⟨_, rfl⟩
  have HWB : Hid (Below w.heap.size w wb) := Lib.hid (by rw [hwb]; exact ((Below.refl _ _).alloc (Nat.le_refl _) _).alloc (by simp) _)
  have hxb : wb.heap[w.heap.size]? = some (.cells #[.slice a1 A.length c1] 43 (0, 0)) := by rw [hwb]; exact (halloc_lt _ _ _ (by simp)).trans (halloc_at _ _ _ rfl)
  have hyb : wb.heap[w.heap.size + 1]? = some (.cells #[.slice a2 B.length c2] 43 (0, 0)) := by rw [hwb]; exact halloc_at _ _ _ (by simp)
  have hwz : w.heap.size + 2 ≤ wb.heap.size := by rw [hwb]; simp
  have HXB := Lib.hid hxb
  have HYB := Lib.hid hyb
  have f0 := Joins.cell_of_block hxb 0
  have f1 := Joins.cell_of_block hyb 0
  simp only [List.getElem?_toArray, List.getElem?_cons_zero] at f0 f1
  clear hxb hyb
  cases hA : tblB A
  · rw [hA] at HA
    rw [prL_a hA, prC_a hA]
    clear hA h1 h2 hl hl2
    go_enter Try.func50, Try.ntmps50
    go_wp2_with fail
    rw [← hwb]
    clear hwb
    go_wp2_with fail
    refine (HA.out _ HWB.out).mono ?_
    rintro e w1 ⟨rfl, hb⟩
    have HB1 : Hid (Below w.heap.size w w1) := Lib.hid (HWB.out.trans (hb.mono (by omega)))
    clear hb
    go_wp2_with fail
    go_ret2
    exact retT_nil HB1.out 2
  cases hB : tblB B
  · rw [hA] at HA
    rw [hB] at HB
    rw [prL_b hB, prC_b hA hB]
    clear hA hB h1 h2 hl hl2
    go_enter Try.func50, Try.ntmps50
    go_wp2_with fail
    rw [← hwb]
    clear hwb
    go_wp2_with fail
    refine (HA.out _ HWB.out).mono ?_
    rintro e w1 ⟨rfl, hb⟩
    have hz1 := hb.size
    have HB1 : Hid (Below w.heap.size w w1) := Lib.hid (HWB.out.trans (hb.mono (by omega)))
    have hxb := (hb.block _ (by omega)).trans HXB.out
    have hyb := (hb.block _ (by omega)).trans HYB.out
    have HXB := Lib.hid hxb
    have HYB := Lib.hid hyb
    have f0 := Joins.cell_of_block hxb 0
    have f1 := Joins.cell_of_block hyb 0
    simp only [List.getElem?_toArray, List.getElem?_cons_zero] at f0 f1
    clear hb hxb hyb
    go_wp2_with fail
    refine (HB.out _ HB1.out).mono ?_
    rintro e w2 ⟨rfl, hb⟩
    have hz2 := hb.size
    have HB2 : Hid (Below w.heap.size w w2) := Lib.hid (HB1.out.trans (hb.mono (by omega)))
    have hxb := (hb.block _ (by omega)).trans HXB.out
    have hyb := (hb.block _ (by omega)).trans HYB.out
    have HXB := Lib.hid hxb
    have HYB := Lib.hid hyb
    have f0 := Joins.cell_of_block hxb 0
    have f1 := Joins.cell_of_block hyb 0
    simp only [List.getElem?_toArray, List.getElem?_cons_zero] at f0 f1
    clear hb hxb hyb
    go_wp2_with fail
    go_ret2
    exact retT_nil HB2.out 2
  have hnA := tblB_n hA
  have hnB := tblB_n hB
  obtain ⟨N, hN⟩ : ∃ N : Nat, N = A.length * B.length := ⟨_, rfl⟩
  have hNI : (A.length : Int) * (B.length : Int) = (N : Int) := by rw [hN]; simp
  have hN9 : N ≤ 1600 := by rw [hN]; exact Nat.mul_le_mul hnA.2 hnB.2
  have hwr : IntKind.i64.wrap (N : Int) = (N : Int) := IntWalk.i64_in _ (by omega)
  by_cases h40 : A.length * B.length ≤ 40
  rotate_left
  · rw [hA] at HA
    rw [hB] at HB
    rw [prL_n h40, prC_n hA hB h40]
    rw [← hN] at h40
    clear hA hB h1 h2 hl hl2 hN
    go_enter Try.func50, Try.ntmps50
    go_wp2_with fail
    rw [← hwb]
    clear hwb
    go_wp2_with fail
    refine (HA.out _ HWB.out).mono ?_
    rintro e w1 ⟨rfl, hb⟩
    have hz1 := hb.size
    have HB1 : Hid (Below w.heap.size w w1) := Lib.hid (HWB.out.trans (hb.mono (by omega)))
    have hxb := (hb.block _ (by omega)).trans HXB.out
    have hyb := (hb.block _ (by omega)).trans HYB.out
    have HXB := Lib.hid hxb
    have HYB := Lib.hid hyb
    have f0 := Joins.cell_of_block hxb 0
    have f1 := Joins.cell_of_block hyb 0
    simp only [List.getElem?_toArray, List.getElem?_cons_zero] at f0 f1
    clear hb hxb hyb
    go_wp2_with fail
    refine (HB.out _ HB1.out).mono ?_
    rintro e w2 ⟨rfl, hb⟩
    have hz2 := hb.size
    have HB2 : Hid (Below w.heap.size w w2) := Lib.hid (HB1.out.trans (hb.mono (by omega)))
    have hxb := (hb.block _ (by omega)).trans HXB.out
    have hyb := (hb.block _ (by omega)).trans HYB.out
    have HXB := Lib.hid hxb
    have HYB := Lib.hid hyb
    have f0 := Joins.cell_of_block hxb 0
    have f1 := Joins.cell_of_block hyb 0
    simp only [List.getElem?_toArray, List.getElem?_cons_zero] at f0 f1
    clear hb hxb hyb
    go_wp2_with fail
    have HG0 := Lib.hid fun z (h : Below w2.heap.size w2 z) => (h.cell (p := ⟨w.heap.size, 0, none⟩) (show w.heap.size < _ by omega)).trans f0
    have HG1 := Lib.hid fun z (h : Below w2.heap.size w2 z) => (h.cell (p := ⟨w.heap.size + 1, 0, none⟩) (show w.heap.size + 1 < _ by omega)).trans f1
    go_region_held3 (fun w' => w'.cell? ⟨w.heap.size, 0, none⟩ = some (.slice a1 A.length c1) ∧ w'.cell? ⟨w.heap.size + 1, 0, none⟩ = some (.slice a2 B.length c2)) (first | exact ⟨f0, f1⟩ | exact ⟨HG0.out _ (by (repeat' (first | (with_reducible exact Below.refl _ _) | (with_reducible refine Below.alloc ?_ ?_ _) | (with_reducible refine Below.setCell ?_ ?_ _) | (with_reducible refine Below.drew ?_) | (with_reducible refine below_drewN ?_ _) | (with_reducible refine Below.trans ?_ (Below.mono (Hid.out (by assumption)) ?_)) | omega | (simp; done) | (simp; omega)))), HG1.out _ (by (repeat' (first | (with_reducible exact Below.refl _ _) | (with_reducible refine Below.alloc ?_ ?_ _) | (with_reducible refine Below.setCell ?_ ?_ _) | (with_reducible refine Below.drew ?_) | (with_reducible refine below_drewN ?_ _) | (with_reducible refine Below.trans ?_ (Below.mono (Hid.out (by assumption)) ?_)) | omega | (simp; done) | (simp; omega))))⟩) (fail)
    obtain ⟨w3, hw3⟩ : ∃ w3, w3 = (w2.alloc (.cells #[.int .i64 (B.length : Nat)] 2)).drew := ⟨_, rfl⟩
    have HB3 : Hid (Below w2.heap.size w2 w3) := Lib.hid (by rw [hw3]; exact ((Below.refl _ _).alloc (Nat.le_refl _) _).drew)
    have hmb : w3.heap[w2.heap.size]? = some (.cells #[.int .i64 (B.length : Nat)] 2 (0, 0)) := by rw [hw3]; exact halloc_at _ _ _ rfl
    have hz3 : w2.heap.size < w3.heap.size := (Array.getElem?_eq_some_iff.1 hmb).1
    have f2 := Joins.cell_of_block hmb 0
    simp only [List.getElem?_toArray, List.getElem?_cons_zero] at f2
    have HMB := Lib.hid hmb
    rw [← hw3]
    clear hw3 hmb f0 f1
    have h40' : (40 : Int) < (N : Int) := by omega
    go_wp2_with fail
    go_ret2
    exact retT_nil (HB2.out.trans (HB3.out.mono (by omega))) 3
  have hTA := h1.tbl hA
  have hTB := h2.tbl hB
  rw [hA] at HA
  rw [hB] at HB
  rw [prL_0 hA hB h40, prC_0 hA hB h40]
  have HLN := Lib.hid (tbL_len (prF B.length (mp A) (mp B)) N N)
  have HPR := Lib.hid fun bm bx by_ b1 o1 g1 r1 d1 c1 b2 o2 g2 r2 d2 c2 w q1 q2 q3 q4 q5 => prq_any A.length B.length hnB.1 h40 (mp A) (mp B) bm bx by_ b1 o1 g1 r1 d1 c1 b2 o2 g2 r2 d2 c2 w q1 q2 q3 q4 q5
  have hN1 : 1 ≤ N := by rw [hN]; exact Nat.mul_le_mul hnA.1 hnB.1
  rw [← hN] at h40 HPR ⊢
  obtain ⟨b1, o1, g1, r1, d1, rfl, hT1⟩ := hTA
  obtain ⟨b2, o2, g2, r2, d2, rfl, hT2⟩ := hTB
  have HT1 := Lib.hid hT1
  have HT2 := Lib.hid hT2
  clear hA hB h1 h2 hl hl2 hN hT1 hT2 hn hn2
  generalize prF B.length (mp A) (mp B) = f at *
  generalize mp A = mu at *
  generalize mp B = nu at *
  go_enter Try.func50, Try.ntmps50
  go_wp2_with fail
  rw [← hwb]
  clear hwb
  go_wp2_with fail
  refine (HA.out _ HWB.out).mono ?_
  rintro e w1 ⟨rfl, hb⟩
  have hz1 := hb.size
  have HB1 : Hid (Below w.heap.size w w1) := Lib.hid (HWB.out.trans (hb.mono (by omega)))
  have hxb := (hb.block _ (by omega)).trans HXB.out
  have hyb := (hb.block _ (by omega)).trans HYB.out
  have HXB := Lib.hid hxb
  have HYB := Lib.hid hyb
  have f0 := Joins.cell_of_block hxb 0
  have f1 := Joins.cell_of_block hyb 0
  simp only [List.getElem?_toArray, List.getElem?_cons_zero] at f0 f1
  clear hb hxb hyb
  go_wp2_with fail
  refine (HB.out _ HB1.out).mono ?_
  rintro e w2 ⟨rfl, hb⟩
  have hz2 := hb.size
  have HB2 : Hid (Below w.heap.size w w2) := Lib.hid (HB1.out.trans (hb.mono (by omega)))
  have hxb := (hb.block _ (by omega)).trans HXB.out
  have hyb := (hb.block _ (by omega)).trans HYB.out
  have HXB := Lib.hid hxb
  have HYB := Lib.hid hyb
  have f0 := Joins.cell_of_block hxb 0
  have f1 := Joins.cell_of_block hyb 0
  simp only [List.getElem?_toArray, List.getElem?_cons_zero] at f0 f1
  clear hb hxb hyb
  go_wp2_with fail
  have HG0 := Lib.hid fun z (h : Below w2.heap.size w2 z) => (h.cell (p := ⟨w.heap.size, 0, none⟩) (show w.heap.size < _ by omega)).trans f0
  have HG1 := Lib.hid fun z (h : Below w2.heap.size w2 z) => (h.cell (p := ⟨w.heap.size + 1, 0, none⟩) (show w.heap.size + 1 < _ by omega)).trans f1
  go_region_held3 (fun w' => w'.cell? ⟨w.heap.size, 0, none⟩ = some (.slice (some ⟨b1, o1, none⟩) A.length c1) ∧ w'.cell? ⟨w.heap.size + 1, 0, none⟩ = some (.slice (some ⟨b2, o2, none⟩) B.length c2)) (first | exact ⟨f0, f1⟩ | exact ⟨HG0.out _ (by (repeat' (first | (with_reducible exact Below.refl _ _) | (with_reducible refine Below.alloc ?_ ?_ _) | (with_reducible refine Below.setCell ?_ ?_ _) | (with_reducible refine Below.drew ?_) | (with_reducible refine below_drewN ?_ _) | (with_reducible refine Below.trans ?_ (Below.mono (Hid.out (by assumption)) ?_)) | omega | (simp; done) | (simp; omega)))), HG1.out _ (by (repeat' (first | (with_reducible exact Below.refl _ _) | (with_reducible refine Below.alloc ?_ ?_ _) | (with_reducible refine Below.setCell ?_ ?_ _) | (with_reducible refine Below.drew ?_) | (with_reducible refine below_drewN ?_ _) | (with_reducible refine Below.trans ?_ (Below.mono (Hid.out (by assumption)) ?_)) | omega | (simp; done) | (simp; omega))))⟩) (fail)
  obtain ⟨w3, hw3⟩ : ∃ w3, w3 = (w2.alloc (.cells #[.int .i64 (B.length : Nat)] 2)).drew := ⟨_, rfl⟩
  have HB3 : Hid (Below w2.heap.size w2 w3) := Lib.hid (by rw [hw3]; exact ((Below.refl _ _).alloc (Nat.le_refl _) _).drew)
  have hmb : w3.heap[w2.heap.size]? = some (.cells #[.int .i64 (B.length : Nat)] 2 (0, 0)) := by rw [hw3]; exact halloc_at _ _ _ rfl
  have hz3 : w2.heap.size < w3.heap.size := (Array.getElem?_eq_some_iff.1 hmb).1
  have f2 := Joins.cell_of_block hmb 0
  simp only [List.getElem?_toArray, List.getElem?_cons_zero] at f2
  have HMB := Lib.hid hmb
  rw [← hw3]
  clear hw3 hmb f0 f1
  have h40' : ¬ ((40 : Int) < (N : Int)) := by omega
  have hxb := (HB3.out.block _ (by omega)).trans HXB.out
  have hyb := (HB3.out.block _ (by omega)).trans HYB.out
  have HB4 : Hid (Below w.heap.size w w3) := Lib.hid (HB2.out.trans (HB3.out.mono (by omega)))
  have HTE := Lib.hid (HPR.out _ _ _ b1 o1 g1 r1 d1 c1 b2 o2 g2 r2 d2 c2 w3 HMB.out hxb hyb (HT1.out.below HB4.out) (HT2.out.below HB4.out))
  have HTY := Lib.hid (tby_any N hN1 (by omega) f prq_enters w3 HTE.out)
  clear hxb hyb HTE HPR HXB HYB
  go_wp2_with fail
  refine HTY.out.mono ?_
  rintro e w4 ⟨a4, c4, rfl, hr, hb⟩
  have HR := Lib.hid hr
  have HB5 : Hid (Below w.heap.size w w4) := Lib.hid (HB4.out.trans (hb.mono (by omega)))
  clear hr hb
  go_wp2_with fail
  go_ret2
  exact retT_of HLN.out HR.out (by omega) (mkF_tb300 f (by omega)) HB5.out

end Go.Proofs.Ytgiefgbpcjoieaa
