/- Lists of maps side by side: told without Go, and the contract of spec.SideBySide. -/
import Derived.Test.YtgiefgbpcjoieaaBes
import Derived.Test.YtgiefgbpcjoieaaGiven
import Derived.Test.YtgiefgbpcjoieaaSl
import Derived.Deep.RegionHeld3
namespace Go.Proofs.Ytgiefgbpcjoieaa
open Go Go.RowKit

/-- The call returns a list of maps of its own and a code. -/
def RetMs8 (B : Nat) (L : List MapN) (c : Int) (w : World) (e : Ending) (w' : World) : Prop :=
  ∃ a cap, e = .returned (.tuple #[.slice a L.length cap, .int .i64 c]) ∧ RdM w' B a L ∧ Below w.heap.size w w'

def chB (A : List MapN) : Int := chkC A []
def sbC (A B : List MapN) : Int := if chkC A [] = 1 ∨ chkC B [] = 1 then 1 else if chkC A [] ≠ 0 ∨ chkC B [] ≠ 0 then 2 else if 5 < fst0 A + fst0 B ∨ 6 < A.length + B.length then 3 else 0
/-- What becomes of the first k maps of both lists. -/
def saL (A : List MapN) (n m k : Nat) : List MapN := (List.range k).map fun j => ((n : Int) + (m : Int), sbA n m (A.getD j z0).2)
def sbbL (B : List MapN) (n m k : Nat) : List MapN := (List.range k).map fun j => ((n : Int) + (m : Int), sbB n m (B.getD j z0).2)
def sbL (A B : List MapN) : List MapN := if sbC A B = 0 then saL A (fst0 A).toNat (fst0 B).toNat A.length ++ sbbL B (fst0 A).toNat (fst0 B).toNat B.length else []
theorem saL_len (A : List MapN) (n m k : Nat) : (saL A n m k).length = k := by simp [saL]
theorem sbbL_len (B : List MapN) (n m k : Nat) : (sbbL B n m k).length = k := by simp [sbbL]
theorem saL_succ (A : List MapN) (n m k : Nat) : saL A n m (k + 1) = saL A n m k ++ [((n : Int) + (m : Int), sbA n m (A.getD k z0).2)] := by simp [saL, List.range_succ]
theorem sbbL_succ (B : List MapN) (n m k : Nat) : sbbL B n m (k + 1) = sbbL B n m k ++ [((n : Int) + (m : Int), sbB n m (B.getD k z0).2)] := by simp [sbbL, List.range_succ]
theorem sbL_no {A B : List MapN} (h : sbC A B ≠ 0) : sbL A B = [] := by unfold sbL; rw [if_neg h]
theorem sbL_yes {A B : List MapN} (h : sbC A B = 0) : sbL A B = saL A (fst0 A).toNat (fst0 B).toNat A.length ++ sbbL B (fst0 A).toNat (fst0 B).toNat B.length := by unfold sbL; rw [if_pos h]
theorem sbC_1 {A B : List MapN} (h : chkC A [] = 1 ∨ chkC B [] = 1) : sbC A B = 1 := by unfold sbC; rw [if_pos h]
theorem sbC_2 {A B : List MapN} (h1 : ¬ (chkC A [] = 1 ∨ chkC B [] = 1)) (h : chkC A [] ≠ 0 ∨ chkC B [] ≠ 0) : sbC A B = 2 := by unfold sbC; rw [if_neg h1, if_pos h]
theorem sbC_3 {A B : List MapN} (h1 : chkC A [] = 0) (h2 : chkC B [] = 0) (h : 5 < fst0 A + fst0 B ∨ 6 < A.length + B.length) : sbC A B = 3 := by unfold sbC; rw [if_neg (by omega), if_neg (by omega), if_pos h]
theorem sbC_0 {A B : List MapN} (h1 : chkC A [] = 0) (h2 : chkC B [] = 0) (h : ¬ (5 < fst0 A + fst0 B ∨ 6 < A.length + B.length)) : sbC A B = 0 := by unfold sbC; rw [if_neg (by omega), if_neg (by omega), if_neg h]

/-- What is known of a list that was checked. -/
theorem chk_pts {A : List MapN} (h : chkC A [] = 0) : ∃ n : Nat, fst0 A = (n : Int) ∧ 1 ≤ n ∧ n ≤ 5 ∧ 1 ≤ A.length ∧ A.length ≤ 6 ∧ ∀ k, k < A.length → (A.getD k z0).1 = (n : Int) ∧ isB (n : Int) (A.getD k z0).2 = true := by
  unfold chkC at h
  rw [List.append_nil] at h
  split at h
  · rename_i q1
    split at h
    · rename_i q2
      split at h
      · rename_i q3
        unfold sizeB at q2
        simp only [Bool.and_eq_true, decide_eq_true_eq] at q2
        have h0 := allB_at q1 0 (by omega)
        have hp := isB_pts h0
        have hf : (A.getD 0 z0).1 = fst0 A := rfl
        rw [hf] at hp h0
        refine ⟨(fst0 A).toNat, by omega, by omega, by omega, q2.1, q2.2, fun k hk => ?_⟩
        have e := sameB_at q3 k hk
        have b := allB_at q1 k hk
        rw [e] at b
        rw [show ((fst0 A).toNat : Int) = fst0 A by omega]
        exact ⟨e, b⟩
      · omega
    · omega
  · omega

theorem retMs8_nil {w w' : World} {B : Nat} (hb : Below w.heap.size w w') (C : Int) : RetMs8 B [] C w (.returned (.tuple #[.slice none 0 0, .int .i64 C])) w' :=
  ⟨none, 0, rfl, ⟨by simp, Or.inl rfl⟩, hb⟩

theorem at_oneS {w : World} {b : Nat} {p : Int} {t : Nat → Int} (h : w.heap[b]? = some (.cells (mcells p t) 71 (0, 0))) : ∀ j, j < [(p, t)].length → AtM w b 0 j ([(p, t)].getD j z0) := by
  intro j hj
  obtain rfl : j = 0 := by simp at hj; omega
  obtain ⟨e0, e1, e2, e3, e4, e5⟩ := blk6 h
  exact ⟨e0, e1, e2, e3, e4, e5⟩

theorem ownM_keepS {w w' : World} {B : Nat} {v : Value} {L : List MapN} (h : OwnM w B v L) (hb : Below w.heap.size w w') : OwnM w' B v L := by
  unfold OwnM at *
  exact h.kept (row := none) ⟨hb.os, hb.tape, hb.output, hb.size, fun j hj _ => hb.block j hj⟩ (by cases hv : v.ownBlock <;> simp)

theorem own_emptyS {w : World} {b base : Nat} (h : w.heap[b]? = some (.cells #[] 71 (0, 0))) (hb : base ≤ b) : OwnM w base (.slice (some ⟨b, 0, none⟩) 0 0) [] :=
  ⟨by simp [mcels_nil], Or.inr ⟨b, 0, #[], rfl, hb, h, Nat.le_refl _, Nat.zero_le _, rfl, by simp [mcels_nil]⟩⟩

theorem at6_ptS {w : World} {b o : Nat} {x : MapN} (h : At6 w b o x) {y : Nat} (hy : y < 5) : w.cell? ⟨b, o + 1 + y, none⟩ = some (.int .i64 (x.2 y)) := by
  obtain ⟨_, h0, h1, h2, h3, h4⟩ := h
  rcases (by omega : y = 0 ∨ y = 1 ∨ y = 2 ∨ y = 3 ∨ y = 4) with rfl | rfl | rfl | rfl | rfl
  · exact h0
  · exact h1
  · exact h2
  · exact h3
  · exact h4

/-- The first x points of a map ahead of the points of the second list. -/
def saK (n m : Nat) (f : Nat → Int) (x : Nat) : Nat → Int := fun i => if i < x then f i else idn ((n : Int) + (m : Int)) i
theorem saK_zero (n m : Nat) (f : Nat → Int) : saK n m f 0 = idn ((n : Int) + (m : Int)) := by funext i; unfold saK; rw [if_neg (by omega)]
theorem saK_succ (n m : Nat) (f : Nat → Int) (x : Nat) : upd (saK n m f x) x (f x) = saK n m f (x + 1) := by
  funext i
  unfold upd saK
  by_cases h : i = x
  · subst h; rw [if_pos rfl, if_pos (by omega)]
  · rw [if_neg h]
    by_cases c : i < x
    · rw [if_pos c, if_pos (by omega)]
    · rw [if_neg c, if_neg (by omega)]
theorem saK_all (n m : Nat) (f : Nat → Int) : saK n m f n = sbA n m f := rfl

set_option maxRecDepth 100000 in
set_option maxHeartbeats 8000000 in
theorem sSbs_any (A : List MapN) (hl1 : A.length ≤ 1048576) (B : List MapN) (hl2 : B.length ≤ 1048576) (a1 : Option Addr) (c1 : Nat) (hc1 : a1 = none → c1 = 0) (a2 : Option Addr) (c2 : Nat) (hc2 : a2 = none → c2 = 0) (w : World) (h1 : InRowM w a1 A) (h2 : InRowM w a2 B) :
    Calls Try.prog 55 #[.slice a1 A.length c1, .slice a2 B.length c2] w (RetMs8 w.heap.size (sbL A B) (sbC A B) w) := by
  have HA := Lib.hid (given_any a1 none c1 0 A [] hl1 (by simp) w h1 (Or.inl rfl))
  have HB := Lib.hid fun wx (hb : Below w.heap.size w wx) => given_any a2 none c2 0 B [] hl2 (by simp) wx (h2.below hb) (Or.inl rfl)
  simp only [List.length_nil] at HA HB
  by_cases q1 : chkC A [] = 1 ∨ chkC B [] = 1
  · rw [sbL_no (by rw [sbC_1 q1]; decide), sbC_1 q1]
    obtain ⟨X, hX⟩ : ∃ X, X = chkC A [] := ⟨_, rfl⟩
    obtain ⟨Y, hY⟩ : ∃ Y, Y = chkC B [] := ⟨_, rfl⟩
    rw [← hX] at HA q1
    rw [← hY] at HB q1
    clear hX hY h1 h2
    by_cases hx : X = 1
    · subst hx
      clear q1
      go_enter Try.func55, Try.ntmps55
      go_wp2_with fail
      refine HA.out.mono ?_
      rintro e w1 ⟨rfl, hb⟩
      have HB1 := Lib.hid hb
      have hz1 := hb.size
      clear hb
      go_wp2_with fail
      refine (HB.out _ HB1.out).mono ?_
      rintro e w2 ⟨rfl, hb⟩
      have HB2 : Hid (Below w.heap.size w w2) := Lib.hid (HB1.out.trans (hb.mono hz1))
      have hz2 := HB2.out.size
      clear hb
      go_wp2_with fail
      go_ret2
      exact retMs8_nil HB2.out 1
    · obtain rfl : Y = 1 := by omega
      have hq : (X == 1) = false := by simpa using hx
      clear q1
      go_enter Try.func55, Try.ntmps55
      go_wp2_with fail
      refine HA.out.mono ?_
      rintro e w1 ⟨rfl, hb⟩
      have HB1 := Lib.hid hb
      have hz1 := hb.size
      clear hb
      go_wp2_with fail
      refine (HB.out _ HB1.out).mono ?_
      rintro e w2 ⟨rfl, hb⟩
      have HB2 : Hid (Below w.heap.size w w2) := Lib.hid (HB1.out.trans (hb.mono hz1))
      have hz2 := HB2.out.size
      clear hb
      go_wp2_with fail
      go_ret2
      exact retMs8_nil HB2.out 1
  by_cases q2 : chkC A [] ≠ 0 ∨ chkC B [] ≠ 0
  · rw [sbL_no (by rw [sbC_2 q1 q2]; decide), sbC_2 q1 q2]
    obtain ⟨X, hX⟩ : ∃ X, X = chkC A [] := ⟨_, rfl⟩
    obtain ⟨Y, hY⟩ : ∃ Y, Y = chkC B [] := ⟨_, rfl⟩
    rw [← hX] at HA q1 q2
    rw [← hY] at HB q1 q2
    have hx1 : (X == 1) = false := by simp; omega
    have hy1 : (Y == 1) = false := by simp; omega
    clear hX hY h1 h2 q1
    by_cases hx : X = 0
    · have hy : (Y != 0) = true := by simp; omega
      subst hx
      clear q2
      go_enter Try.func55, Try.ntmps55
      go_wp2_with fail
      refine HA.out.mono ?_
      rintro e w1 ⟨rfl, hb⟩
      have HB1 := Lib.hid hb
      have hz1 := hb.size
      clear hb
      go_wp2_with fail
      refine (HB.out _ HB1.out).mono ?_
      rintro e w2 ⟨rfl, hb⟩
      have HB2 : Hid (Below w.heap.size w w2) := Lib.hid (HB1.out.trans (hb.mono hz1))
      have hz2 := HB2.out.size
      clear hb
      go_wp2_with fail
      go_ret2
      exact retMs8_nil HB2.out 2
    · have hx0 : (X != 0) = true := by simpa using hx
      clear q2
      go_enter Try.func55, Try.ntmps55
      go_wp2_with fail
      refine HA.out.mono ?_
      rintro e w1 ⟨rfl, hb⟩
      have HB1 := Lib.hid hb
      have hz1 := hb.size
      clear hb
      go_wp2_with fail
      refine (HB.out _ HB1.out).mono ?_
      rintro e w2 ⟨rfl, hb⟩
      have HB2 : Hid (Below w.heap.size w w2) := Lib.hid (HB1.out.trans (hb.mono hz1))
      have hz2 := HB2.out.size
      clear hb
      go_wp2_with fail
      go_ret2
      exact retMs8_nil HB2.out 2
  have q3 : chkC A [] = 0 := by omega
  have q4 : chkC B [] = 0 := by omega
  obtain ⟨n, hn, hn1, hn5, hA1, hA6, hAK⟩ := chk_pts q3
  obtain ⟨m, hm, hm1, hm5, hB1, hB6, hBK⟩ := chk_pts q4
  rw [q3] at HA
  rw [q4] at HB
  obtain ⟨g1, o1, rfl, hlt1, hat1⟩ := h1.at0 (by omega)
  obtain ⟨g2, o2, rfl, hlt2, hat2⟩ := h2.at0 (by omega)
  have k1 : w.cell? ⟨g1, o1, none⟩ = some (.int .i64 (n : Int)) := by rw [← hn]; exact hat1.1
  have k2 : w.cell? ⟨g2, o2, none⟩ = some (.int .i64 (m : Int)) := by rw [← hm]; exact hat2.1
  have HCE : Hid (∀ z, Below w.heap.size w z → z.cell? ⟨g1, o1, none⟩ = some (.int .i64 (n : Int)) ∧ z.cell? ⟨g2, o2, none⟩ = some (.int .i64 (m : Int))) := Lib.hid fun z hz => ⟨(hz.cell (p := ⟨g1, o1, none⟩) hlt1).trans k1, (hz.cell (p := ⟨g2, o2, none⟩) hlt2).trans k2⟩
  have HM1 := Lib.hid h1
  have HM2 := Lib.hid h2
  have hpA : (0 : Int) < (A.length : Int) := by omega
  have hpB : (0 : Int) < (B.length : Int) := by omega
  clear hat1 hat2 k1 k2 q1 q2
  by_cases q5 : 5 < fst0 A + fst0 B ∨ 6 < A.length + B.length
  · rw [sbL_no (by rw [sbC_3 q3 q4 q5]; decide), sbC_3 q3 q4 q5]
    rw [hn, hm] at q5
    have hws : IntKind.i64.wrap ((n : Int) + (m : Int)) = (n : Int) + (m : Int) := IntWalk.i64_in _ (by omega)
    have hwl : IntKind.i64.wrap ((A.length : Int) + (B.length : Int)) = (A.length : Int) + (B.length : Int) := IntWalk.i64_in _ (by omega)
    obtain ⟨la, hla⟩ : ∃ la, la = A.length := ⟨_, rfl⟩
    obtain ⟨lb, hlb⟩ : ∃ lb, lb = B.length := ⟨_, rfl⟩
    rw [← hla] at HA hpA hwl q5 hA1 ⊢
    rw [← hlb] at HB hpB hwl q5 hB1 ⊢
    have hpA2 : 0 < la := hA1
    have hpB2 : 0 < lb := hB1
    clear hla hlb h1 h2 q3 q4 hn hm hAK hBK hA6 hB6
    by_cases q6 : 5 < (n : Int) + (m : Int)
    · clear q5
      go_enter Try.func55, Try.ntmps55
      go_wp2_with fail
      refine HA.out.mono ?_
      rintro e w1 ⟨rfl, hb⟩
      have HB1 := Lib.hid hb
      have hz1 := hb.size
      clear hb
      go_wp2_with fail
      refine (HB.out _ HB1.out).mono ?_
      rintro e w2 ⟨rfl, hb⟩
      have HB2 : Hid (Below w.heap.size w w2) := Lib.hid (HB1.out.trans (hb.mono hz1))
      have hz2 := HB2.out.size
      clear hb
      go_wp2_with fail
      obtain ⟨y1, y2⟩ := HCE.out w2 HB2.out
      go_region_held3 (fun w' => w'.cell? ⟨g1, o1, none⟩ = some (.int .i64 (n : Int)) ∧ w'.cell? ⟨g2, o2, none⟩ = some (.int .i64 (m : Int))) (first | exact ⟨y1, y2⟩ | exact HCE.out _ (by (repeat' (first | (with_reducible exact Below.refl _ _) | (with_reducible refine Below.alloc ?_ ?_ _) | (with_reducible refine Below.setCell ?_ ?_ _) | (with_reducible refine Below.drew ?_) | (with_reducible refine below_drewN ?_ _) | (with_reducible refine Below.trans ?_ (Below.mono (Hid.out (by assumption)) ?_)) | omega | (simp; done) | (simp; omega))))) (fail)
      obtain ⟨w3, hw3⟩ : ∃ w3, w3 = (w2.alloc (.cells #[] 71)).drew := ⟨_, rfl⟩
      have HBR : Hid (Below w.heap.size w w3) := Lib.hid (by rw [hw3]; exact (HB2.out.alloc hz2 _).drew)
      have hem : w3.heap[w2.heap.size]? = some (.cells #[] 71 (0, 0)) := by rw [hw3]; exact halloc_at _ _ _ rfl
      have HEM := Lib.hid hem
      rw [← hw3]
      clear hw3 hem y1 y2
      go_wp2_with fail
      go_ret2
      exact retMs8_nil HBR.out 3
    · have q7 : 6 < (la : Int) + (lb : Int) := by omega
      clear q5
      go_enter Try.func55, Try.ntmps55
      go_wp2_with fail
      refine HA.out.mono ?_
      rintro e w1 ⟨rfl, hb⟩
      have HB1 := Lib.hid hb
      have hz1 := hb.size
      clear hb
      go_wp2_with fail
      refine (HB.out _ HB1.out).mono ?_
      rintro e w2 ⟨rfl, hb⟩
      have HB2 : Hid (Below w.heap.size w w2) := Lib.hid (HB1.out.trans (hb.mono hz1))
      have hz2 := HB2.out.size
      clear hb
      go_wp2_with fail
      obtain ⟨y1, y2⟩ := HCE.out w2 HB2.out
      go_region_held3 (fun w' => w'.cell? ⟨g1, o1, none⟩ = some (.int .i64 (n : Int)) ∧ w'.cell? ⟨g2, o2, none⟩ = some (.int .i64 (m : Int))) (first | exact ⟨y1, y2⟩ | exact HCE.out _ (by (repeat' (first | (with_reducible exact Below.refl _ _) | (with_reducible refine Below.alloc ?_ ?_ _) | (with_reducible refine Below.setCell ?_ ?_ _) | (with_reducible refine Below.drew ?_) | (with_reducible refine below_drewN ?_ _) | (with_reducible refine Below.trans ?_ (Below.mono (Hid.out (by assumption)) ?_)) | omega | (simp; done) | (simp; omega))))) (fail)
      obtain ⟨w3, hw3⟩ : ∃ w3, w3 = (w2.alloc (.cells #[] 71)).drew := ⟨_, rfl⟩
      have HBR : Hid (Below w.heap.size w w3) := Lib.hid (by rw [hw3]; exact (HB2.out.alloc hz2 _).drew)
      have hem : w3.heap[w2.heap.size]? = some (.cells #[] 71 (0, 0)) := by rw [hw3]; exact halloc_at _ _ _ rfl
      have HEM := Lib.hid hem
      rw [← hw3]
      clear hw3 hem y1 y2
      go_wp2_with fail
      go_ret2
      exact retMs8_nil HBR.out 3
  have hce := sbC_0 q3 q4 q5
  rw [sbL_yes hce, hce, hn, hm]
  rw [hn, hm] at q5
  simp only [Int.toNat_natCast]
  have hws : IntKind.i64.wrap ((n : Int) + (m : Int)) = (n : Int) + (m : Int) := IntWalk.i64_in _ (by omega)
  have hwl : IntKind.i64.wrap ((A.length : Int) + (B.length : Int)) = (A.length : Int) + (B.length : Int) := IntWalk.i64_in _ (by omega)
  have q6 : ¬ (5 < (n : Int) + (m : Int)) := by omega
  have q7 : ¬ (6 < (A.length : Int) + (B.length : Int)) := by omega
  have HAK := Lib.hid hAK
  have HBK := Lib.hid hBK
  have HID := Lib.hid fun w => sid_any ((n : Int) + (m : Int)) (by omega) (by omega) w
  simp only [mv] at HID
  have hnm5 : n + m ≤ 5 := by omega
  obtain ⟨la, hla⟩ : ∃ la, la = A.length := ⟨_, rfl⟩
  obtain ⟨lb, hlb⟩ : ∃ lb, lb = B.length := ⟨_, rfl⟩
  have HLA := Lib.hid hla
  have HLB := Lib.hid hlb
  rw [← hla] at HA hpA hwl q7 hA1 hA6 ⊢
  rw [← hlb] at HB hpB hwl q7 hB1 hB6 ⊢
  have hpA2 : 0 < la := hA1
  have hpB2 : 0 < lb := hB1
  clear hla hlb h1 h2 q3 q4 q5 hn hm hAK hBK hce
  go_enter Try.func55, Try.ntmps55
  go_wp2_with fail
  refine HA.out.mono ?_
  rintro e w1 ⟨rfl, hb⟩
  have HB1 := Lib.hid hb
  have hz1 := hb.size
  clear hb
  go_wp2_with fail
  refine (HB.out _ HB1.out).mono ?_
  rintro e w2 ⟨rfl, hb⟩
  have HB2 : Hid (Below w.heap.size w w2) := Lib.hid (HB1.out.trans (hb.mono hz1))
  have hz2 := HB2.out.size
  clear hb
  go_wp2_with fail
  obtain ⟨y1, y2⟩ := HCE.out w2 HB2.out
  go_region_held3 (fun w' => w'.cell? ⟨g1, o1, none⟩ = some (.int .i64 (n : Int)) ∧ w'.cell? ⟨g2, o2, none⟩ = some (.int .i64 (m : Int))) (first | exact ⟨y1, y2⟩ | exact HCE.out _ (by (repeat' (first | (with_reducible exact Below.refl _ _) | (with_reducible refine Below.alloc ?_ ?_ _) | (with_reducible refine Below.setCell ?_ ?_ _) | (with_reducible refine Below.drew ?_) | (with_reducible refine below_drewN ?_ _) | (with_reducible refine Below.trans ?_ (Below.mono (Hid.out (by assumption)) ?_)) | omega | (simp; done) | (simp; omega))))) (fail)
  obtain ⟨w3, hw3⟩ : ∃ w3, w3 = (w2.alloc (.cells #[] 71)).drew := ⟨_, rfl⟩
  have HBR : Hid (Below w.heap.size w w3) := Lib.hid (by rw [hw3]; exact (HB2.out.alloc hz2 _).drew)
  have hem : w3.heap[w2.heap.size]? = some (.cells #[] 71 (0, 0)) := by rw [hw3]; exact halloc_at _ _ _ rfl
  have HEM := Lib.hid hem
  rw [← hw3]
  clear hw3 hem y1 y2
  go_wp2_with fail
  go_loopw [10, 11, 12, 13] (fun v i _ _ wr => ∃ k : Nat, k ≤ la ∧ i = .int .i64 k ∧ OwnM wr w.heap.size v (saL A n m k) ∧ Below w.heap.size w wr) (fun _ i _ _ _ => la - (intOf i).toNat)
  case atStart => exact ⟨0, by omega, rfl, own_emptyS HEM.out hz2, HBR.out⟩
  case round =>
    obtain ⟨k, hk, rfl, hown, hb⟩ := hrel
    have HO := Lib.hid hown
    have HB3 := Lib.hid hb
    have hz4 := hb.size
    clear hown hb
    obtain ⟨wo, hwo⟩ : ∃ wo, wo = wr := ⟨_, rfl⟩
    subst hwo
    by_cases hka : k < la
    · have hka' : (k : Int) < (la : Int) := by omega
      have hkA : k < A.length := by rw [← HLA.out]; exact hka
      have HSU := Lib.hid (saL_succ A n m k)
      have HLN := Lib.hid (saL_len A n m k)
      have HAT := Lib.hid fun z (hz : Below w.heap.size w z) => (HM1.out.below hz).at6 k hkA
      have HBD := Lib.hid (isB_true.1 (HAK.out k hkA).2).2.2
      generalize (A.getD k z0) = M0 at *
      obtain ⟨pf, f⟩ := M0
      simp only [] at HSU HBD
      go_wp2_with fail
      refine (HID.out _).mono ?_
      rintro e w4 ⟨rfl, hb⟩
      have HB4 : Hid (Below w.heap.size w w4) := Lib.hid (HB3.out.trans (hb.mono hz4))
      have HO4 := Lib.hid (ownM_keepS HO.out hb)
      have hz5 := HB4.out.size
      clear hb
      simp only [mcells]
      go_wp2_with fail
      go_loopw [13] (fun i wr => ∃ x : Nat, x ≤ n ∧ i = .int .i64 x ∧ wr.heap[w4.heap.size]? = some (.cells (mcells ((n : Int) + (m : Int)) (saK n m f x)) 71 (0, 0)) ∧ Below w4.heap.size w4 wr) (fun i _ => n - (intOf i).toNat)
      case atStart => exact ⟨0, by omega, rfl, by rw [saK_zero]; exact halloc_at _ _ _ rfl, (Below.refl _ _).alloc (Nat.le_refl _) _⟩
      case round =>
        obtain ⟨x, hx, rfl, hbb, hb⟩ := hrel
        have HBB := Lib.hid hbb
        have HB5 := Lib.hid hb
        by_cases hxn : x < n
        · have hxn' : (x : Int) < (n : Int) := by omega
          have hx5 : (x : Int) < 5 := by omega
          obtain ⟨g9, o9, e9, _, hat9⟩ := HAT.out wr (HB4.out.trans (hb.mono hz5))
          injection e9 with e9
          injection e9 with e9 e8
          subst e9 e8
          have hto := at6_ptS hat9 (y := x) (by omega)
          simp only [] at hto
          have b1 := blk_at hbb x (by omega)
          have hfr := blk_free hbb (1 + x)
          have hset := blk_set hbb x (by omega) (f x)
          rw [saK_succ] at hset
          have HSET := Lib.hid hset
          clear hat9 hbb hb hset
          generalize f x = Y at *
          go_wp2_with fail
          go_roundw
          case rel => exact ⟨x + 1, by omega, by go_num, HSET.out, HB5.out.setCell (Nat.le_refl _) _⟩
          case measure => simp [intOf]; omega
        · obtain rfl : x = n := by omega
          have hbb2 := hbb
          rw [saK_all] at hbb2
          obtain ⟨e0, e1, e2, e3, e4, e5⟩ := blk6 hbb2
          clear hbb hb hbb2
          generalize sbA x m f = T at *
          have HB6 : Hid (Below w.heap.size w (wr.alloc (.cells (mcells ((x : Int) + (m : Int)) T) 71))) := Lib.hid ((HB4.out.trans (HB5.out.mono hz5)).alloc (HB4.out.trans (HB5.out.mono hz5)).size _)
          have hz6 := (HB4.out.trans (HB5.out.mono hz5)).size
          have HO5 := Lib.hid (ownM_keepS HO4.out HB5.out)
          go_wp2_with (at_builtin; refine wpList_appM rfl _ _ rfl w.heap.size _ (saL A x m k) rfl (ownM_keepS HO5.out ((Below.refl _ _).alloc (Nat.le_refl _) _)) (some ⟨wr.heap.size, 0, none⟩) 1 [((x : Int) + (m : Int), T)] (fun e => by cases e) rfl (Or.inr ⟨_, 0, rfl, by simp, at_oneS (halloc_at _ _ _ rfl)⟩) (by rw [HLN.out]; simp; omega) (by simp; omega) ?_; intro v4 w6 hown4 hgrow4; have HO6 := Lib.hid hown4; have HB7 := Lib.hid (HB6.out.grown hgrow4 HB6.out.size (fun q e => (HO5.out.lt q e).1)); clear hown4 hgrow4)
          go_roundw
          case rel => exact ⟨k + 1, by omega, by go_num, by rw [HSU.out]; exact HO6.out, HB7.out⟩
          case measure => simp [intOf]; omega
    · obtain rfl : k = la := by omega
      clear HAK
      have HLA1 := Lib.hid (saL_len A n m k)
      obtain ⟨LA, hLA⟩ : ∃ LA, LA = saL A n m k := ⟨_, rfl⟩
      rw [← hLA] at HO HLA1
      have HLAE := Lib.hid hLA
      clear hLA
      go_wp2_with fail
      go_loopw [10, 14, 15, 16] (fun v i _ _ wx => ∃ j : Nat, j ≤ lb ∧ i = .int .i64 j ∧ OwnM wx w.heap.size v (LA ++ sbbL B n m j) ∧ Below w.heap.size w wx) (fun _ i _ _ _ => lb - (intOf i).toNat)
      case atStart => exact ⟨0, by omega, rfl, by rw [show sbbL B n m 0 = [] from rfl, List.append_nil]; exact HO.out, HB3.out⟩
      case round =>
        obtain ⟨j, hj, rfl, hown, hb⟩ := hrel
        have HO := Lib.hid hown
        have HB3 := Lib.hid hb
        have hz4 := hb.size
        clear hown hb
        obtain ⟨wo, hwo⟩ : ∃ wo, wo = wr := ⟨_, rfl⟩
        subst hwo
        by_cases hjb : j < lb
        · have hjb' : (j : Int) < (lb : Int) := by omega
          have hjB : j < B.length := by rw [← HLB.out]; exact hjb
          have HSU := Lib.hid (sbbL_succ B n m j)
          have HLN := Lib.hid (sbbL_len B n m j)
          have HAT := Lib.hid fun z (hz : Below w.heap.size w z) => (HM2.out.below hz).at6 j hjB
          have HBD := Lib.hid (isB_true.1 (HBK.out j hjB).2).2.2
          generalize (B.getD j z0) = M0 at *
          obtain ⟨pf, f⟩ := M0
          simp only [] at HSU HBD
          go_wp2_with fail
          refine (HID.out _).mono ?_
          rintro e w4 ⟨rfl, hb⟩
          have HB4 : Hid (Below w.heap.size w w4) := Lib.hid (HB3.out.trans (hb.mono hz4))
          have HO4 := Lib.hid (ownM_keepS HO.out hb)
          have hz5 := HB4.out.size
          clear hb
          simp only [mcells]
          go_wp2_with fail
          go_loopw [16] (fun i wx => ∃ x : Nat, x ≤ m ∧ i = .int .i64 x ∧ wx.heap[w4.heap.size]? = some (.cells (mcells ((n : Int) + (m : Int)) (bsK n (idn ((n : Int) + (m : Int))) f x)) 71 (0, 0)) ∧ Below w4.heap.size w4 wx) (fun i _ => m - (intOf i).toNat)
          case atStart => exact ⟨0, by omega, rfl, by rw [bsK_zero]; exact halloc_at _ _ _ rfl, (Below.refl _ _).alloc (Nat.le_refl _) _⟩
          case round =>
            obtain ⟨x, hx, rfl, hbb, hb⟩ := hrel
            have HBB := Lib.hid hbb
            have HB5 := Lib.hid hb
            by_cases hxm : x < m
            · have hxm' : (x : Int) < (m : Int) := by omega
              have hx5 : (x : Int) < 5 := by omega
              obtain ⟨g9, o9, e9, _, hat9⟩ := HAT.out wr (HB4.out.trans (hb.mono hz5))
              injection e9 with e9
              injection e9 with e9 e8
              subst e9 e8
              have hto := at6_ptS hat9 (y := x) (by omega)
              simp only [] at hto
              have hbd := HBD.out x (by omega)
              unfold okAt at hbd
              have hbd2 := hbd.1 hxm'
              have b1 := blk_at hbb (n + x) (by omega)
              have hfr := blk_free hbb (1 + (n + x))
              have hset := blk_set hbb (n + x) (by omega) ((n : Int) + f x)
              rw [bsK_succ] at hset
              have HSET := Lib.hid hset
              have hw2 : IntKind.i64.wrap ((n : Int) + f x) = (n : Int) + f x := IntWalk.i64_in _ (by omega)
              have hw3 : IntKind.i64.wrap ((n : Int) + (x : Int)) = (n : Int) + (x : Int) := IntWalk.i64_in _ (by omega)
              have hi0 : (0 : Int) ≤ (n : Int) + (x : Int) := by omega
              have hi1 : (n : Int) + (x : Int) < 5 := by omega
              have hito : ((n : Int) + (x : Int)).toNat = n + x := by omega
              clear hat9 hbb hb hset hbd hbd2
              generalize f x = Y at *
              generalize bsK n (idn ((n : Int) + (m : Int))) f x (n + x) = Z at *
              go_wp2_with fail
              go_roundw
              case rel => exact ⟨x + 1, by omega, by go_num, HSET.out, HB5.out.setCell (Nat.le_refl _) _⟩
              case measure => simp [intOf]; omega
            · obtain rfl : x = m := by omega
              have hbb2 := hbb
              rw [show bsK n (idn ((n : Int) + (x : Int))) f x = sbB n x f from rfl] at hbb2
              obtain ⟨e0, e1, e2, e3, e4, e5⟩ := blk6 hbb2
              clear hbb hb hbb2
              generalize sbB n x f = T at *
              have HB6 : Hid (Below w.heap.size w (wr.alloc (.cells (mcells ((n : Int) + (x : Int)) T) 71))) := Lib.hid ((HB4.out.trans (HB5.out.mono hz5)).alloc (HB4.out.trans (HB5.out.mono hz5)).size _)
              have hz6 := (HB4.out.trans (HB5.out.mono hz5)).size
              have HO5 := Lib.hid (ownM_keepS HO4.out HB5.out)
              have hl9 : (LA ++ sbbL B n x j).length + 1 ≤ 2000000 := by rw [List.length_append, HLA1.out, HLN.out]; omega
              have HL9 := Lib.hid hl9
              clear hl9
              go_wp2_with (at_builtin; refine wpList_appM rfl _ _ rfl w.heap.size _ (LA ++ sbbL B n x j) rfl (ownM_keepS HO5.out ((Below.refl _ _).alloc (Nat.le_refl _) _)) (some ⟨wr.heap.size, 0, none⟩) 1 [((n : Int) + (x : Int), T)] (fun e => by cases e) rfl (Or.inr ⟨_, 0, rfl, by simp, at_oneS (halloc_at _ _ _ rfl)⟩) HL9.out (by simp; omega) ?_; intro v4 w6 hown4 hgrow4; have HO6 := Lib.hid hown4; have HB7 := Lib.hid (HB6.out.grown hgrow4 HB6.out.size (fun q e => (HO5.out.lt q e).1)); clear hown4 hgrow4)
              go_roundw
              case rel => exact ⟨j + 1, by omega, by go_num, by rw [HSU.out, ← List.append_assoc]; exact HO6.out, HB7.out⟩
              case measure => simp [intOf]; omega
        · obtain rfl : j = lb := by omega
          have hO := HO.out
          rw [HLAE.out] at hO
          obtain ⟨ac, cc, rfl, hrd⟩ := ownM_rd hO (by rw [List.length_append, saL_len, sbbL_len]; omega)
          have HRD := Lib.hid hrd
          clear hrd hO HO
          go_wp2_with fail
          go_ret2
          exact ⟨ac, cc, rfl, HRD.out, HB3.out⟩

end Go.Proofs.Ytgiefgbpcjoieaa
