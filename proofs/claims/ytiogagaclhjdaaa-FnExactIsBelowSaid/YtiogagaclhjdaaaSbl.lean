/- The contract of spec.l04Below. -/
import Derived.Test.YtiogagaclhjdaaaBck
import Derived.Test.YtiogagaclhjdaaaSclo
import Derived.Deep.DeepCutAuto
import Derived.Deep.RegionHeld3
import Derived.BigQuiet
namespace Go.Proofs.Ytiogagaclhjdaaa
open Go Go.RowKit

def blwA (p : Int) (K : List Nat) (g f : Nat) : Bool := K.any fun e => idemB p (dcd e) && decide (mulC p e g = f)
def blwB (p : Int) (K : List Nat) (g f : Nat) : Bool := K.any fun e => idemB p (dcd e) && decide (mulC p g e = f)

theorem blw_ab (p : Int) (K : List Nat) (g f : Nat) : blwC p K g f = (blwA p K g f && blwB p K g f) := by
  unfold blwC blwA blwB idmC
  rw [List.any_filter, List.any_filter]

theorem blwA_succ (p : Int) (K : List Nat) (g f k : Nat) (hk : k < K.length) : blwA p (K.take (k + 1)) g f = (blwA p (K.take k) g f || (idemB p (dcd (K.getD k 0)) && decide (mulC p (K.getD k 0) g = f))) := by
  unfold blwA
  rw [take_app K k hk, List.any_append]
  simp
theorem blwB_succ (p : Int) (K : List Nat) (g f k : Nat) (hk : k < K.length) : blwB p (K.take (k + 1)) g f = (blwB p (K.take k) g f || (idemB p (dcd (K.getD k 0)) && decide (mulC p g (K.getD k 0) = f))) := by
  unfold blwB
  rw [take_app K k hk, List.any_append]
  simp

set_option maxRecDepth 100000 in
set_option maxHeartbeats 4000000 in
theorem sblw_any {p : Int} {K : List Nat} {f g : Nat} (hK : ∀ x ∈ K, vld p x) (hf : vld p f) (hg : vld p g) (hn : K.length ≤ 300) (a : Option Addr) (cap : Nat) (w : World) (hr : InRowM w a (mE p K)) :
    Calls Try.prog 57 #[.slice a K.length cap, mv p (dcd f), mv p (dcd g)] w fun e w' => e = .returned (.bool (blwC p K g f)) ∧ Below w.heap.size w w' := by
  have HVL := Lib.hid hK
  have HR := Lib.hid hr
  have HVF := Lib.hid hf
  have HVG := Lib.hid hg
  rw [blw_ab]
  clear hK hr hf hg
  simp only [mv, mcells]
  go_enter Try.func57, Try.ntmps57
  go_wp2_with fail
  go_loopw [7, 8, 9] (fun v1 v2 i wr => ∃ k : Nat, k ≤ K.length ∧ i = .int .i64 k ∧ v1 = .bool (blwA p (K.take k) g f) ∧ v2 = .bool (blwB p (K.take k) g f) ∧ Below w.heap.size w wr ∧ w.heap.size + 1 < wr.heap.size ∧ wr.heap[w.heap.size]? = some (.cells (mcells p (dcd f)) 31 (0, 0)) ∧ wr.heap[w.heap.size + 1]? = some (.cells (mcells p (dcd g)) 31 (0, 0))) (fun _ _ i _ => K.length - (intOf i).toNat)
  case atStart => exact ⟨0, by omega, rfl, rfl, rfl, by (repeat' (first | (with_reducible exact Below.refl _ _) | (with_reducible refine Below.alloc ?_ ?_ _) | (with_reducible refine Below.setCell ?_ ?_ _) | (with_reducible refine Below.drew ?_) | (with_reducible refine below_drewN ?_ _) | (with_reducible refine Below.trans ?_ (Below.mono (Hid.out (by assumption)) ?_)) | omega | (simp; done) | (simp; omega))), by simp, (halloc_lt _ _ _ (by simp)).trans (halloc_at _ _ _ rfl), halloc_at _ _ _ (by simp)⟩
  case round =>
    obtain ⟨k, hk, rfl, rfl, rfl, hb, hsz, hbf, hbg⟩ := hrel
    have HBR := Lib.hid hb
    have HBF := Lib.hid hbf
    have HBG := Lib.hid hbg
    have hsr := hb.size
    by_cases hkl : k < K.length
    · have hkl' : (k : Int) < (K.length : Int) := by omega
      obtain ⟨b1, o1, rfl, hl1, hat1⟩ := (HR.out.below hb).at6 k (by rw [mE_len]; exact hkl)
      rw [mE_at _ _ _ hkl] at hat1
      have hvx := HVL.out _ (getD_mem hkl)
      have HSA := Lib.hid (blwA_succ p K g f k hkl)
      have HSB := Lib.hid (blwB_succ p K g f k hkl)
      generalize hA2 : blwA p (K.take (k + 1)) g f = A2 at *
      generalize hB2 : blwB p (K.take (k + 1)) g f = B2 at *
      have HEA := Lib.hid hA2
      have HEB := Lib.hid hB2
      clear hA2 hB2
      generalize blwA p (K.take k) g f = A1 at *
      generalize blwB p (K.take k) g f = B1 at *
      obtain ⟨x0, x1, x2, x3, x4, x5⟩ := hat1
      simp only [] at x0 x1 x2 x3 x4 x5
      generalize K.getD k 0 = x at *
      have hid := fun w => sidem_any p (dcd x) hvx.2 w
      have hq1 := fun w => times_num hvx HVG.out w
      have hq2 := fun w => times_num HVG.out hvx w
      have he1 := eqN_num (mulC_vld hvx HVG.out) HVF.out
      have he2 := eqN_num (mulC_vld HVG.out hvx) HVF.out
      generalize mulC p x g = m1 at *
      generalize mulC p g x = m2 at *
      generalize decide (m1 = f) = D1 at *
      generalize decide (m2 = f) = D2 at *
      generalize idemB p (dcd x) = I at *
      simp only [mv, mcells] at hid hq1 hq2
      have HID := Lib.hid hid
      have HQ1 := Lib.hid hq1
      have HQ2 := Lib.hid hq2
      clear hid hq1 hq2 hvx
      go_wp2_with fail
      refine (HID.out _).mono ?_
      rintro e w3 ⟨rfl, hb3⟩
      have hs3 := hb3.size
      have HB3 := Lib.hid hb3
      have HB4 : Hid (Below w.heap.size w w3) := Lib.hid (HBR.out.trans (hb3.mono hsr))
      have hbf3 := bel_at hb3 hbf
      have hbg3 := bel_at hb3 hbg
      have HBF3 := Lib.hid hbf3
      have HBG3 := Lib.hid hbg3
      have hl3 : b1 < w3.heap.size := by omega
      have X0 := (hb3.cell (p := ⟨b1, _, none⟩) hl1).trans x0
      have X1 := (hb3.cell (p := ⟨b1, _, none⟩) hl1).trans x1
      have X2 := (hb3.cell (p := ⟨b1, _, none⟩) hl1).trans x2
      have X3 := (hb3.cell (p := ⟨b1, _, none⟩) hl1).trans x3
      have X4 := (hb3.cell (p := ⟨b1, _, none⟩) hl1).trans x4
      have X5 := (hb3.cell (p := ⟨b1, _, none⟩) hl1).trans x5
      have hsz3 : w.heap.size + 1 < w3.heap.size := by omega
      have hsz4 : w.heap.size < w3.heap.size := by omega
      clear hb hb3 hbf hbg x0 x1 x2 x3 x4 x5
      cases I with
      | false =>
        clear hbf3 hbg3
        go_wp2_with fail
        go_roundw
        case rel => exact ⟨k + 1, by omega, by go_num, by rw [HEA.out, HSA.out]; simp, by rw [HEB.out, HSB.out]; simp, HB4.out, hsz3, HBF3.out, HBG3.out⟩
        case measure => simp [intOf]; omega
      | true =>
        obtain ⟨r0, r1, r2, r3, r4, r5⟩ := belN_cells (B := w3.heap.size) hsz4 hbf3
        obtain ⟨s0, s1, s2, s3, s4, s5⟩ := belN_cells (B := w3.heap.size) hsz3 hbg3
        have y0 : ∀ z, Below w3.heap.size w3 z → z.cell? ⟨b1, _, none⟩ = _ := fun z hz => (hz.cell (p := ⟨b1, _, none⟩) hl3).trans X0
        have y1 : ∀ z, Below w3.heap.size w3 z → z.cell? ⟨b1, _, none⟩ = _ := fun z hz => (hz.cell (p := ⟨b1, _, none⟩) hl3).trans X1
        have y2 : ∀ z, Below w3.heap.size w3 z → z.cell? ⟨b1, _, none⟩ = _ := fun z hz => (hz.cell (p := ⟨b1, _, none⟩) hl3).trans X2
        have y3 : ∀ z, Below w3.heap.size w3 z → z.cell? ⟨b1, _, none⟩ = _ := fun z hz => (hz.cell (p := ⟨b1, _, none⟩) hl3).trans X3
        have y4 : ∀ z, Below w3.heap.size w3 z → z.cell? ⟨b1, _, none⟩ = _ := fun z hz => (hz.cell (p := ⟨b1, _, none⟩) hl3).trans X4
        have y5 : ∀ z, Below w3.heap.size w3 z → z.cell? ⟨b1, _, none⟩ = _ := fun z hz => (hz.cell (p := ⟨b1, _, none⟩) hl3).trans X5
        clear X0 X1 X2 X3 X4 X5 hbf3 hbg3
        obtain ⟨RA, hRA⟩ : ∃ RA, RA = (A1 || D1) := ⟨_, rfl⟩
        obtain ⟨RB, hRB⟩ : ∃ RB, RB = (B1 || D2) := ⟨_, rfl⟩
        have HRA : Hid (A2 = RA) := Lib.hid (by rw [HSA.out, hRA]; simp)
        have HRB : Hid (B2 = RB) := Lib.hid (by rw [HSB.out, hRB]; simp)
        have HRA2 := Lib.hid hRA
        have HRB2 := Lib.hid hRB
        clear hRA hRB
        go_upto_region 6 with fail
        go_cut [7] from 22 to 32 (fun s7 wx => s7 = .bool RA ∧ Below w3.heap.size w3 wx)
        case first =>
          have hRA := HRA2.out
          cases A1 with
          | true =>
            simp only [Bool.true_or] at hRA
            subst hRA
            have hw3 : Below w3.heap.size w3 w3 := Below.refl _ _
            go_quiet (fail)
            all_goals (go_wp2_with fail)
            all_goals (go_meet)
            all_goals
              refine ⟨rfl, ?_⟩
              (repeat' (first | (with_reducible exact Below.refl _ _) | (with_reducible refine Below.alloc ?_ ?_ _) | (with_reducible refine Below.setCell ?_ ?_ _) | (with_reducible refine Below.drew ?_) | (with_reducible refine below_drewN ?_ _) | (with_reducible refine Below.trans ?_ (Below.mono (Hid.out (by assumption)) ?_)) | omega | (simp; done) | (simp; omega)))
          | false =>
            simp only [Bool.false_or] at hRA
            subst hRA
            go_region_held3 (fun w' => Below w3.heap.size w3 w') (first | (with_reducible assumption) | ((repeat' (first | (with_reducible exact Below.refl _ _) | (with_reducible refine Below.alloc ?_ ?_ _) | (with_reducible refine Below.setCell ?_ ?_ _) | (with_reducible refine Below.drew ?_) | (with_reducible refine below_drewN ?_ _) | (with_reducible refine Below.trans ?_ (Below.mono (Hid.out (by assumption)) ?_)) | omega | (simp; done) | (simp; omega))); done)) (first | (go_at_call 69; (with_reducible refine (HQ1.out _).mono ?_); rintro e w1 ⟨rfl, hb⟩; skip; obtain ⟨hc, hf⟩ := bcell hb; have hz := hb.size; have Hb := Lib.hid hb; (try simp at hz hc hf); (try (have hy := Nat.lt_of_succ_le hz)); have hz0 : w3.heap.size ≤ w1.heap.size := (by omega); (try (have hz1 : w3.heap.size < w1.heap.size := (by omega))); clear hb))
            all_goals (go_wp2_with fail)
            all_goals (go_meet)
            all_goals
              refine ⟨rfl, ?_⟩
              (repeat' (first | (with_reducible exact Below.refl _ _) | (with_reducible refine Below.alloc ?_ ?_ _) | (with_reducible refine Below.setCell ?_ ?_ _) | (with_reducible refine Below.drew ?_) | (with_reducible refine below_drewN ?_ _) | (with_reducible refine Below.trans ?_ (Below.mono (Hid.out (by assumption)) ?_)) | omega | (simp; done) | (simp; omega)))
        case rest =>
        obtain ⟨rfl, hbc⟩ := hcut
        obtain ⟨w5, hw5⟩ : ∃ w5, w5 = wc := ⟨_, rfl⟩
        subst hw5
        have hzc := hbc.size
        have HBC := Lib.hid hbc
        have hRB := HRB2.out
        go_upto_region 7 with fail
        cases B1 with
        | true =>
          simp only [Bool.true_or] at hRB
          subst hRB
          go_quiet (fail)
          all_goals (go_wp2_with fail)
          go_roundw
          case rel => exact ⟨k + 1, by omega, by go_num, by rw [HEA.out, HRA.out], by rw [HEB.out, HRB.out], HB4.out.trans (Below.mono (show Below w3.heap.size w3 _ by (repeat' (first | (with_reducible exact Below.refl _ _) | (with_reducible refine Below.alloc ?_ ?_ _) | (with_reducible refine Below.setCell ?_ ?_ _) | (with_reducible refine Below.drew ?_) | (with_reducible refine below_drewN ?_ _) | (with_reducible refine Below.trans ?_ (Below.mono (Hid.out (by assumption)) ?_)) | omega | (simp; done) | (simp; omega)))) (by omega)), Nat.lt_of_lt_of_le hsz3 (show Below w3.heap.size w3 _ by (repeat' (first | (with_reducible exact Below.refl _ _) | (with_reducible refine Below.alloc ?_ ?_ _) | (with_reducible refine Below.setCell ?_ ?_ _) | (with_reducible refine Below.drew ?_) | (with_reducible refine below_drewN ?_ _) | (with_reducible refine Below.trans ?_ (Below.mono (Hid.out (by assumption)) ?_)) | omega | (simp; done) | (simp; omega)))).size, bel_at (show Below w3.heap.size w3 _ by (repeat' (first | (with_reducible exact Below.refl _ _) | (with_reducible refine Below.alloc ?_ ?_ _) | (with_reducible refine Below.setCell ?_ ?_ _) | (with_reducible refine Below.drew ?_) | (with_reducible refine below_drewN ?_ _) | (with_reducible refine Below.trans ?_ (Below.mono (Hid.out (by assumption)) ?_)) | omega | (simp; done) | (simp; omega)))) HBF3.out, bel_at (show Below w3.heap.size w3 _ by (repeat' (first | (with_reducible exact Below.refl _ _) | (with_reducible refine Below.alloc ?_ ?_ _) | (with_reducible refine Below.setCell ?_ ?_ _) | (with_reducible refine Below.drew ?_) | (with_reducible refine below_drewN ?_ _) | (with_reducible refine Below.trans ?_ (Below.mono (Hid.out (by assumption)) ?_)) | omega | (simp; done) | (simp; omega)))) HBG3.out⟩
          case measure => simp [intOf]; omega
        | false =>
          simp only [Bool.false_or] at hRB
          subst hRB
          go_region_held3 (fun w' => Below w3.heap.size w3 w') (first | (with_reducible assumption) | ((repeat' (first | (with_reducible exact Below.refl _ _) | (with_reducible refine Below.alloc ?_ ?_ _) | (with_reducible refine Below.setCell ?_ ?_ _) | (with_reducible refine Below.drew ?_) | (with_reducible refine below_drewN ?_ _) | (with_reducible refine Below.trans ?_ (Below.mono (Hid.out (by assumption)) ?_)) | omega | (simp; done) | (simp; omega))); done)) (first | (go_at_call 69; (with_reducible refine (HQ2.out _).mono ?_); rintro e w1 ⟨rfl, hb⟩; skip; obtain ⟨hc, hf⟩ := bcell hb; have hz := hb.size; have Hb := Lib.hid hb; (try simp at hz hc hf); (try (have hy := Nat.lt_of_succ_le hz)); have hz0 : w3.heap.size ≤ w1.heap.size := (by omega); (try (have hz1 : w3.heap.size < w1.heap.size := (by omega))); clear hb))
          all_goals (go_wp2_with fail)
          go_roundw
          case rel => exact ⟨k + 1, by omega, by go_num, by rw [HEA.out, HRA.out], by rw [HEB.out, HRB.out], HB4.out.trans (Below.mono (show Below w3.heap.size w3 _ by (repeat' (first | (with_reducible exact Below.refl _ _) | (with_reducible refine Below.alloc ?_ ?_ _) | (with_reducible refine Below.setCell ?_ ?_ _) | (with_reducible refine Below.drew ?_) | (with_reducible refine below_drewN ?_ _) | (with_reducible refine Below.trans ?_ (Below.mono (Hid.out (by assumption)) ?_)) | omega | (simp; done) | (simp; omega)))) (by omega)), Nat.lt_of_lt_of_le hsz3 (show Below w3.heap.size w3 _ by (repeat' (first | (with_reducible exact Below.refl _ _) | (with_reducible refine Below.alloc ?_ ?_ _) | (with_reducible refine Below.setCell ?_ ?_ _) | (with_reducible refine Below.drew ?_) | (with_reducible refine below_drewN ?_ _) | (with_reducible refine Below.trans ?_ (Below.mono (Hid.out (by assumption)) ?_)) | omega | (simp; done) | (simp; omega)))).size, bel_at (show Below w3.heap.size w3 _ by (repeat' (first | (with_reducible exact Below.refl _ _) | (with_reducible refine Below.alloc ?_ ?_ _) | (with_reducible refine Below.setCell ?_ ?_ _) | (with_reducible refine Below.drew ?_) | (with_reducible refine below_drewN ?_ _) | (with_reducible refine Below.trans ?_ (Below.mono (Hid.out (by assumption)) ?_)) | omega | (simp; done) | (simp; omega)))) HBF3.out, bel_at (show Below w3.heap.size w3 _ by (repeat' (first | (with_reducible exact Below.refl _ _) | (with_reducible refine Below.alloc ?_ ?_ _) | (with_reducible refine Below.setCell ?_ ?_ _) | (with_reducible refine Below.drew ?_) | (with_reducible refine below_drewN ?_ _) | (with_reducible refine Below.trans ?_ (Below.mono (Hid.out (by assumption)) ?_)) | omega | (simp; done) | (simp; omega)))) HBG3.out⟩
          case measure => simp [intOf]; omega
    · obtain rfl : k = K.length := by omega
      have HTL : Hid (K.take K.length = K) := Lib.hid List.take_length
      have hA : ∃ A, A = blwA p (K.take K.length) g f := ⟨_, rfl⟩
      have hB : ∃ B, B = blwB p (K.take K.length) g f := ⟨_, rfl⟩
      obtain ⟨A, hA⟩ := hA
      obtain ⟨B, hB⟩ := hB
      rw [← hA, ← hB]
      rw [HTL.out] at hA hB
      have HA := Lib.hid hA
      have HB := Lib.hid hB
      clear hb hbf hbg hA hB
      cases A with
      | true =>
        go_wp2_with fail
        go_ret
        exact ⟨by rw [← HA.out, ← HB.out]; rfl, HBR.out⟩
      | false =>
        go_wp2_with fail
        go_ret
        exact ⟨by rw [← HA.out, ← HB.out]; rfl, HBR.out⟩

end Go.Proofs.Ytiogagaclhjdaaa
