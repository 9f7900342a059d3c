/- The contracts of the identities and powers of both packages. -/
import Derived.Test.YthblbamiammodaaBase
import Derived.Test.YthblbamiammodaaPowm
namespace Go.Proofs.Ythblbamiammodaa
open Go.RowKit

set_option maxHeartbeats 1000000 in
theorem sid_any (p : Int) (h1 : 1 ≤ p) (h5 : p ≤ 5) (w : World) :
    Calls Try.prog 67 #[.int .i64 p] w fun e w' => e = .returned (mv p (idn p)) ∧ Below w.heap.size w w' := by
  rcases (by omega : p = 1 ∨ p = 2 ∨ p = 3 ∨ p = 4 ∨ p = 5) with rfl | rfl | rfl | rfl | rfl
  all_goals
    go_enter Try.func67, Try.ntmps67
    go_wp2
    refine wp_loop_rounds 6 ?_
    repeat (rw [rounds_succ]; go_wp2)
    refine bodyPost_ret (v := mv _ (idn _)) (by simp [results, Try.results67, go_sem, idn]) rfl ⟨rfl, ?_⟩
    (repeat' (first | (with_reducible exact Below.refl _ _) | (with_reducible refine Below.alloc ?_ ?_ _) | (with_reducible refine Below.setCell ?_ ?_ _) | (with_reducible refine Below.drew ?_) | (with_reducible refine below_drewN ?_ _) | (with_reducible refine Below.trans ?_ (Below.mono (Hid.out (by assumption)) ?_)) | omega | (simp; done) | (simp; omega)))

set_option maxHeartbeats 1000000 in
theorem iid_any (p : Int) (h1 : 1 ≤ p) (h5 : p ≤ 5) (w : World) :
    Calls Try.prog 66 #[.int .i64 p] w fun e w' => e = .returned (mv p (idn p)) ∧ Below w.heap.size w w' := by
  rcases (by omega : p = 1 ∨ p = 2 ∨ p = 3 ∨ p = 4 ∨ p = 5) with rfl | rfl | rfl | rfl | rfl
  all_goals
    go_enter Try.func66, Try.ntmps66
    go_wp2
    refine wp_loop_rounds 6 ?_
    repeat (rw [rounds_succ]; go_wp2)
    refine bodyPost_ret (v := mv _ (idn _)) (by simp [results, Try.results66, go_sem, idn]) rfl ⟨rfl, ?_⟩
    (repeat' (first | (with_reducible exact Below.refl _ _) | (with_reducible refine Below.alloc ?_ ?_ _) | (with_reducible refine Below.setCell ?_ ?_ _) | (with_reducible refine Below.drew ?_) | (with_reducible refine below_drewN ?_ _) | (with_reducible refine Below.trans ?_ (Below.mono (Hid.out (by assumption)) ?_)) | omega | (simp; done) | (simp; omega)))

set_option maxHeartbeats 1000000 in
theorem spow_any (p : Int) (f : Nat → Int) (hf : isB p f = true) (k0 : Int) (hk : 0 ≤ k0) (hk2 : k0 ≤ 1000000000000) (w : World) :
    Calls Try.prog 42 #[mv p f, .int .i64 k0] w fun e w' => e = .returned (mv p (pow p f k0.toNat)) ∧ Below w.heap.size w w' := by
  obtain ⟨h1, h5⟩ := isB_pts hf
  have hF := Lib.hid hf
  clear hf
  simp only [mv, mcells]
  go_enter Try.func42, Try.ntmps42
  go_wp2_with fail
  (refine (sid_any p h1 h5 _).mono ?_; rintro e w1 ⟨rfl, hb⟩; simp only [mv, mcells]; obtain ⟨hc, hf⟩ := bcell hb; have hz := hb.size; have Hb := Lib.hid hb; (try simp at hz hc hf); (try (have hy := Nat.lt_of_succ_le hz)); have hz0 : w.heap.size < w1.heap.size := (by omega); have hz1 : w.heap.size + 1 < w1.heap.size := (by omega); clear hb)
  go_wp2_with fail
  obtain ⟨wo, hwo⟩ : ∃ wo, wo = w1 := ⟨_, rfl⟩
  subst hwo
  have hw1 : w.heap.size + 1 < wo.heap.size := by omega
  go_loopw [1] (fun i wr => ∃ (k : Int) (r h : Nat → Int), 0 ≤ k ∧ k ≤ 1000000000000 ∧ i = .int .i64 k ∧ isB p r = true ∧ isB p h = true ∧ itrF p r h k.toNat = pow p f k0.toNat ∧ Below w.heap.size w wr ∧ wo.heap.size < wr.heap.size ∧
      wr.heap[w.heap.size]? = some (.cells (mcells p h) 26 (0, 0)) ∧ wr.heap[w.heap.size + 1]? = some (.cells (mcells 0 fun _ => 0) 26 (0, 0)) ∧ wr.heap[wo.heap.size]? = some (.cells (mcells p r) 26 (0, 0))) (fun i _ => (intOf i).toNat)
  case atStart =>
    refine ⟨k0, idn p, f, hk, hk2, rfl, idn_ok h1 h5, hF.out, rfl, ?_, by simp, ?_, ?_, ?_⟩
    · (repeat' (first | (with_reducible exact Below.refl _ _) | (with_reducible refine Below.alloc ?_ ?_ _) | (with_reducible refine Below.setCell ?_ ?_ _) | (with_reducible refine Below.drew ?_) | (with_reducible refine below_drewN ?_ _) | (with_reducible refine Below.trans ?_ (Below.mono (Hid.out (by assumption)) ?_)) | omega | (simp; done) | (simp; omega)))
    · (repeat' (first | omega | (rw [hdrew]) | (with_reducible assumption) | (with_reducible exact Hid.out (by assumption)) | (with_reducible rfl) | ((with_reducible refine halloc_at _ _ _ ?_) <;> (first | (with_reducible rfl) | omega | (simp; done))) | (with_reducible refine chain6 ?_) | (with_reducible refine Eq.trans (hset_ne _ _ _ _ ?_) ?_) | (with_reducible refine Eq.trans (halloc_lt _ _ _ ?_) ?_) | (with_reducible refine Eq.trans (Below.block (Hid.out (by assumption)) _ ?_) ?_) | (simp; done) | (simp; omega)))
    · (repeat' (first | omega | (rw [hdrew]) | (with_reducible assumption) | (with_reducible exact Hid.out (by assumption)) | (with_reducible rfl) | ((with_reducible refine halloc_at _ _ _ ?_) <;> (first | (with_reducible rfl) | omega | (simp; done))) | (with_reducible refine chain6 ?_) | (with_reducible refine Eq.trans (hset_ne _ _ _ _ ?_) ?_) | (with_reducible refine Eq.trans (halloc_lt _ _ _ ?_) ?_) | (with_reducible refine Eq.trans (Below.block (Hid.out (by assumption)) _ ?_) ?_) | (simp; done) | (simp; omega)))
    · (repeat' (first | omega | (rw [hdrew]) | (with_reducible assumption) | (with_reducible exact Hid.out (by assumption)) | (with_reducible rfl) | ((with_reducible refine halloc_at _ _ _ ?_) <;> (first | (with_reducible rfl) | omega | (simp; done))) | (with_reducible refine chain6 ?_) | (with_reducible refine Eq.trans (hset_ne _ _ _ _ ?_) ?_) | (with_reducible refine Eq.trans (halloc_lt _ _ _ ?_) ?_) | (with_reducible refine Eq.trans (Below.block (Hid.out (by assumption)) _ ?_) ?_) | (simp; done) | (simp; omega)))
  case round =>
    clear hc hf hz hz0 hz1 hy Hb
    obtain ⟨k, r, h, hk0, hk9, rfl, hr, hh, hI, hb, hsz, b0, b1, b2⟩ := hrel
    have HR := Lib.hid hr
    have HH := Lib.hid hh
    have HI := Lib.hid hI
    have Hb := Lib.hid hb
    have B0 := Lib.hid b0
    have B1 := Lib.hid b1
    have B2 := Lib.hid b2
    clear hr hh hI hb b0 b1 b2
    by_cases hpos : 0 < k
    · obtain ⟨e0, e1, e2, e3, e4, e5⟩ := blk6 B0.out
      obtain ⟨r0, r1, r2, r3, r4, r5⟩ := blk6 B2.out
      have fr0 := blk_free B0.out
      have fr2 := blk_free B2.out
      have hw0 : w.heap.size < wr.heap.size := by omega
      have hTrr := Lib.hid fun w => times_any p r h HR.out HH.out w
      have hThh := Lib.hid fun w => times_any p h h HH.out HH.out w
      have hne1 : wo.heap.size ≠ w.heap.size := by omega
      have hne2 : w.heap.size ≠ wo.heap.size := by omega
      have hI0 := itrF_even HH.out HR.out k.toNat
      have hI1 := itrF_odd HH.out HR.out k.toNat
      have HI0 := Lib.hid hI0
      have HI1 := Lib.hid hI1
      clear hI0 hI1
      by_cases hpar : k % 2 = 1
      · have hpar' : (k % 2 == 1) = true := by simp [hpar]
        have HP := Lib.hid hpar
        clear hpar
        go_wp2_with fail
        (refine (hTrr.out _).mono ?_; rintro e w1 ⟨rfl, hb⟩; simp only [mv, mcells]; obtain ⟨hc, hf⟩ := bcell hb; have hz := hb.size; have Hb := Lib.hid hb; (try simp at hz hc hf); (try (have hy := Nat.lt_of_succ_le hz)); have hz0 : w.heap.size < w1.heap.size := (by omega); have hz1 : w.heap.size + 1 < w1.heap.size := (by omega); clear hb)
        have Hb1 := Hb
        have hg1 : wo.heap.size < w1.heap.size := by omega
        go_wp2_with fail
        (refine (hThh.out _).mono ?_; rintro e w1 ⟨rfl, hb⟩; simp only [mv, mcells]; obtain ⟨hc, hf⟩ := bcell hb; have hz := hb.size; have Hb := Lib.hid hb; (try simp at hz hc hf); (try (have hy := Nat.lt_of_succ_le hz)); have hz0 : w.heap.size < w1.heap.size := (by omega); have hz1 : w.heap.size + 1 < w1.heap.size := (by omega); clear hb)
        have Hb2 := Hb
        have hg1 : wo.heap.size < w1.heap.size := by omega
        go_wp2_with fail
        go_roundw
        case rel =>
          refine ⟨k / 2, mul p r h, mul p h h, by omega, by omega, rfl, mul_ok HR.out HH.out, mul_ok HH.out HH.out, ?_, ?_, ?_, ?_, ?_, ?_⟩
          · rw [← HI.out, ← HI1.out (by have := HP.out; omega)]; congr 1; omega
          · (repeat' (first | (with_reducible exact Below.refl _ _) | (with_reducible refine Below.alloc ?_ ?_ _) | (with_reducible refine Below.setCell ?_ ?_ _) | (with_reducible refine Below.drew ?_) | (with_reducible refine below_drewN ?_ _) | (with_reducible refine Below.trans ?_ (Below.mono (Hid.out (by assumption)) ?_)) | omega | (simp; done) | (simp; omega)))
          · simp; omega
          · exact chainM ((Hb2.out.block _ (by simp; omega)).trans ((chain_ne _ _ _ _ _ _ _ _ _ hne2).trans ((Hb1.out.block _ hw0).trans B0.out)))
          · exact (chain_ne _ _ _ _ _ _ _ _ _ (by omega)).trans ((Hb2.out.block _ (by simp; omega)).trans ((chain_ne _ _ _ _ _ _ _ _ _ (by omega)).trans ((Hb1.out.block _ (by omega)).trans B1.out)))
          · exact (chain_ne _ _ _ _ _ _ _ _ _ hne1).trans ((Hb2.out.block _ (by simp; omega)).trans (chainM ((Hb1.out.block _ hsz).trans B2.out)))
        case measure => simp [intOf]; omega
      · have hpar' : (k % 2 == 1) = false := by simp [hpar]
        have HP := Lib.hid hpar
        clear hpar
        go_wp2_with fail
        (refine (hThh.out _).mono ?_; rintro e w1 ⟨rfl, hb⟩; simp only [mv, mcells]; obtain ⟨hc, hf⟩ := bcell hb; have hz := hb.size; have Hb := Lib.hid hb; (try simp at hz hc hf); (try (have hy := Nat.lt_of_succ_le hz)); have hz0 : w.heap.size < w1.heap.size := (by omega); have hz1 : w.heap.size + 1 < w1.heap.size := (by omega); clear hb)
        have Hb2 := Hb
        have hg1 : wo.heap.size < w1.heap.size := by omega
        go_wp2_with fail
        go_roundw
        case rel =>
          refine ⟨k / 2, r, mul p h h, by omega, by omega, rfl, HR.out, mul_ok HH.out HH.out, ?_, ?_, ?_, ?_, ?_, ?_⟩
          · rw [← HI.out, ← HI0.out (by have := HP.out; omega)]; congr 1; omega
          · (repeat' (first | (with_reducible exact Below.refl _ _) | (with_reducible refine Below.alloc ?_ ?_ _) | (with_reducible refine Below.setCell ?_ ?_ _) | (with_reducible refine Below.drew ?_) | (with_reducible refine below_drewN ?_ _) | (with_reducible refine Below.trans ?_ (Below.mono (Hid.out (by assumption)) ?_)) | omega | (simp; done) | (simp; omega)))
          · simp; omega
          · exact chainM ((Hb2.out.block _ hw0).trans B0.out)
          · exact (chain_ne _ _ _ _ _ _ _ _ _ (by omega)).trans ((Hb2.out.block _ (by omega)).trans B1.out)
          · exact (chain_ne _ _ _ _ _ _ _ _ _ hne1).trans ((Hb2.out.block _ hsz).trans B2.out)
        case measure => simp [intOf]; omega
    · have hk00 : k = 0 := by omega
      subst hk00
      have hfin : r = pow p f k0.toNat := HI.out
      obtain ⟨r0, r1, r2, r3, r4, r5⟩ := blk6 B2.out
      obtain ⟨z0, z1, z2, z3, z4, z5⟩ := blk6 B1.out
      have fr1 := blk_free B1.out
      have HFIN := Lib.hid hfin
      clear hfin
      go_wp2_with fail
      refine bodyPost_ret (v := mv p r) (by simp [results, Try.results42, go_sem, z0, z1, z2, z3, z4, z5]) rfl ⟨by rw [HFIN.out], ?_⟩
      (repeat' (first | (with_reducible exact Below.refl _ _) | (with_reducible refine Below.alloc ?_ ?_ _) | (with_reducible refine Below.setCell ?_ ?_ _) | (with_reducible refine Below.drew ?_) | (with_reducible refine below_drewN ?_ _) | (with_reducible refine Below.trans ?_ (Below.mono (Hid.out (by assumption)) ?_)) | omega | (simp; done) | (simp; omega)))

set_option maxHeartbeats 1000000 in
theorem ipow_any (p : Int) (f : Nat → Int) (hf : isB p f = true) (k0 : Int) (hk : 0 ≤ k0) (hk2 : k0 ≤ 1000000000000) (w : World) :
    Calls Try.prog 39 #[mv p f, .int .i64 k0] w fun e w' => e = .returned (mv p (pow p f k0.toNat)) ∧ Below w.heap.size w w' := by
  obtain ⟨h1, h5⟩ := isB_pts hf
  have hF := Lib.hid hf
  clear hf
  simp only [mv, mcells]
  go_enter Try.func39, Try.ntmps39
  go_wp2_with fail
  (refine (iid_any p h1 h5 _).mono ?_; rintro e w1 ⟨rfl, hb⟩; simp only [mv, mcells]; obtain ⟨hc, hf⟩ := bcell hb; have hz := hb.size; have Hb := Lib.hid hb; (try simp at hz hc hf); (try (have hy := Nat.lt_of_succ_le hz)); have hz0 : w.heap.size < w1.heap.size := (by omega); have hz1 : w.heap.size + 1 < w1.heap.size := (by omega); clear hb)
  go_wp2_with fail
  obtain ⟨wo, hwo⟩ : ∃ wo, wo = w1 := ⟨_, rfl⟩
  subst hwo
  have hw1 : w.heap.size + 1 < wo.heap.size := by omega
  go_loopw [1] (fun i wr => ∃ (k : Int) (r h : Nat → Int), 0 ≤ k ∧ k ≤ 1000000000000 ∧ i = .int .i64 k ∧ isB p r = true ∧ isB p h = true ∧ itrF p r h k.toNat = pow p f k0.toNat ∧ Below w.heap.size w wr ∧ wo.heap.size < wr.heap.size ∧
      wr.heap[w.heap.size]? = some (.cells (mcells p h) 26 (0, 0)) ∧ wr.heap[w.heap.size + 1]? = some (.cells (mcells 0 fun _ => 0) 26 (0, 0)) ∧ wr.heap[wo.heap.size]? = some (.cells (mcells p r) 26 (0, 0))) (fun i _ => (intOf i).toNat)
  case atStart =>
    refine ⟨k0, idn p, f, hk, hk2, rfl, idn_ok h1 h5, hF.out, rfl, ?_, by simp, ?_, ?_, ?_⟩
    · (repeat' (first | (with_reducible exact Below.refl _ _) | (with_reducible refine Below.alloc ?_ ?_ _) | (with_reducible refine Below.setCell ?_ ?_ _) | (with_reducible refine Below.drew ?_) | (with_reducible refine below_drewN ?_ _) | (with_reducible refine Below.trans ?_ (Below.mono (Hid.out (by assumption)) ?_)) | omega | (simp; done) | (simp; omega)))
    · (repeat' (first | omega | (rw [hdrew]) | (with_reducible assumption) | (with_reducible exact Hid.out (by assumption)) | (with_reducible rfl) | ((with_reducible refine halloc_at _ _ _ ?_) <;> (first | (with_reducible rfl) | omega | (simp; done))) | (with_reducible refine chain6 ?_) | (with_reducible refine Eq.trans (hset_ne _ _ _ _ ?_) ?_) | (with_reducible refine Eq.trans (halloc_lt _ _ _ ?_) ?_) | (with_reducible refine Eq.trans (Below.block (Hid.out (by assumption)) _ ?_) ?_) | (simp; done) | (simp; omega)))
    · (repeat' (first | omega | (rw [hdrew]) | (with_reducible assumption) | (with_reducible exact Hid.out (by assumption)) | (with_reducible rfl) | ((with_reducible refine halloc_at _ _ _ ?_) <;> (first | (with_reducible rfl) | omega | (simp; done))) | (with_reducible refine chain6 ?_) | (with_reducible refine Eq.trans (hset_ne _ _ _ _ ?_) ?_) | (with_reducible refine Eq.trans (halloc_lt _ _ _ ?_) ?_) | (with_reducible refine Eq.trans (Below.block (Hid.out (by assumption)) _ ?_) ?_) | (simp; done) | (simp; omega)))
    · (repeat' (first | omega | (rw [hdrew]) | (with_reducible assumption) | (with_reducible exact Hid.out (by assumption)) | (with_reducible rfl) | ((with_reducible refine halloc_at _ _ _ ?_) <;> (first | (with_reducible rfl) | omega | (simp; done))) | (with_reducible refine chain6 ?_) | (with_reducible refine Eq.trans (hset_ne _ _ _ _ ?_) ?_) | (with_reducible refine Eq.trans (halloc_lt _ _ _ ?_) ?_) | (with_reducible refine Eq.trans (Below.block (Hid.out (by assumption)) _ ?_) ?_) | (simp; done) | (simp; omega)))
  case round =>
    clear hc hf hz hz0 hz1 hy Hb
    obtain ⟨k, r, h, hk0, hk9, rfl, hr, hh, hI, hb, hsz, b0, b1, b2⟩ := hrel
    have HR := Lib.hid hr
    have HH := Lib.hid hh
    have HI := Lib.hid hI
    have Hb := Lib.hid hb
    have B0 := Lib.hid b0
    have B1 := Lib.hid b1
    have B2 := Lib.hid b2
    clear hr hh hI hb b0 b1 b2
    by_cases hpos : 0 < k
    · obtain ⟨e0, e1, e2, e3, e4, e5⟩ := blk6 B0.out
      obtain ⟨r0, r1, r2, r3, r4, r5⟩ := blk6 B2.out
      have fr0 := blk_free B0.out
      have fr2 := blk_free B2.out
      have hw0 : w.heap.size < wr.heap.size := by omega
      have hTrr := Lib.hid fun w => product_any p r h HR.out HH.out w
      have hThh := Lib.hid fun w => product_any p h h HH.out HH.out w
      have hne1 : wo.heap.size ≠ w.heap.size := by omega
      have hne2 : w.heap.size ≠ wo.heap.size := by omega
      have hI0 := itrF_even HH.out HR.out k.toNat
      have hI1 := itrF_odd HH.out HR.out k.toNat
      have HI0 := Lib.hid hI0
      have HI1 := Lib.hid hI1
      clear hI0 hI1
      by_cases hpar : k % 2 = 1
      · have hpar' : (k % 2 == 1) = true := by simp [hpar]
        have HP := Lib.hid hpar
        clear hpar
        go_wp2_with fail
        (refine (hTrr.out _).mono ?_; rintro e w1 ⟨rfl, hb⟩; simp only [mv, mcells]; obtain ⟨hc, hf⟩ := bcell hb; have hz := hb.size; have Hb := Lib.hid hb; (try simp at hz hc hf); (try (have hy := Nat.lt_of_succ_le hz)); have hz0 : w.heap.size < w1.heap.size := (by omega); have hz1 : w.heap.size + 1 < w1.heap.size := (by omega); clear hb)
        have Hb1 := Hb
        have hg1 : wo.heap.size < w1.heap.size := by omega
        go_wp2_with fail
        (refine (hThh.out _).mono ?_; rintro e w1 ⟨rfl, hb⟩; simp only [mv, mcells]; obtain ⟨hc, hf⟩ := bcell hb; have hz := hb.size; have Hb := Lib.hid hb; (try simp at hz hc hf); (try (have hy := Nat.lt_of_succ_le hz)); have hz0 : w.heap.size < w1.heap.size := (by omega); have hz1 : w.heap.size + 1 < w1.heap.size := (by omega); clear hb)
        have Hb2 := Hb
        have hg1 : wo.heap.size < w1.heap.size := by omega
        go_wp2_with fail
        go_roundw
        case rel =>
          refine ⟨k / 2, mul p r h, mul p h h, by omega, by omega, rfl, mul_ok HR.out HH.out, mul_ok HH.out HH.out, ?_, ?_, ?_, ?_, ?_, ?_⟩
          · rw [← HI.out, ← HI1.out (by have := HP.out; omega)]; congr 1; omega
          · (repeat' (first | (with_reducible exact Below.refl _ _) | (with_reducible refine Below.alloc ?_ ?_ _) | (with_reducible refine Below.setCell ?_ ?_ _) | (with_reducible refine Below.drew ?_) | (with_reducible refine below_drewN ?_ _) | (with_reducible refine Below.trans ?_ (Below.mono (Hid.out (by assumption)) ?_)) | omega | (simp; done) | (simp; omega)))
          · simp; omega
          · exact chainM ((Hb2.out.block _ (by simp; omega)).trans ((chain_ne _ _ _ _ _ _ _ _ _ hne2).trans ((Hb1.out.block _ hw0).trans B0.out)))
          · exact (chain_ne _ _ _ _ _ _ _ _ _ (by omega)).trans ((Hb2.out.block _ (by simp; omega)).trans ((chain_ne _ _ _ _ _ _ _ _ _ (by omega)).trans ((Hb1.out.block _ (by omega)).trans B1.out)))
          · exact (chain_ne _ _ _ _ _ _ _ _ _ hne1).trans ((Hb2.out.block _ (by simp; omega)).trans (chainM ((Hb1.out.block _ hsz).trans B2.out)))
        case measure => simp [intOf]; omega
      · have hpar' : (k % 2 == 1) = false := by simp [hpar]
        have HP := Lib.hid hpar
        clear hpar
        go_wp2_with fail
        (refine (hThh.out _).mono ?_; rintro e w1 ⟨rfl, hb⟩; simp only [mv, mcells]; obtain ⟨hc, hf⟩ := bcell hb; have hz := hb.size; have Hb := Lib.hid hb; (try simp at hz hc hf); (try (have hy := Nat.lt_of_succ_le hz)); have hz0 : w.heap.size < w1.heap.size := (by omega); have hz1 : w.heap.size + 1 < w1.heap.size := (by omega); clear hb)
        have Hb2 := Hb
        have hg1 : wo.heap.size < w1.heap.size := by omega
        go_wp2_with fail
        go_roundw
        case rel =>
          refine ⟨k / 2, r, mul p h h, by omega, by omega, rfl, HR.out, mul_ok HH.out HH.out, ?_, ?_, ?_, ?_, ?_, ?_⟩
          · rw [← HI.out, ← HI0.out (by have := HP.out; omega)]; congr 1; omega
          · (repeat' (first | (with_reducible exact Below.refl _ _) | (with_reducible refine Below.alloc ?_ ?_ _) | (with_reducible refine Below.setCell ?_ ?_ _) | (with_reducible refine Below.drew ?_) | (with_reducible refine below_drewN ?_ _) | (with_reducible refine Below.trans ?_ (Below.mono (Hid.out (by assumption)) ?_)) | omega | (simp; done) | (simp; omega)))
          · simp; omega
          · exact chainM ((Hb2.out.block _ hw0).trans B0.out)
          · exact (chain_ne _ _ _ _ _ _ _ _ _ (by omega)).trans ((Hb2.out.block _ (by omega)).trans B1.out)
          · exact (chain_ne _ _ _ _ _ _ _ _ _ hne1).trans ((Hb2.out.block _ hsz).trans B2.out)
        case measure => simp [intOf]; omega
    · have hk00 : k = 0 := by omega
      subst hk00
      have hfin : r = pow p f k0.toNat := HI.out
      obtain ⟨r0, r1, r2, r3, r4, r5⟩ := blk6 B2.out
      obtain ⟨z0, z1, z2, z3, z4, z5⟩ := blk6 B1.out
      have fr1 := blk_free B1.out
      have HFIN := Lib.hid hfin
      clear hfin
      go_wp2_with fail
      refine bodyPost_ret (v := mv p r) (by simp [results, Try.results39, go_sem, z0, z1, z2, z3, z4, z5]) rfl ⟨by rw [HFIN.out], ?_⟩
      (repeat' (first | (with_reducible exact Below.refl _ _) | (with_reducible refine Below.alloc ?_ ?_ _) | (with_reducible refine Below.setCell ?_ ?_ _) | (with_reducible refine Below.drew ?_) | (with_reducible refine below_drewN ?_ _) | (with_reducible refine Below.trans ?_ (Below.mono (Hid.out (by assumption)) ?_)) | omega | (simp; done) | (simp; omega)))
end Go.Proofs.Ythblbamiammodaa
