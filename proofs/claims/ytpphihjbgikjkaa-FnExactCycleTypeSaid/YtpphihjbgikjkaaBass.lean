/- The contracts of spec.l09Basins and spec.BasinsOf. -/
import Derived.Test.YtpphihjbgikjkaaBsp
import Derived.Test.YtpphihjbgikjkaaOwn
import Derived.Deep.LoopGhost
namespace Go.Proofs.Ytpphihjbgikjkaa
open Go Go.RowKit

theorem Own.bel8 {w w' : World} {B : Nat} {v : Value} {L : List Int} (h : Own w B v L) (hb : Below w.heap.size w w') : Own w' B v L :=
  World.ownsRow.kept (row := none) h ⟨hb.os, hb.tape, hb.output, hb.size, fun j hj _ => hb.block j hj⟩ (by cases hv : v.ownBlock <;> simp)

theorem fld_run (p a b c d e : Int) (w : World) : (Instr.field 28 (.agg #[.int .i64 p, .int .i64 a, .int .i64 b, .int .i64 c, .int .i64 d, .int .i64 e]) 1).run Try.prog w = .ok (.agg #[.int .i64 a, .int .i64 b, .int .i64 c, .int .i64 d, .int .i64 e]) w := by kernel_rfl

theorem idx_run (f : Nat → Int) (k : Nat) (hk : k < 5) (w : World) : (Instr.index 22 (.agg #[.int .i64 (f 0), .int .i64 (f 1), .int .i64 (f 2), .int .i64 (f 3), .int .i64 (f 4)]) (.int .i64 (k : Int))).run Try.prog w = .ok (.int .i64 (f k)) w := by
  rcases (by omega : k = 0 ∨ k = 1 ∨ k = 2 ∨ k = 3 ∨ k = 4) with rfl | rfl | rfl | rfl | rfl <;> kernel_rfl

set_option maxRecDepth 100000 in
set_option maxHeartbeats 4000000 in
theorem sbas_any (n : Nat) (t : Nat → Int) (ht : isB (n : Int) t = true) (w : World) :
    Calls Try.prog 24 #[mv (n : Int) t] w (RetOwn w.heap.size (bsL t n) w) := by
  obtain ⟨h1, h5⟩ := isB_pts ht
  have HT := Lib.hid ht
  have HP := Lib.hid fun w => spow_any (n : Int) t ht 60 (by omega) (by omega) w
  simp only [show (60 : Int).toNat = 60 from rfl] at HP
  have HLEN := Lib.hid (bsL_len t)
  have HSUC := Lib.hid (bsL_succ t)
  have hb0 : Below w.heap.size w ((w.alloc (.cells (mcells (n : Int) t) 28)).alloc (.cells #[] 2)) := by (repeat' (first | (with_reducible exact Below.refl _ _) | (with_reducible refine Below.alloc ?_ ?_ _) | (with_reducible refine Below.setCell ?_ ?_ _) | (with_reducible refine Below.drew ?_) | (with_reducible refine below_drewN ?_ _) | (with_reducible refine Below.trans ?_ (Below.mono (Hid.out (by assumption)) ?_)) | omega | (simp; done) | (simp; omega)))
  obtain ⟨wz, hwz⟩ : ∃ wz, wz = (w.alloc (.cells (mcells (n : Int) t) 28)).alloc (.cells #[] 2) := ⟨_, rfl⟩
  have HOE : Hid (Own wz (w.heap.size + 1) (.slice (some ⟨w.heap.size + 1, 0, none⟩) 0 0) []) := Lib.hid (by
    rw [hwz]
    have h := own_empty (w.alloc (.cells (mcells (n : Int) t) 28)) (w.heap.size + 1) (by simp)
    rw [World.size_alloc] at h
    exact h)
  have HXZ : Hid (wz.heap[w.heap.size]? = some (.cells (mcells (n : Int) t) 28 (0, 0))) := Lib.hid (by rw [hwz]; exact (halloc_lt _ _ _ (by simp)).trans (halloc_at _ _ _ rfl))
  have HBZ : Hid (Below w.heap.size w wz) := Lib.hid (by rw [hwz]; exact hb0)
  have hzz : w.heap.size + 1 < wz.heap.size := by rw [hwz]; simp
  clear ht hb0
  simp only [mv] at *
  simp only [mcells] at HP hwz
  simp only [mcells]
  go_enter Try.func24, Try.ntmps24
  go_wp2_with fail
  rw [← hwz]
  clear hwz
  go_loopw [3, 4, 5, 6, 7] (fun v i _ _ _ wr => ∃ k : Nat, k ≤ n ∧ i = .int .i64 k ∧ Own wr (w.heap.size + 1) v (bsL t k) ∧ Below w.heap.size w wr ∧ w.heap.size < wr.heap.size ∧ wr.heap[w.heap.size]? = some (.cells (mcells (n : Int) t) 28 (0, 0))) (fun _ i _ _ _ _ => n - (intOf i).toNat)
  case atStart => exact ⟨0, by omega, rfl, HOE.out, HBZ.out, by omega, HXZ.out⟩
  case round =>
    obtain ⟨k, hk, rfl, hown, hb, hsz, hbx⟩ := hrel
    have HO := Lib.hid hown
    have HB := Lib.hid hb
    have HX := Lib.hid hbx
    obtain ⟨x0, x1, x2, x3, x4, x5⟩ := blk6 hbx
    clear hown hb hbx
    by_cases hkn : k < n
    · have hkn' : (k : Int) < (n : Int) := by omega
      have k5' : (k : Int) < 5 := by omega
      have hclt := orb_lt HT.out 60 k hkn'
      have HC60 := Lib.hid (cyc_60 HT.out hkn')
      have HPA := Lib.hid (pow_at HT.out 60 k hkn')
      have HS1 := Lib.hid (HSUC.out k)
      have HL1 := Lib.hid (HLEN.out k)
      have hfld := fld_run (n : Int) (pow (n : Int) t 60 0) (pow (n : Int) t 60 1) (pow (n : Int) t 60 2) (pow (n : Int) t 60 3) (pow (n : Int) t 60 4)
      have hidx := idx_run (pow (n : Int) t 60) k (by omega)
      rw [HPA.out] at hidx
      obtain ⟨wo, hwo⟩ : ∃ wo, wo = wr := ⟨_, rfl⟩
      subst hwo
      go_wp2_with fail
      refine (HP.out _).mono ?_
      rintro e w1 ⟨rfl, hb⟩
      have hx1 := (hb.block w.heap.size hsz).trans HX.out
      obtain ⟨y0, y1, y2, y3, y4, y5⟩ := blk6 hx1
      have hs1 := hb.size
      have hq0 := blk_at hx1 (orb t 60 k) (by omega)
      have hc5 : (orb t 60 k : Int) < 5 := by omega
      have HB1 := Lib.hid hb
      have HX1 := Lib.hid hx1
      have hsz1 : w.heap.size < w1.heap.size := by omega
      clear hb hx1
      go_wp2_with fail
      obtain ⟨c, hc⟩ : ∃ c, c = orb t 60 k := ⟨_, rfl⟩
      rw [← hc] at HC60 HS1 hclt hc5 hq0 ⊢
      have hcn : c < n := by omega
      have hq1 : Hid (t c = (orb t 1 c : Int)) := Lib.hid (stp_ok HT.out hcn).2.symm
      clear hc hq0 hidx hfld y0 y1 y2 y3 y4 y5 x0 x1 x2 x3 x4 x5
      rw [hq1.out]
      go_loopg [6, 7] 59 (fun g m q wx => ∃ j : Nat, 1 ≤ j ∧ j + g = 60 ∧ m = .int .i64 (mnK (itL t c 61) (j - 1)) ∧ q = .int .i64 (orb t j c : Int) ∧ wx = w1)
      case atStart => exact ⟨1, by omega, by omega, rfl, rfl, rfl⟩
      case round =>
        obtain ⟨j, hj1, hj60, rfl, rfl, rfl⟩ := hrel
        by_cases he : orb t j c = c
        · have HVB : Hid (bsF t c = mnK (itL t c 61) (j - 1)) := Lib.hid (lst_one (bsF_lst HC60.out) (mnK_lst hj1 (by omega) he))
          rw [HVB.out] at HS1
          have he' : ((orb t j c : Int) != (c : Int)) = false := by rw [he]; simp
          have HO1 := Lib.hid (Own.bel8 HO.out HB1.out)
          clear he HVB
          generalize mnK (itL t c 61) (j - 1) = M at *
          generalize orb t j c = O at *
          go_wp2_with (at_builtin; refine wpList_app9 rfl _ _ rfl (w.heap.size + 1) _ (bsL t k) rfl (World.ownsRow.alloc HO1.out _) wr.heap.size 1 M rfl (halloc_at _ _ _ rfl) (by rw [HL1.out]; omega) (by simp; omega) ?_; intro v' w5 ho hg _)
          have hne := fun (r : Nat) (e : u3.ownBlock = some r) => (HO1.out.lt r e).1
          have hb3 : Below w.heap.size w w5 := ((HB.out.trans (HB1.out.mono HB.out.size)).alloc (by omega) _).grown hg (by simp; omega) (fun r e => by have := hne r e; omega)
          have hx3 : w5.heap[w.heap.size]? = some (.cells (mcells (n : Int) t) 28 (0, 0)) := (hg.block _ (by simp; omega) (fun e => by have := hne _ e.symm; omega)).trans ((halloc_lt _ _ _ hsz1).trans HX1.out)
          have hz5 : w.heap.size < w5.heap.size := (Array.getElem?_eq_some_iff.1 hx3).1
          rw [← HS1.out] at ho
          have HO3 := Lib.hid ho
          have HB3 := Lib.hid hb3
          have HX3 := Lib.hid hx3
          clear ho hg hb3 hx3 hne
          go_wp2_with fail
          go_roundw
          case rel => exact ⟨k + 1, by omega, by go_num, HO3.out, HB3.out, hz5, HX3.out⟩
          case measure => simp [intOf]; omega
        · have hj : j < 60 := by
            by_cases e : j = 60
            · rw [e] at he; exact absurd HC60.out he
            · omega
          have he' : ((orb t j c : Int) != (c : Int)) = true := by simp; omega
          have hltj := orb_lt HT.out j c (by omega)
          have e1 := blk_at HX1.out (orb t j c) (by omega)
          have hj5 : (orb t j c : Int) < 5 := by omega
          have hnx : Hid (t (orb t j c) = (orb t (j + 1) c : Int)) := Lib.hid (stp_ok HT.out (by omega)).2.symm
          have HMN : Hid (mnK (itL t c 61) j = if (orb t j c : Int) < mnK (itL t c 61) (j - 1) then (orb t j c : Int) else mnK (itL t c 61) (j - 1)) := Lib.hid (by
            rw [mnK_step _ hj1, itL_at _ _ _ _ (by omega)])
          clear he
          generalize mnK (itL t c 61) (j - 1) = M at *
          generalize orb t j c = O at *
          by_cases hlt : (O : Int) < M
          · have HM2 : Hid (mnK (itL t c 61) j = (O : Int)) := Lib.hid (by rw [HMN.out, if_pos hlt])
            go_wp2_with fail
            go_roundg (gk - 1)
            case rel => exact ⟨j + 1, by omega, by omega, by rw [Nat.add_sub_cancel, HM2.out], by rw [hnx.out], rfl⟩
            case measure => omega
          · have HM2 : Hid (mnK (itL t c 61) j = M) := Lib.hid (by rw [HMN.out, if_neg hlt])
            go_wp2_with fail
            go_roundg (gk - 1)
            case rel => exact ⟨j + 1, by omega, by omega, by rw [Nat.add_sub_cancel, HM2.out], by rw [hnx.out], rfl⟩
            case measure => omega
    · obtain rfl : k = n := by omega
      have hkn' : ¬ ((k : Int) < (k : Int)) := by omega
      go_wp2_with fail
      go_ret
      exact ⟨_, rfl, Joins.ownsRow_le HO.out (by omega), HB.out⟩



end Go.Proofs.Ytpphihjbgikjkaa
