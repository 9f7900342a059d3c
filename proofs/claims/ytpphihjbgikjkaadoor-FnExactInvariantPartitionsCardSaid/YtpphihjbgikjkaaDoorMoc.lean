/- The contract of impl.mapOfClasses. -/
import Derived.Test.YtpphihjbgikjkaaDoorIvp
import Derived.Test.YtpphihjbgikjkaaDoorRss
import Derived.Deep.DeepCutAuto
namespace Go.Proofs.YtpphihjbgikjkaaDoor
open Go Go.RowKit

/-- The map of classes, or the error of what is not invariant. -/
def mocV (P : List Int) (t : Nat → Int) (n : Nat) : Value := if invT P t n = true then .tuple #[mv (nxK P n : Int) (qmF P t n), .int .i64 0] else .tuple #[mv 0 (fun _ => 0), .int .i64 5]

set_option maxRecDepth 100000 in
set_option maxHeartbeats 8000000 in
theorem imoc_any (P : List Int) (n : Nat) (hn : n ≤ 5) (hok : ∀ j, j < n → okP P j = true) (hPl : P.length = n) (t : Nat → Int) (ht : isB (n : Int) t = true) (aP : Option Addr) (cP : Nat) (aC : Option Addr) (cC : Nat) (w : World) (hrP : InRow w aP P) (hrC : InRowL w aC (clsK P n)) :
    Calls Tryd.prog 50 #[mv (n : Int) t, .slice aP n cP, .slice aC (nxK P n) cC] w fun e w' => e = .returned (mocV P t n) ∧ Below w.heap.size w w' := by
  have hvy : invT P t n = true → mocV P t n = .tuple #[mv (nxK P n : Int) (qmF P t n), .int .i64 0] := fun h => by unfold mocV; rw [if_pos h]
  have hvn : invT P t n = false → mocV P t n = .tuple #[mv 0 (fun _ => 0), .int .i64 5] := fun h => by unfold mocV; rw [if_neg (by rw [h]; exact Bool.false_ne_true)]
  obtain ⟨V, hV⟩ : ∃ V, V = mocV P t n := ⟨_, rfl⟩
  rw [← hV] at hvy hvn ⊢
  have HVY := Lib.hid hvy
  have HVN := Lib.hid hvn
  clear hV hvy hvn
  have HOK := Lib.hid hok
  have HT := Lib.hid ht
  have HP := Lib.hid hrP
  have HC := Lib.hid hrC
  have HL := Lib.hid hPl
  have hmn := nxK_le P n
  have HF := Lib.hid fun c hc => fpC_in (c := c) hok hc
  have HFU := Lib.hid fun c hc => rowP_full (c := c) hok hc
  have HQF : Hid (qmF P t n = qmK P t n (nxK P n)) := Lib.hid rfl
  have HCL := Lib.hid (clsK_len P n)
  have HCA := Lib.hid (clsK_at P n)
  clear hok ht hrP hrC hPl
  obtain ⟨m, hm⟩ : ∃ m, m = nxK P n := ⟨_, rfl⟩
  have HM := Lib.hid hm
  rw [← hm] at hmn HVY HF HFU HQF HCL HCA ⊢
  clear hm
  simp only [mv, mcells]
  go_enter Tryd.func50, Tryd.ntmps50
  go_wp2_with fail
  obtain ⟨wz, hwz⟩ : ∃ wz, wz = ((w.alloc (.cells (mcells (n : Int) t) 49)).alloc (.cells (mcells 0 fun _ => 0) 49)).alloc (.cells (mcells (m : Int) fun _ => 0) 49) := ⟨_, rfl⟩
  have HBZ : Hid (Below w.heap.size w wz) := Lib.hid (by rw [hwz]; (repeat' (first | (with_reducible exact Below.refl _ _) | (with_reducible refine Below.alloc ?_ ?_ _) | (with_reducible refine Below.setCell ?_ ?_ _) | (with_reducible refine Below.drew ?_) | (with_reducible refine below_drewN ?_ _) | (with_reducible refine Below.trans ?_ (Below.mono (Hid.out (by assumption)) ?_)) | omega | (simp; done) | (simp; omega))))
  have HZ0 : Hid (wz.heap[w.heap.size]? = some (.cells (mcells (n : Int) t) 49 (0, 0))) := Lib.hid (by rw [hwz]; exact (halloc_lt _ _ _ (by simp; omega)).trans ((halloc_lt _ _ _ (by simp)).trans (halloc_at _ _ _ rfl)))
  have HZ1 : Hid (wz.heap[w.heap.size + 1]? = some (.cells (mcells 0 fun _ => 0) 49 (0, 0))) := Lib.hid (by rw [hwz]; exact (halloc_lt _ _ _ (by simp)).trans (halloc_at _ _ _ (by simp)))
  have HZ2 : Hid (wz.heap[w.heap.size + 1 + 1]? = some (.cells (mcells (m : Int) (qmK P t n 0)) 49 (0, 0))) := Lib.hid (by rw [hwz, qmK_zero]; exact halloc_at _ _ _ (by simp))
  have hzs : w.heap.size + 1 + 1 < wz.heap.size := by rw [hwz]; simp
  have HZS := Lib.hid hzs
  simp only [mcells] at hwz
  rw [← hwz]
  clear hwz hzs
  go_loopw [9, 10, 12, 18] (fun _ _ _ i wr => ∃ k : Nat, k ≤ m ∧ i = .int .i64 (k : Int) ∧ wr.heap[w.heap.size]? = some (.cells (mcells (n : Int) t) 49 (0, 0)) ∧ wr.heap[w.heap.size + 1]? = some (.cells (mcells 0 fun _ => 0) 49 (0, 0)) ∧
      wr.heap[w.heap.size + 1 + 1]? = some (.cells (mcells (m : Int) (qmK P t n k)) 49 (0, 0)) ∧ (∀ c, c < k → ∀ p, p < n → P.getD p 0 = (c : Int) → P.getD (t p).toNat 0 = P.getD (t (fpC P n c)).toNat 0) ∧ Below w.heap.size w wr ∧ w.heap.size + 1 + 1 < wr.heap.size) (fun _ _ _ i _ => m - (intOf i).toNat)
  case atStart => exact ⟨0, by omega, rfl, HZ0.out, HZ1.out, HZ2.out, fun c hc => by omega, HBZ.out, HZS.out⟩
  case round =>
    obtain ⟨k, hk, rfl, b0, b1, b2, hin, hb, hsz⟩ := hrel
    have B0 := Lib.hid b0
    have B1 := Lib.hid b1
    have B2 := Lib.hid b2
    have HI := Lib.hid hin
    have HB := Lib.hid hb
    clear b0 b1 b2 hin hb
    obtain ⟨wo, hwo⟩ : ∃ wo, wo = wr := ⟨_, rfl⟩
    subst hwo
    by_cases hkm : k < m
    · have hkm' : (k : Int) < (m : Int) := by omega
      obtain ⟨bC, oC, rfl, hbC, hcC⟩ := HC.out.resolve_left (fun e => by have := HCL.out; rw [e] at this; simp at this; omega)
      obtain ⟨ar, cr, hrow, hir⟩ := hcC k (by rw [HCL.out]; exact hkm)
      rw [HCA.out k hkm] at hrow hir
      have hrow := (HB.out.cell (p := ⟨bC, oC + k, none⟩) hbC).trans hrow
      have hne := HFU.out k hkm
      have HRL := Lib.hid fun j hj => rowP_at (P := P) (c := k) (n := n) (j := j) hj
      have HRH := Lib.hid fun p hp h => rowP_has (P := P) (c := k) (n := n) (p := p) hp h
      have hrl := rowP_len P k n
      obtain ⟨f0, f1, f2⟩ := HF.out k hkm
      have HR0 := Lib.hid f0
      have HF1 := Lib.hid f1
      have HF2 := Lib.hid f2
      have HSU := Lib.hid (qmK_succ P t n k)
      clear hcC
      generalize rowP P k n = R at *
      obtain ⟨bR, oR, rfl, hbR, hcR⟩ := hir.resolve_left hne
      have hR0 : 0 < R.length := by
        cases R with
        | nil => exact absurd rfl hne
        | cons x l => simp
      have hR0' : (0 : Int) < (R.length : Int) := by omega
      have hx0 := (HB.out.cell (p := ⟨bR, oR + 0, none⟩) hbR).trans (hcR 0 hR0)
      rw [Nat.add_zero, f0] at hx0
      have HCR := Lib.hid hcR
      obtain ⟨q, hq⟩ : ∃ q, q = fpC P n k := ⟨_, rfl⟩
      rw [← hq] at hx0 HF1 HF2 HSU
      have HQ := Lib.hid hq
      obtain ⟨t0, t1, t5⟩ := ok_at HT.out q (by rw [hq]; omega)
      have htq := blk_at B0.out q t5
      obtain ⟨x, hx⟩ := Int.eq_ofNat_of_zero_le t0
      rw [hx] at htq HSU
      simp only [Int.toNat_natCast] at HSU
      have HX := Lib.hid hx
      have hxn : x < n := by omega
      obtain ⟨bP, oP, rfl, hbP, hcP⟩ := HP.out.resolve_left (fun e => by have := HL.out; rw [e] at this; simp at this; omega)
      have hpx := (HB.out.cell (p := ⟨bP, oP + x, none⟩) hbP).trans (hcP x (by rw [HL.out]; exact hxn))
      have HCP := Lib.hid hcP
      have hq5 : (q : Int) < 5 := by omega
      have hk5 : (k : Int) < 5 := by omega
      have hxn' : (x : Int) < (n : Int) := by omega
      have hgk := blk_at B2.out k (by omega)
      have hgf := blk_free B2.out (1 + k)
      have hbs := blk_set B2.out k (by omega) (P.getD x 0)
      rw [HSU.out] at hbs
      have hbl0 : w.heap.size < wo.heap.size := by omega
      obtain ⟨X, hX⟩ : ∃ X, X = P.getD x 0 := ⟨_, rfl⟩
      rw [← hX] at hpx hbs
      obtain ⟨wy, hwy⟩ : ∃ wy, wy = wo.setCell ⟨w.heap.size + 1 + 1, 1 + k, none⟩ (.int .i64 X) := ⟨_, rfl⟩
      rw [← hwy] at hbs
      have HBS := Lib.hid hbs
      have HXX := Lib.hid hX
      have hyz : wy.heap.size = wo.heap.size := by rw [hwy]; simp
      have HYB : Hid (∀ b, b ≠ w.heap.size + 1 + 1 → wy.heap[b]? = wo.heap[b]?) := Lib.hid fun b hb => by rw [hwy]; exact hset_ne _ _ _ _ hb
      have HYW : Hid (Below w.heap.size w wy) := Lib.hid (by rw [hwy]; exact HB.out.setCell (by simp; omega) _)
      clear hbs hX hq hx hcP hcR f0 f1 f2 hir hne t0 t1
      go_upto_region 6 with fail
      rw [← hwy]
      have hwl := HB.out.size
      have HY0 : Hid (wy.heap[w.heap.size]? = some (.cells (mcells (n : Int) t) 49 (0, 0))) := Lib.hid ((HYB.out _ (by omega)).trans B0.out)
      have HY1 : Hid (wy.heap[w.heap.size + 1]? = some (.cells (mcells 0 fun _ => 0) 49 (0, 0))) := Lib.hid ((HYB.out _ (by omega)).trans B1.out)
      have hbCy : bC < wy.heap.size := by omega
      have hbRy : bR < wy.heap.size := by omega
      have hbPy : bP < wy.heap.size := by omega
      have hly0 : w.heap.size < wy.heap.size := by omega
      have hly1 : w.heap.size + 1 < wy.heap.size := by omega
      have hly2 : w.heap.size + 1 + 1 < wy.heap.size := by omega
      have HGK : Hid (wy.cell? ⟨w.heap.size + 1 + 1, 1 + k, none⟩ = some (.int .i64 X)) := Lib.hid (by
        have h := blk_at HBS.out k (by omega)
        rw [qmK_at P t n (k + 1) k (by omega), ← HQ.out, HX.out, Int.toNat_natCast, ← HXX.out] at h
        exact h)
      clear hwy hpx hx0 htq hgk hgf hrow hyz
      go_wp2_with fail
      go_loopw [12, 37] (fun _ i wx => ∃ j mm : Nat, j ≤ R.length ∧ i = .int .i64 (j : Int) ∧ wx = wy.drewN mm ∧ ∀ i, i < j → ∀ p : Nat, R.getD i 0 = (p : Int) → P.getD (t p).toNat 0 = X) (fun _ i _ => R.length - (intOf i).toNat)
      case atStart => exact ⟨0, 0, by omega, rfl, rfl, fun i hi => by omega⟩
      case round =>
        obtain ⟨j, mm, hj, rfl, rfl, hal⟩ := hrel
        have HAL := Lib.hid hal
        clear hal
        by_cases hjr : j < R.length
        · have hjr' : (j : Int) < (R.length : Int) := by omega
          obtain ⟨p, ep, hpn, hpk⟩ := HRL.out j hjr
          have y1 := (HYW.out.cell (p := ⟨bR, oR + j, none⟩) hbR).trans (HCR.out j hjr)
          rw [ep] at y1
          have HEP := Lib.hid ep
          have HPK := Lib.hid hpk
          clear ep hpk
          obtain ⟨s0, s1, s5⟩ := ok_at HT.out p (by omega)
          obtain ⟨z, hz⟩ := Int.eq_ofNat_of_zero_le s0
          have y2 := blk_at HY0.out p s5
          rw [hz] at y2
          have hzn : z < n := by omega
          have hzn' : (z : Int) < (n : Int) := by omega
          have y3 := (HYW.out.cell (p := ⟨bP, oP + z, none⟩) hbP).trans (HCP.out z (by rw [HL.out]; exact hzn))
          have y4 := HGK.out
          have HZ := Lib.hid hz
          have hp5' : (p : Int) < 5 := by omega
          obtain ⟨Z, hZ⟩ : ∃ Z, Z = P.getD z 0 := ⟨_, rfl⟩
          rw [← hZ] at y3
          have HZZ := Lib.hid hZ
          clear hz s0 s1 hZ
          by_cases he : Z = X
          · subst he
            go_wp2_with fail
            go_quiet (fail)
            go_wp2_with fail
            go_roundw
            case rel =>
              refine ⟨j + 1, mm + nq, by omega, by go_num, by simp, fun i hi p2 h2 => ?_⟩
              by_cases e : i = j
              · subst e
                rw [HEP.out] at h2
                have e2 : p2 = p := by omega
                rw [e2, HZ.out, Int.toNat_natCast]
                exact HZZ.out.symm
              · exact HAL.out i (by omega) p2 h2
            case measure => simp [intOf]; omega
          · have hne : (Z != X) = true := by simpa using he
            have HNV : Hid (invT P t n = false) := Lib.hid (invT_no (a := p) (b := q) hpn (by have := HF1.out; omega) (by rw [HPK.out, HF2.out]) (by rw [HZ.out, HX.out, Int.toNat_natCast, Int.toNat_natCast, ← HZZ.out, ← HXX.out]; exact he))
            obtain ⟨r0, r1, r2, r3, r4, r5⟩ := blk6 HY1.out
            have hfr := blk_free HY1.out
            clear he
            go_wp2_with fail
            go_quiet (fail)
            go_wp2_with fail
            rw [HVN.out HNV.out]
            refine bodyPost_ret (v := .tuple #[mv 0 (fun _ => 0), .int .i64 5]) (by simp [results, Tryd.results50, go_sem, *]) rfl ⟨rfl, ?_⟩
            (repeat' (first | (with_reducible exact Below.refl _ _) | (with_reducible refine Below.alloc ?_ ?_ _) | (with_reducible refine Below.setCell ?_ ?_ _) | (with_reducible refine Below.drew ?_) | (with_reducible refine below_drewN ?_ _) | (with_reducible refine Below.trans ?_ (Below.mono (Hid.out (by assumption)) ?_)) | omega | (simp; done) | (simp; omega)))
        · obtain rfl : j = R.length := by omega
          have hjr' : ¬ ((R.length : Int) < (R.length : Int)) := by omega
          go_wp2_with fail
          go_roundw
          case rel =>
            refine ⟨k + 1, by omega, by go_num, ?_, ?_, ?_, fun c hc p hp h => ?_, below_drewN HYW.out _, ?_⟩
            · simpa using HY0.out
            · simpa using HY1.out
            · simpa using HBS.out
            · by_cases e : c = k
              · subst e
                obtain ⟨i, hi, h2⟩ := HRH.out p hp h
                rw [HAL.out i hi p h2, ← HQ.out, HX.out, Int.toNat_natCast]
                exact HXX.out
              · exact HI.out c (by omega) p hp h
            · simpa using hly2
          case measure => simp [intOf]; omega
    · obtain rfl : k = m := by omega
      have hkm' : ¬ ((k : Int) < (k : Int)) := by omega
      have HIV : Hid (invT P t n = true) := Lib.hid (invT_of HOK.out (fun c hc => HI.out c (by rw [HM.out]; exact hc)))
      obtain ⟨r0, r1, r2, r3, r4, r5⟩ := blk6 B1.out
      obtain ⟨g0, g1, g2, g3, g4, g5⟩ := blk6 B2.out
      have hfr := blk_free B1.out
      have hbl1 : w.heap.size + 1 < wo.heap.size := by omega
      generalize qmK P t n k = QM at *
      go_wp2_with fail
      rw [HVY.out HIV.out, HQF.out]
      refine bodyPost_ret (v := .tuple #[mv (k : Int) QM, .int .i64 0]) (by simp [results, Tryd.results50, go_sem, *]) rfl ⟨rfl, ?_⟩
      (repeat' (first | (with_reducible exact Below.refl _ _) | (with_reducible refine Below.alloc ?_ ?_ _) | (with_reducible refine Below.setCell ?_ ?_ _) | (with_reducible refine Below.drew ?_) | (with_reducible refine below_drewN ?_ _) | (with_reducible refine Below.trans ?_ (Below.mono (Hid.out (by assumption)) ?_)) | omega | (simp; done) | (simp; omega)))

end Go.Proofs.YtpphihjbgikjkaaDoor
