/- The least form by all permutations: the contract of spec.l09Least. -/
import Derived.Test.YtfghegjlilcafaaOdr
import Derived.Test.YtfghegjlilcafaaMnm
import Derived.Test.YtfghegjlilcafaaRen
namespace Go.Proofs.Ytfghegjlilcafaa
open Go Go.RowKit

/-- The least of a map and its first k renumbered forms. -/
def lstK (n c : Nat) (O : List Nat) : Nat → Nat
  | 0 => c
  | k + 1 => if rnC n c (O.getD k 0) < lstK n c O k then rnC n c (O.getD k 0) else lstK n c O k
theorem lstK_vld {n c : Nat} (h1 : 1 ≤ n) (h5 : n ≤ 5) (hc : vld (n : Int) c) : ∀ k, k ≤ (olN n).length → vld (n : Int) (lstK n c (olN n) k)
  | 0, _ => hc
  | k + 1, h => by
    unfold lstK
    split
    · exact rn_vld h1 h5 hc (getD_in k (by omega))
    · exact lstK_vld h1 h5 hc k (by omega)

theorem srn_any {n c q : Nat} (h1 : 1 ≤ n) (h5 : n ≤ 5) (hc : vld (n : Int) c) (hq : q ∈ olN n) (w : World) :
    Calls Try.prog 62 #[mv (n : Int) (dcd c), mv (n : Int) (dcd q)] w fun e w' => e = .returned (mv (n : Int) (dcd (rnC n c q))) ∧ Below w.heap.size w w' := by
  obtain ⟨hv, hp⟩ := ol_vld h1 h5 hq
  have h := sren_any (n : Int) (dcd c) (dcd q) hc.2 hv.2 hp w
  have e : mv (n : Int) (dcd (rnC n c q)) = mv (n : Int) (renm (n : Int) (dcd c) (dcd q)) := by
    unfold mv rnC
    rw [mcells_ecd (renm_ok hc.2 hv.2 hp)]
  rw [e]
  exact h

set_option maxRecDepth 100000 in
set_option maxHeartbeats 4000000 in
theorem slst_any (n : Nat) (h1 : 1 ≤ n) (h5 : n ≤ 5) (c : Nat) (hc : vld (n : Int) c) (O : List Nat) (hO : O = olN n) (hn : O.length ≤ 3125) (B : Nat) (a : Option Addr) (cap : Nat) (w : World) (h : RdM w B a (moL (n : Int) O)) :
    Calls Try.prog 74 #[mv (n : Int) (dcd c), .slice a O.length cap] w fun e w' => e = .returned (mv (n : Int) (dcd (lstK n c O O.length))) ∧ Below w.heap.size w w' := by
  have HRD := Lib.hid h
  have HLV : Hid (∀ k, k ≤ O.length → vld (n : Int) (lstK n c O k)) := Lib.hid (by rw [hO]; exact lstK_vld h1 h5 hc)
  have HRV : Hid (∀ k, k < O.length → vld (n : Int) (rnC n c (O.getD k 0))) := Lib.hid (by rw [hO]; exact fun k hk => rn_vld h1 h5 hc (getD_in k hk))
  have HRN : Hid (∀ k, k < O.length → ∀ w, Calls Try.prog 62 #[mv (n : Int) (dcd c), mv (n : Int) (dcd (O.getD k 0))] w fun e w' => e = .returned (mv (n : Int) (dcd (rnC n c (O.getD k 0)))) ∧ Below w.heap.size w w') := Lib.hid (by rw [hO]; exact fun k hk w => srn_any h1 h5 hc (getD_in k hk) w)
  have HS : Hid (∀ k, lstK n c O (k + 1) = if rnC n c (O.getD k 0) < lstK n c O k then rnC n c (O.getD k 0) else lstK n c O k) := Lib.hid fun k => rfl
  clear h hc hO
  obtain ⟨m, hm⟩ : ∃ m, m = O.length := ⟨_, rfl⟩
  have HM := Lib.hid hm
  rw [← hm] at hn HLV HRV HRN ⊢
  clear hm
  obtain ⟨wz, hwz⟩ : ∃ wz, wz = ((w.alloc (.cells (mcells (n : Int) (dcd c)) 28)).alloc (.cells (mcells 0 fun _ => 0) 28)).alloc (.cells (mcells (n : Int) (dcd c)) 28) := ⟨_, rfl⟩
  have HBZ : Hid (Below w.heap.size w wz) := Lib.hid (by rw [hwz]; (repeat' (first | (with_reducible exact Below.refl _ _) | (with_reducible refine Below.alloc ?_ ?_ _) | (with_reducible refine Below.setCell ?_ ?_ _) | (with_reducible refine Below.drew ?_) | (with_reducible refine below_drewN ?_ _) | (with_reducible refine Below.trans ?_ (Below.mono (Hid.out (by assumption)) ?_)) | omega | (simp; done) | (simp; omega))))
  have HFX : Hid (wz.heap[w.heap.size]? = some (.cells (mcells (n : Int) (dcd c)) 28 (0, 0))) := Lib.hid (by rw [hwz]; exact (halloc_lt _ _ _ (by simp; omega)).trans ((halloc_lt _ _ _ (by simp)).trans (halloc_at _ _ _ rfl)))
  have HRX : Hid (wz.heap[w.heap.size + 1]? = some (.cells (mcells 0 fun _ => 0) 28 (0, 0))) := Lib.hid (by rw [hwz]; exact (halloc_lt _ _ _ (by simp)).trans (halloc_at _ _ _ (by simp)))
  have HMX : Hid (At5 wz (w.heap.size + 1 + 1) (n : Int) c) := Lib.hid (by rw [hwz]; exact halloc_at _ _ _ (by simp))
  simp only [mcells] at hwz
  simp only [mv, mcells]
  go_enter Try.func74, Try.ntmps74
  go_wp2_with fail
  rw [← hwz]
  clear hwz
  go_loopw [6, 7] (fun i _ wr => ∃ k : Nat, k ≤ m ∧ i = .int .i64 (k : Int) ∧ At5 wr (w.heap.size + 1 + 1) (n : Int) (lstK n c O k) ∧ wr.heap[w.heap.size]? = some (.cells (mcells (n : Int) (dcd c)) 28 (0, 0)) ∧ wr.heap[w.heap.size + 1]? = some (.cells (mcells 0 fun _ => 0) 28 (0, 0)) ∧ Below w.heap.size w wr) (fun i _ _ => m - (intOf i).toNat)
  case atStart => exact ⟨0, by omega, rfl, HMX.out, HFX.out, HRX.out, HBZ.out⟩
  case round =>
    obtain ⟨k, hk, rfl, hmx, hfx, hrx, hb⟩ := hrel
    have HMR := Lib.hid hmx
    have HFR := Lib.hid hfx
    have HRR := Lib.hid hrx
    have HBR := Lib.hid hb
    have hsr := hb.size
    have hml : w.heap.size + 1 + 1 < wr.heap.size := (Array.getElem?_eq_some_iff.1 hmx).1
    have hvm := HLV.out k hk
    by_cases hkm : k < m
    · have hkm' : (k : Int) < (m : Int) := by omega
      have hkO : k < O.length := by have := HM.out; omega
      have hfl : w.heap.size < wr.heap.size := by omega
      have hrd := HRD.out.below hb
      obtain ⟨g, rfl, hat⟩ := hrd.at6 k (by rw [moL_len]; exact hkO)
      have hgl := hrd.lt9 (by rw [moL_len]; omega)
      rw [moL_at (n : Int) O k hkO] at hat
      obtain ⟨x0, x1, x2, x3, x4, x5⟩ := hat
      simp only [] at x0 x1 x2 x3 x4 x5
      obtain ⟨f0, f1, f2, f3, f4, f5⟩ := blk6 hfx
      have HRN1 := Lib.hid (HRN.out k hkm)
      have hvr := HRV.out k hkm
      have HST := Lib.hid (HS.out k)
      have HLS := Lib.hid fun w => less_num hvr hvm w
      obtain ⟨M1, hM1⟩ : ∃ M1, M1 = lstK n c O (k + 1) := ⟨_, rfl⟩
      rw [← hM1] at HST
      have HM1 := Lib.hid hM1
      clear hM1 hmx hfx hrx hb hrd hvr hvm
      generalize lstK n c O k = M at *
      generalize rnC n c (O.getD k 0) = R at *
      generalize O.getD k 0 = q at *
      simp only [mv, mcells] at HRN1 HLS
      go_upto_region 5 with fail
      go_cut [7] from 15 to 20 (fun s7 wx => ∃ b, s7 = .pointer (some ⟨b, 0, none⟩) ∧ wr.heap.size ≤ b ∧ At5 wx b (n : Int) R ∧ Below wr.heap.size wr wx)
      case first =>
        go_region_law (first | (go_simp; go_at_call 62; refine (HRN1.out _).mono ?_; rintro e w1 ⟨rfl, hb⟩; have Hb := Lib.hid hb; have hz := hb.size; (try (have hq := (hb.block wr.heap.size (by simp)).trans (show (wr.alloc (.cells (mcells 0 fun _ => 0) 28)).drew.heap[wr.heap.size]? = some (.cells (mcells 0 fun _ => 0) 28 (0, 0)) from halloc_at _ _ _ rfl); obtain ⟨q0, q1, q2, q3, q4, q5⟩ := blk6 hq; have hfz := blk_free hq; have HQ := Lib.hid hq; have hzq : wr.heap.size < w1.heap.size := (Array.getElem?_eq_some_iff.1 hq).1; clear hq)); clear hb; (try simp at hz)))
        all_goals (go_wp2_with fail)
        all_goals (go_meet)
        all_goals first
          | exact ⟨_, rfl, ((Below.refl wr.heap.size wr).drew.trans Hb.out).size, halloc_at _ _ _ rfl, ((Below.refl wr.heap.size wr).drew.trans Hb.out).alloc ((Below.refl wr.heap.size wr).drew.trans Hb.out).size _⟩
          | exact ⟨_, rfl, Nat.le_refl _, set6_at5 (t := dcd R) HQ.out, below_set6 (((Below.refl wr.heap.size wr).alloc (Nat.le_refl _) _).drew.trans (Hb.out.mono (by simp))) (Nat.le_refl _)⟩
      case rest =>
        obtain ⟨b, rfl, hbl, hbo, hbc⟩ := hcut
        have HBC := Lib.hid hbc
        have HBO := Lib.hid hbo
        have hmy : At5 wc (w.heap.size + 1 + 1) (n : Int) M := (hbc.block _ hml).trans HMR.out
        have hfy := (hbc.block w.heap.size hfl).trans HFR.out
        have hry := (hbc.block (w.heap.size + 1) (by omega)).trans HRR.out
        obtain ⟨y0, y1, y2, y3, y4, y5⟩ := blk6 hbo
        obtain ⟨z0, z1, z2, z3, z4, z5⟩ := blk6 hmy
        have HMY := Lib.hid hmy
        have HFY := Lib.hid hfy
        have HRY := Lib.hid hry
        have hbl2 : b < wc.heap.size := (Array.getElem?_eq_some_iff.1 hbo).1
        have hzc := hbc.size
        have hml2 : w.heap.size + 1 + 1 < wc.heap.size := by omega
        clear hbc hbo hmy hfy hry x0 x1 x2 x3 x4 x5 f0 f1 f2 f3 f4 f5
        by_cases hlt : R < M
        · have hE2 : Hid (M1 = R) := Lib.hid (by rw [HST.out, if_pos hlt])
          rw [decide_eq_true hlt] at HLS
          clear hlt
          go_wp2_with fail
          refine (HLS.out _).mono ?_
          rintro e w4 ⟨rfl, hb⟩
          have HB4 := Lib.hid hb
          have hs4 := hb.size
          have hmx4 := (hb.block _ hml2).trans HMY.out
          have hbo4 := (hb.block _ hbl2).trans HBO.out
          obtain ⟨p0, p1, p2, p3, p4, p5⟩ := blk6 hmx4
          obtain ⟨q0, q1, q2, q3, q4, q5⟩ := blk6 hbo4
          have hfz := blk_free hmx4
          have HMX4 := Lib.hid hmx4
          have hml4 : w.heap.size + 1 + 1 < w4.heap.size := by omega
          clear hb hmx4 hbo4 y0 y1 y2 y3 y4 y5 z0 z1 z2 z3 z4 z5
          go_wp2_with fail
          have hbb : Below w.heap.size w w4 := HBR.out.trans ((HBC.out.trans (HB4.out.mono hzc)).mono hsr)
          refine ⟨⟨k + 1, by omega, by go_num, by rw [← HM1.out, hE2.out]; exact set6_at5 (t := dcd R) HMX4.out, ?_, ?_, below_set6 hbb (by omega)⟩, by simp [intOf]; omega⟩
          · rw [hset_ne _ _ _ _ (by simp <;> omega), hset_ne _ _ _ _ (by simp <;> omega), hset_ne _ _ _ _ (by simp <;> omega), hset_ne _ _ _ _ (by simp <;> omega), hset_ne _ _ _ _ (by simp <;> omega), hset_ne _ _ _ _ (by simp <;> omega)]
            exact (HB4.out.block _ (by omega)).trans HFY.out
          · rw [hset_ne _ _ _ _ (by simp <;> omega), hset_ne _ _ _ _ (by simp <;> omega), hset_ne _ _ _ _ (by simp <;> omega), hset_ne _ _ _ _ (by simp <;> omega), hset_ne _ _ _ _ (by simp <;> omega), hset_ne _ _ _ _ (by simp <;> omega)]
            exact (HB4.out.block _ (by omega)).trans HRY.out
        · have hE2 : Hid (M1 = M) := Lib.hid (by rw [HST.out, if_neg hlt])
          rw [decide_eq_false hlt] at HLS
          clear hlt
          go_wp2_with fail
          refine (HLS.out _).mono ?_
          rintro e w4 ⟨rfl, hb⟩
          have HB4 := Lib.hid hb
          clear hb y0 y1 y2 y3 y4 y5 z0 z1 z2 z3 z4 z5
          go_wp2_with fail
          go_roundw
          case rel => exact ⟨k + 1, by omega, by go_num, by rw [← HM1.out, hE2.out]; exact (HB4.out.block _ hml2).trans HMY.out, (HB4.out.block _ (by omega)).trans HFY.out, (HB4.out.block _ (by omega)).trans HRY.out, HBR.out.trans ((HBC.out.trans (HB4.out.mono hzc)).mono hsr)⟩
          case measure => simp [intOf]; omega
    · obtain rfl : k = m := by omega
      have hkm' : ¬ ((k : Int) < (k : Int)) := by omega
      obtain ⟨z0, z1, z2, z3, z4, z5⟩ := blk6 hmx
      have hrl : w.heap.size + 1 < wr.heap.size := by omega
      obtain ⟨q0, q1, q2, q3, q4, q5⟩ := blk6 hrx
      have hfz := blk_free hrx
      clear hmx hfx hrx hb hvm
      go_wp2_with fail
      refine bodyPost_ret (v := mv (n : Int) (dcd (lstK n c O k))) (by simp [results, Try.results74, go_sem, *]) rfl ⟨rfl, below_set6 HBR.out (by omega)⟩

end Go.Proofs.Ytfghegjlilcafaa
