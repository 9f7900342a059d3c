/- The contract of impl.mapsOf and of the iterator that it makes: it hands out all maps of n points in order. -/
import Derived.Test.YtfghegjlilcafaaCnt
import Derived.Test.YtfghegjlilcafaaDgt
import Derived.Sort.QuietIn
namespace Go.Proofs.Ytfghegjlilcafaa
open Go Go.RowKit
attribute [local go_sem] Oper.semAt_some

theorem mapsOf_any (n : Int) (w : World) :
    Calls Try.prog 72 #[.int .i64 n] w fun e w' => e = .returned (.func (.func 101) #[] #[.pointer (some ⟨w.heap.size, 0, none⟩)]) ∧
      w' = w.alloc (.cells #[.int .i64 n] 2) := by
  go_enter Try.func72, Try.ntmps72
  go_wp2_with fail
  go_ret
  exact ⟨rfl, rfl⟩

theorem grown_set9 (w : World) (g o : Nat) (v : Value) : w.grownBy (w.setCell ⟨g, o, none⟩ v) (some g) :=
  ⟨rfl, rfl, rfl, by simp, fun k _ hk => hset_ne _ _ _ _ (fun e => hk (by have : k = g := e; rw [this]))⟩

theorem grown_of9 {W W' : World} (h : Below W.heap.size W W') : W.grownBy W' none := ⟨h.os, h.tape, h.output, h.size, fun k hk _ => h.block k hk⟩

set_option maxRecDepth 100000 in
set_option maxHeartbeats 2000000 in
theorem maps_counted {n : Nat} (h1 : 1 ≤ n) (h5 : n ≤ 5) (m : Nat) (hm : 1 ≤ m) (bl : Nat) (w : World) (hbl : w.heap[bl]? = some (.cells #[.int .i64 (n : Int)] 2 (0, 0))) :
    Counted Fence.wide m Try.prog 101 #[.pointer (some ⟨bl, 0, none⟩)] (fun k => #[mv (n : Int) (dgF n k)]) [bl] (n ^ n) w := fun l J S1 W hW hJ hJf hS hY h0 => by
  have hblt : bl < w.heap.size := (Array.getElem?_eq_some_iff.1 hbl).1
  have hsW := hW.size
  have hblW : bl < W.heap.size := by omega
  have HBL := Lib.hid ((hW.block bl hblt).trans hbl)
  have HJ := Lib.hid hJ
  have HS1 : Hid (bl ∈ S1) := Lib.hid (hS _ (by simp))
  have HY := Lib.hid hY
  have hd0 : mcells (n : Int) (dgF n 0) = #[.int .i64 (n : Int), .int .i64 0, .int .i64 0, .int .i64 0, .int .i64 0, .int .i64 0] := by simp [mcells, dgF, dgN]
  have hga := World.grownBy_alloc W (.cells (mcells (n : Int) (dgF n 0)) 28) none
  have HJ0 : Hid (J 0 (W.heap.size :: S1) (W.alloc (.cells (mcells (n : Int) (dgF n 0)) 28))) := Lib.hid (hJf _ _ _ _ _ h0 hga (Nat.le_refl _) (by simp))
  have HX0 : Hid ((W.alloc (.cells (mcells (n : Int) (dgF n 0)) 28)).heap[W.heap.size]? = some (.cells (mcells (n : Int) (dgF n 0)) 28 (0, 0))) := Lib.hid (halloc_at _ _ _ rfl)
  have HK0 : Hid (∀ b, b ∈ S1 → b < W.heap.size → (W.alloc (.cells (mcells (n : Int) (dgF n 0)) 28)).heap[b]? = W.heap[b]?) := Lib.hid fun b _ hb => halloc_lt _ _ _ hb
  have x0 := Joins.cell_of_block HBL.out 0
  simp only [List.getElem?_toArray, List.getElem?_cons_zero] at x0
  have hp1 := pow_pos h1 h5
  have hp9 := pow_le h1 h5
  have hn1 : (1 : Int) ≤ (n : Int) := by omega
  have hn5 : (n : Int) ≤ 5 := by omega
  rw [hd0] at HJ0 HX0 HK0
  have HD0 := Lib.hid hd0
  clear hW hJ hJf hS hY h0 hbl hblt hga hd0
  refine callsIn_of_wp Try.func101 rfl trivial ?_ rfl
  simp only [Try.ntmps101, List.size_toArray, List.length_cons, List.length_nil, Nat.reduceAdd, Nat.reduceSub, Array.replicate_succ, Array.replicate_zero, List.push_toArray, List.append_toArray, List.nil_append, List.cons_append]
  gi_wp2
  clear x0
  gi_loopw [4, 7] (fun _ _ wr => ∃ (c : Nat) (S : List Nat), c < n ^ n ∧ J c S wr ∧ (∀ b, b ∈ S1 → b ∈ S) ∧ W.heap.size ∈ S ∧ W.heap.size < wr.heap.size ∧ (∀ b, b ∈ S1 → b < W.heap.size → wr.heap[b]? = W.heap[b]?) ∧ wr.heap[W.heap.size]? = some (.cells (mcells (n : Int) (dgF n c)) 28 (0, 0))) (fun _ _ wr => n ^ n - cdB n wr.heap[W.heap.size]?)
  case atStart => exact ⟨0, _, by omega, HJ0.out, fun b hb => List.mem_cons_of_mem _ hb, by simp, by simp, HK0.out, by rw [HD0.out]; exact HX0.out⟩
  case round =>
    obtain ⟨c, S, hc, hJc, hSS, hm, hsz, hkp, hbx⟩ := hrel
    have HSS := Lib.hid hSS
    have HKP := Lib.hid hkp
    have HJC := Lib.hid hJc
    have HX := Lib.hid hbx
    have HM := Lib.hid hm
    obtain ⟨y0, y1, y2, y3, y4, y5⟩ := blk6 hbx
    obtain ⟨fn, tm, asg, bdy, hy, hR⟩ := HY.out c S wr hc hJc
    have HMEAS : Hid (cdB n wr.heap[W.heap.size]? = c) := Lib.hid (by rw [hbx]; exact cdB_at h1 h5 hc)
    simp only [mv, mcells] at hy
    have HR := Lib.hid hR
    clear hSS hkp hJc hbx hm hR
    gi_wp2
    refine HR.out.mono ?_
    rintro e V ⟨rfl, hJ1, hzV, hkV⟩
    have HX1 : Hid (V.heap[W.heap.size]? = some (.cells (mcells (n : Int) (dgF n c)) 28 (0, 0))) := Lib.hid ((hkV _ HM.out (by omega)).trans HX.out)
    have HKP1 : Hid (∀ b, b ∈ S1 → b < W.heap.size → V.heap[b]? = W.heap[b]?) := Lib.hid fun b hb hbW => (hkV b (HSS.out b hb) (by omega)).trans (HKP.out b hb hbW)
    have HJ1 := Lib.hid hJ1
    have hzV1 : W.heap.size < V.heap.size := by omega
    have x0 := Joins.cell_of_block ((HKP1.out bl HS1.out hblW).trans HBL.out) 0
    simp only [List.getElem?_toArray, List.getElem?_cons_zero] at x0
    clear hy hJ1 hkV y0 y1 y2 y3 y4 y5
    obtain ⟨wo, hwo⟩ : ∃ wo, wo = wr := ⟨_, rfl⟩
    subst hwo
    gi_wp2
    clear x0
    gi_loopw [4] (fun v wx => ∃ j : Nat, j ≤ n ∧ v = .int .i64 ((n : Int) - 1 - (j : Int)) ∧ Car n c j ∧ J (c + 1) S wx ∧ W.heap.size < wx.heap.size ∧ (∀ b, b ∈ S1 → b < W.heap.size → wx.heap[b]? = W.heap[b]?) ∧ wx.heap[W.heap.size]? = some (.cells (mcells (n : Int) (dgZ n c j)) 28 (0, 0))) (fun v _ => (intOf v + 1).toNat)
    case atStart => exact ⟨0, by omega, by rw [Int.natCast_zero, Int.sub_zero], car_zero n c, HJ1.out, hzV1, HKP1.out, by rw [dgZ_zero]; exact HX1.out⟩
    case round =>
      obtain ⟨j, hj, rfl, hcar, hJx, hzx, hkx, hbx⟩ := hrel
      have HCAR := Lib.hid hcar
      have HJX := Lib.hid hJx
      have HKX := Lib.hid hkx
      have HX2 := Lib.hid hbx
      have x0 := Joins.cell_of_block ((hkx bl HS1.out hblW).trans HBL.out) 0
      simp only [List.getElem?_toArray, List.getElem?_cons_zero] at x0
      have hblx : bl < wr.heap.size := by omega
      clear hcar hJx hkx
      by_cases hjn : j < n
      · obtain ⟨q, hq⟩ : ∃ q : Nat, (q : Int) = (n : Int) - 1 - (j : Int) := ⟨n - 1 - j, by omega⟩
        have hq2 : q = n - 1 - j := by omega
        have hq5 : (q : Int) < 5 := by omega
        have hq0 : (0 : Int) ≤ (q : Int) := by omega
        have hq0' : decide ((0 : Int) ≤ (q : Int)) = true := by simp
        have hqn : ¬ ((q : Int) < 0) := by omega
        have hok := blk_at hbx q (by omega)
        have hfr := blk_free hbx (1 + q)
        have hz := dgZ_at (c := c) hjn
        rw [← hq2] at hz
        rw [hz] at hok
        have hlt := dgN_lt (c := c) (i := q) h1
        have wr1 : IntKind.i64.wrap ((n : Int) - 1) = (n : Int) - 1 := IntWalk.i64_in _ (by omega)
        rw [← hq]
        clear hbx hq hz
        by_cases hd : dgN n c q = n - 1
        · have hd' : ((dgN n c q : Int) == (n : Int) - 1) = true := by rw [beq_iff_eq]; omega
          have HCS := Lib.hid (car_step HCAR.out hjn (by rw [← hq2]; exact hd))
          have HZS := Lib.hid (dgZ_step (c := c) hjn)
          rw [← hq2] at HZS
          have hq1 : Hid ((q : Int) - 1 = (n : Int) - 1 - ((j + 1 : Nat) : Int)) := Lib.hid (by omega)
          clear hd hq2
          generalize dgN n c q = D at *
          gi_wp2
          gi_quiet (fail)
          gi_wp2
          refine ⟨⟨j + 1, by omega, by rw [hq1.out], HCS.out, ?_, by simpa using hzx, fun b hb hbW => ?_, ?_⟩, by simp [intOf] <;> omega⟩
          · exact HJ.out _ _ _ _ _ (HJ.out.grown HJX.out (grown_of9 (below_drewN (Below.refl _ _) nq))) (grown_set9 _ _ _ _) (fun r e => by cases e; exact ⟨Nat.le_refl _, HM.out⟩)
          · rw [hset_ne _ _ _ _ (show b ≠ W.heap.size by omega)]
            exact HKX.out b hb hbW
          · rw [← HZS.out]
            exact blk_set HX2.out q (by omega) _
        · have hd' : ((dgN n c q : Int) == (n : Int) - 1) = false := by simp; omega
          have HST := Lib.hid (car_stop h1 h5 hc hjn HCAR.out (by rw [← hq2]; exact hd))
          rw [← hq2] at HST
          have HME := Lib.hid (fun (o : Option Obj) (T : Nat) (fr : Nat × Nat) (h : o = some (.cells (mcells (n : Int) (dgF n (c + 1))) T fr)) => (by rw [h]; exact cdB_at h1 h5 HST.out.1 : cdB n o = c + 1))
          have wr2 : IntKind.i64.wrap ((dgN n c q : Int) + 1) = (dgN n c q : Int) + 1 := IntWalk.i64_in _ (by omega)
          have b1 : (dgN n c q : Int) ≤ 5 := by omega
          have b2 : 0 ≤ (dgN n c q : Int) := by omega
          clear hd hq2
          generalize dgN n c q = D at *
          gi_wp2
          gi_quiet (fail)
          gi_wp2
          have hblk : ((wr.drewN nq).setCell ⟨W.heap.size, 1 + q, none⟩ (.int .i64 ((D : Int) + 1))).heap[W.heap.size]? = some (.cells (mcells (n : Int) (dgF n (c + 1))) 28 (0, 0)) := by
            rw [← HST.out.2]
            exact blk_set HX2.out q (by omega) _
          have hc1 := HST.out.1
          refine ⟨⟨c + 1, S, hc1, ?_, HSS.out, HM.out, by simpa using hzx, fun b hb hbW => ?_, hblk⟩, ?_⟩
          · exact HJ.out _ _ _ _ _ (HJ.out.grown HJX.out (grown_of9 (below_drewN (Below.refl _ _) nq))) (grown_set9 _ _ _ _) (fun r e => by cases e; exact ⟨Nat.le_refl _, HM.out⟩)
          · rw [hset_ne _ _ _ _ (show b ≠ W.heap.size by omega)]
            exact HKX.out b hb hbW
          · rw [HME.out _ _ _ hblk, HMEAS.out]
            omega
      · obtain rfl : j = n := by omega
        have hz : (j : Int) - 1 - (j : Int) = -1 := by omega
        have HE := Lib.hid (car_end h1 h5 hc HCAR.out)
        rw [hz]
        clear hz hbx
        gi_wp2
        gi_quiet (fail)
        gi_wp2
        (try simp only [Exit.inBlock, Exit.then])
        refine bodyPost_ret (results_none rfl _ _ _) rfl ?_
        refine ⟨⟨_, rfl⟩, S, ?_⟩
        rw [← HE.out]
        exact HJ.out.grown HJX.out (grown_of9 (below_drewN (Below.refl _ _) nq))

end Go.Proofs.Ytfghegjlilcafaa
