/- The contracts of impl.basins and impl.BasinsOf. -/
import Derived.Test.YtpphihjbgikjkaaBsp
import Derived.Test.YtpphihjbgikjkaaOwn
import Derived.Deep.RegionHeld3
import Derived.Deep.DeepCutAuto
namespace Go.Proofs.Ytpphihjbgikjkaa
open Go Go.RowKit

theorem Own.bel9 {w w' : World} {B : Nat} {v : Value} {L : List Int} (h : Own w B v L) (hb : Below w.heap.size w w') : Own w' B v L :=
  World.ownsRow.kept (row := none) h ⟨hb.os, hb.tape, hb.output, hb.size, fun j hj _ => hb.block j hj⟩ (by cases hv : v.ownBlock <;> simp)

set_option maxRecDepth 100000 in
set_option maxHeartbeats 4000000 in
theorem ibas_any (n : Nat) (t : Nat → Int) (ht : isB (n : Int) t = true) (w : World) :
    Calls Try.prog 27 #[mv (n : Int) t] w (RetOwn w.heap.size (bsL t n) w) := by
  obtain ⟨h1, h5⟩ := isB_pts ht
  obtain ⟨i0, hi, hz0, hz1, hz2⟩ := info_parts info_int
  have HT := Lib.hid ht
  have HP := Lib.hid fun w => iip_any (n : Int) t ht w
  have HCY := Lib.hid fun c hc w => icyo_any n t ht c hc w
  have HLB := Lib.hid fun (c : Nat) (E : List Nat) (h : Orbt (fun _ x => stp t x) 1 (fun x => x < n) c E) h60 a cap w hr => iolb_any h h60 (by omega) a cap w hr
  have HLEN := Lib.hid (bsL_len t)
  have HSUC := Lib.hid (bsL_succ t)
  have hbx : (w.alloc (.cells (mcells (n : Int) t) 28)).heap[w.heap.size]? = some (.cells (mcells (n : Int) t) 28 (0, 0)) := halloc_at _ _ _ rfl
  have HBX := Lib.hid hbx
  clear ht hbx
  simp only [mv] at *
  simp only [mcells] at HP
  simp only [mcells]
  go_enter Try.func27, Try.ntmps27
  go_wp2_with fail
  refine (HP.out _).mono ?_
  rintro e w1 ⟨rfl, hb⟩
  have hx1 := (hb.block w.heap.size (by simp)).trans HBX.out
  have hs1 := hb.size
  simp only [World.size_alloc] at hs1
  obtain ⟨wz, hwz⟩ : ∃ wz, wz = w1.alloc (.cells (mcells (n : Int) (pow (n : Int) t 60)) 28) := ⟨_, rfl⟩
  have HBZ : Hid (Below w.heap.size w wz) := Lib.hid (by rw [hwz]; exact (((Below.refl _ _).alloc (Nat.le_refl _) _).trans (hb.mono (by simp))).alloc (by omega) _)
  have HXZ : Hid (wz.heap[w.heap.size]? = some (.cells (mcells (n : Int) t) 28 (0, 0))) := Lib.hid (by rw [hwz]; exact (halloc_lt _ _ _ (by omega)).trans hx1)
  have HLZ : Hid (wz.heap[w1.heap.size]? = some (.cells (mcells (n : Int) (pow (n : Int) t 60)) 28 (0, 0))) := Lib.hid (by rw [hwz]; exact halloc_at _ _ _ rfl)
  have hzz : wz.heap.size = w1.heap.size + 1 := by rw [hwz]; simp
  have e0 := (blk6 hx1).1
  have hlw : w.heap.size < w1.heap.size := by omega
  have hl1 : w1.heap.size < wz.heap.size := by omega
  have hl0 : w.heap.size < wz.heap.size := by omega
  clear hb hx1 hzz
  simp only [mcells] at hwz
  go_wp2_with fail
  rw [← hwz]
  clear hwz e0
  go_loopw [4, 5, 10] (fun v _ i wr => ∃ k : Nat, k ≤ n ∧ i = .int .i64 k ∧ Own wr wz.heap.size v (bsL t k) ∧ Below wz.heap.size wz wr) (fun _ _ i _ => n - (intOf i).toNat)
  case atStart => exact ⟨0, by omega, rfl, World.ownsRow_nil _ _ _ _, Below.refl _ _⟩
  case round =>
    obtain ⟨k, hk, rfl, hown, hb⟩ := hrel
    have HO := Lib.hid hown
    have HB := Lib.hid hb
    have hsr := hb.size
    by_cases hkn : k < n
    · have hkn' : (k : Int) < (n : Int) := by omega
      have k5' : (k : Int) < 5 := by omega
      have hc60 := cyc_60 HT.out hkn'
      have hclt := orb_lt HT.out 60 k hkn'
      obtain ⟨x0, x1, x2, x3, x4, x5⟩ := blk6 HXZ.out
      have y0 := blk_at HLZ.out k (by omega)
      rw [pow_at HT.out 60 k hkn'] at y0
      have HS1 := Lib.hid (HSUC.out k)
      have HL1 := Lib.hid (HLEN.out k)
      have hlr0 : w.heap.size < wr.heap.size := by omega
      have hlr1 : w1.heap.size < wr.heap.size := by omega
      have HC60 := Lib.hid hc60
      have HCYK := Lib.hid fun w => HCY.out (orb t 60 k) (by omega) w
      have HLBK := Lib.hid fun E h a cap w hr => HLB.out (orb t 60 k) E h HC60.out a cap w hr
      clear hown hb hc60
      generalize bsF t (orb t 60 k) = M at *
      generalize orb t 60 k = c at *
      have r0 : ∀ z, Below wz.heap.size wz z → z.cell? ⟨w.heap.size, 0, none⟩ = some (.int .i64 (n : Int)) := fun z h => (h.cell (p := ⟨w.heap.size, _, none⟩) hl0).trans x0
      have r1 : ∀ z, Below wz.heap.size wz z → z.cell? ⟨w.heap.size, 1, none⟩ = some (.int .i64 (t 0)) := fun z h => (h.cell (p := ⟨w.heap.size, _, none⟩) hl0).trans x1
      have r2 : ∀ z, Below wz.heap.size wz z → z.cell? ⟨w.heap.size, 2, none⟩ = some (.int .i64 (t 1)) := fun z h => (h.cell (p := ⟨w.heap.size, _, none⟩) hl0).trans x2
      have r3 : ∀ z, Below wz.heap.size wz z → z.cell? ⟨w.heap.size, 3, none⟩ = some (.int .i64 (t 2)) := fun z h => (h.cell (p := ⟨w.heap.size, _, none⟩) hl0).trans x3
      have r4 : ∀ z, Below wz.heap.size wz z → z.cell? ⟨w.heap.size, 4, none⟩ = some (.int .i64 (t 3)) := fun z h => (h.cell (p := ⟨w.heap.size, _, none⟩) hl0).trans x4
      have r5 : ∀ z, Below wz.heap.size wz z → z.cell? ⟨w.heap.size, 5, none⟩ = some (.int .i64 (t 4)) := fun z h => (h.cell (p := ⟨w.heap.size, _, none⟩) hl0).trans x5
      have q0 : ∀ z, Below wz.heap.size wz z → z.cell? ⟨w1.heap.size, 1 + k, none⟩ = some (.int .i64 (c : Int)) := fun z h => (h.cell (p := ⟨w1.heap.size, _, none⟩) hl1).trans y0
      clear x0 x1 x2 x3 x4 x5 y0
      simp only [mcells] at HCYK
      go_wp2_with fail
      go_region_held3 (fun w' => Below wz.heap.size wz w') (first | (with_reducible assumption) | (with_reducible exact HB7.out) | ((repeat' (first | (with_reducible exact Below.refl _ _) | (with_reducible refine Below.alloc ?_ ?_ _) | (with_reducible refine Below.setCell ?_ ?_ _) | (with_reducible refine Below.drew ?_) | (with_reducible refine below_drewN ?_ _) | (with_reducible refine Below.trans ?_ (Below.mono (Hid.out (by assumption)) ?_)) | omega | (simp; done) | (simp; omega))); done))
        (first
          | (go_at_call 28; (with_reducible refine (HCYK.out _).mono ?_); rintro e wA ⟨aA, cA, EA, rfl, hrA, hoA, hbA⟩; have HbA := Lib.hid hbA; have HRA := Lib.hid hrA.inRow; have HOA := Lib.hid hoA; have hzA := hbA.size; (try simp at hzA); clear hbA hrA hoA)
          | (go_at_call 52; (with_reducible refine (HLBK.out EA HOA.out aA cA _ HRA.out).mono ?_); rintro e wB ⟨rfl, hbB⟩; have HbB := Lib.hid hbB; have hzB := hbB.size; (try simp at hzB); clear hbB)
          | (refine step_append_own rfl (.tmp 13) (.tmp 21) 25 rfl wz.heap.size 2 i0 (.int .i64 0) 1 8 Try.underlying25 hi hz0 hz1 hz2 rfl (by decide) u4 (bsL t k).length ((bsL t k).map (Value.int .i64)) rfl (World.ownsRow.alloc (Own.bel9 HO.out (by (repeat' (first | (with_reducible exact Below.refl _ _) | (with_reducible refine Below.alloc ?_ ?_ _) | (with_reducible refine Below.setCell ?_ ?_ _) | (with_reducible refine Below.drew ?_) | (with_reducible refine below_drewN ?_ _) | (with_reducible refine Below.trans ?_ (Below.mono (Hid.out (by assumption)) ?_)) | omega | (simp; done) | (simp; omega))))) _) ⟨wB.heap.size, 0, none⟩ 1 1 [Value.int .i64 M] rfl rfl (cell_one_new _ _ _) (ints_oneCell .i64 [M]) (by unfold maxLen; rw [HL1.out]; omega) (by rw [HL1.out]; omega) (by simp; omega) ?_; intro v7 w7 hown7 hgrow7; have HO7 := Lib.hid hown7; have HB7 : Hid (Below wz.heap.size wz w7) := Lib.hid (Below.grown (w := wB.alloc (.cells #[.int .i64 M] 2)) (by (repeat' (first | (with_reducible exact Below.refl _ _) | (with_reducible refine Below.alloc ?_ ?_ _) | (with_reducible refine Below.setCell ?_ ?_ _) | (with_reducible refine Below.drew ?_) | (with_reducible refine below_drewN ?_ _) | (with_reducible refine Below.trans ?_ (Below.mono (Hid.out (by assumption)) ?_)) | omega | (simp; done) | (simp; omega)))) hgrow7 (by simp; omega) (fun r e => (HO.out.lt r e).1)); clear hown7 hgrow7))
      all_goals
        have HO8 : Hid (Own w7 wz.heap.size v7 (bsL t (k + 1))) := Lib.hid (by
          have h := HO7.out
          rw [HS1.out]
          unfold Own
          rw [List.map_append, List.length_append]
          exact h)
        go_wp2_with fail
        go_roundw
        case rel => exact ⟨k + 1, by omega, by go_num, HO8.out, HB7.out⟩
        case measure => simp [intOf]; omega
    · obtain rfl : k = n := by omega
      have hkn' : ¬ ((k : Int) < (k : Int)) := by omega
      clear hown hb
      go_wp2_with fail
      go_ret
      exact ⟨_, rfl, Joins.ownsRow_le HO.out (by omega), HBZ.out.trans (HB.out.mono (by omega))⟩



end Go.Proofs.Ytpphihjbgikjkaa
