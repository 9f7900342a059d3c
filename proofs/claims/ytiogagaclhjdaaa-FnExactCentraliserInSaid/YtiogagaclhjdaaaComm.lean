/- The contract of impl.commutes. -/
import Derived.Test.YtiogagaclhjdaaaIdem
import Derived.Test.YtiogagaclhjdaaaChk
import Derived.Test.YtiogagaclhjdaaaBase
import Derived.Deep.DeepCutAuto
import Derived.Deep.RegionHeld3
namespace Go.Proofs.Ytiogagaclhjdaaa
open Go.RowKit

/-- Whether a map commutes with another one of as many points. -/
def comB (p : Int) (f g : Nat → Int) : Bool := eqB p (mul p f g) p (mul p g f)
/-- Whether a map commutes with all of a list. -/
def comA (p : Int) (f : Nat → Int) (M : List MapN) : Bool := M.all fun x => comB p f x.2

theorem comA_false {p : Int} {f : Nat → Int} {M : List MapN} (k : Nat) (hk : k < M.length) (h : comB p f (M.getD k z0).2 = false) : comA p f M = false := by
  unfold comA; rw [List.all_eq_false]
  rw [List.getD_eq_getElem?_getD, List.getElem?_eq_getElem hk] at h
  exact ⟨_, List.getElem_mem hk, by simpa using h⟩

theorem comA_true {p : Int} {f : Nat → Int} {M : List MapN} (h : ∀ k, k < M.length → comB p f (M.getD k z0).2 = true) : comA p f M = true := by
  unfold comA; rw [List.all_eq_true]
  intro x hx
  obtain ⟨k, hk, rfl⟩ := List.getElem_of_mem hx
  have := h k hk
  rw [List.getD_eq_getElem?_getD, List.getElem?_eq_getElem hk] at this
  exact this

set_option maxRecDepth 100000 in
set_option maxHeartbeats 1000000 in
theorem icomm_any (p : Int) (f : Nat → Int) (hf : isB p f = true) (M : List MapN) (hM : ∀ k, k < M.length → (M.getD k z0).1 = p ∧ isB p (M.getD k z0).2 = true) (hl : M.length ≤ 1000) (a : Option Addr) (c : Nat) (w : World) (hr : InRowM w a M) :
    Calls Try.prog 71 #[mv p f, .slice a M.length c] w fun e w' => e = .returned (.bool (comA p f M)) ∧ Below w.heap.size w w' := by
  have HR := Lib.hid hr
  have HM := Lib.hid hM
  have HF := Lib.hid hf
  clear hr hM hf
  simp only [mv, mcells] at *
  go_enter Try.func71, Try.ntmps71
  go_wp2_with fail
  go_loopw [6, 9] (fun _ i wr => ∃ k : Nat, k ≤ M.length ∧ i = .int .i64 k ∧ Below w.heap.size w wr ∧ w.heap.size < wr.heap.size ∧ wr.heap[w.heap.size]? = some (.cells (mcells p f) 31 (0, 0)) ∧ ∀ j, j < k → comB p f (M.getD j z0).2 = true) (fun _ i _ => M.length - (intOf i).toNat)
  case atStart => exact ⟨0, by omega, rfl, (Below.refl _ _).alloc (Nat.le_refl _) _, by simp, halloc_at _ _ _ rfl, fun j hj => by omega⟩
  case round =>
    obtain ⟨k, hk, rfl, hb, hsz, hbk, hal⟩ := hrel
    have HB := Lib.hid hb
    have HBK := Lib.hid hbk
    have HAL := Lib.hid hal
    clear hb hal
    by_cases hkl : k < M.length
    · have hkl' : (k : Int) < (M.length : Int) := by omega
      obtain ⟨b1, o1, rfl, hl1, hat1⟩ := (HR.out.below HB.out).at6 k hkl
      obtain ⟨x0, x1, x2, x3, x4, x5⟩ := hat1
      obtain ⟨e1, e2⟩ := HM.out k hkl
      have hq1 := fun w => product_any p f (M.getD k z0).2 HF.out e2 w
      have hq2 := fun w => product_any p (M.getD k z0).2 f e2 HF.out w
      have hne := runNeM p (mul p f (M.getD k z0).2) p (mul p (M.getD k z0).2 f)
      obtain ⟨CB, hCB⟩ : ∃ CB, CB = comB p f (M.getD k z0).2 := ⟨_, rfl⟩
      have hCB' : eqB p (mul p f (M.getD k z0).2) p (mul p (M.getD k z0).2 f) = CB := hCB.symm
      rw [hCB'] at hne
      have HCB := Lib.hid hCB
      rw [e1] at x0
      clear hCB hCB' e1 e2
      have HMT : Hid (∃ t, t = (M.getD k z0).2) := Lib.hid ⟨_, rfl⟩
      generalize hmt : (M.getD k z0).2 = t at *
      have HTT := Lib.hid hmt
      clear hmt HMT
      generalize mul p f t = m1 at *
      generalize mul p t f = m2 at *
      simp only [mv, mcells] at hq1 hq2 hne
      have HQ1 := Lib.hid hq1
      have HQ2 := Lib.hid hq2
      clear hq1 hq2
      obtain ⟨wg, hwg⟩ : ∃ wg, wg = wr.alloc (.cells (mcells p t) 31) := ⟨_, rfl⟩
      have hgs : wg.heap.size = wr.heap.size + 1 := by rw [hwg]; simp
      have hgb : wg.heap[wr.heap.size]? = some (.cells (mcells p t) 31 (0, 0)) := by rw [hwg]; exact halloc_at _ _ _ rfl
      have hfb : wg.heap[w.heap.size]? = some (.cells (mcells p f) 31 (0, 0)) := by rw [hwg]; exact (halloc_lt _ _ _ hsz).trans hbk
      have hwb : Below wr.heap.size wr wg := by rw [hwg]; exact (Below.refl _ _).alloc (Nat.le_refl _) _
      have HWB := Lib.hid hwb
      have r : ∀ i z, Below (wr.heap.size + 1) wg z → z.cell? ⟨w.heap.size, i, none⟩ = (mcells p f)[i]? := fun i z h => Joins.cell_of_block ((h.block _ (by omega)).trans hfb) i
      have q : ∀ i z, Below (wr.heap.size + 1) wg z → z.cell? ⟨wr.heap.size, i, none⟩ = (mcells p t)[i]? := fun i z h => Joins.cell_of_block ((h.block _ (by omega)).trans hgb) i
      have r0 : ∀ z, Below (wr.heap.size + 1) wg z → z.cell? ⟨w.heap.size, 0, none⟩ = some (.int .i64 p) := r 0
      have r1 : ∀ z, Below (wr.heap.size + 1) wg z → z.cell? ⟨w.heap.size, 1, none⟩ = some (.int .i64 (f 0)) := r 1
      have r2 : ∀ z, Below (wr.heap.size + 1) wg z → z.cell? ⟨w.heap.size, 2, none⟩ = some (.int .i64 (f 1)) := r 2
      have r3 : ∀ z, Below (wr.heap.size + 1) wg z → z.cell? ⟨w.heap.size, 3, none⟩ = some (.int .i64 (f 2)) := r 3
      have r4 : ∀ z, Below (wr.heap.size + 1) wg z → z.cell? ⟨w.heap.size, 4, none⟩ = some (.int .i64 (f 3)) := r 4
      have r5 : ∀ z, Below (wr.heap.size + 1) wg z → z.cell? ⟨w.heap.size, 5, none⟩ = some (.int .i64 (f 4)) := r 5
      have q0 : ∀ z, Below (wr.heap.size + 1) wg z → z.cell? ⟨wr.heap.size, 0, none⟩ = some (.int .i64 p) := q 0
      have q1 : ∀ z, Below (wr.heap.size + 1) wg z → z.cell? ⟨wr.heap.size, 1, none⟩ = some (.int .i64 (t 0)) := q 1
      have q2 : ∀ z, Below (wr.heap.size + 1) wg z → z.cell? ⟨wr.heap.size, 2, none⟩ = some (.int .i64 (t 1)) := q 2
      have q3 : ∀ z, Below (wr.heap.size + 1) wg z → z.cell? ⟨wr.heap.size, 3, none⟩ = some (.int .i64 (t 2)) := q 3
      have q4 : ∀ z, Below (wr.heap.size + 1) wg z → z.cell? ⟨wr.heap.size, 4, none⟩ = some (.int .i64 (t 3)) := q 4
      have q5 : ∀ z, Below (wr.heap.size + 1) wg z → z.cell? ⟨wr.heap.size, 5, none⟩ = some (.int .i64 (t 4)) := q 5
      clear r q hgb hfb hwb hbk
      go_upto_region 4 with fail
      try rw [← hwg]
      clear hwg
      go_cut [19] from 11 to 20 (fun s19 wx => s19 = .bool (!CB) ∧ Below (wr.heap.size + 1) wg wx)
      case first =>
        go_region_held3 (fun w' => Below (wr.heap.size + 1) wg w') (first | (with_reducible assumption) | ((repeat' (first | (with_reducible exact Below.refl _ _) | (with_reducible refine Below.alloc ?_ ?_ _) | (with_reducible refine Below.setCell ?_ ?_ _) | (with_reducible refine Below.drew ?_) | (with_reducible refine below_drewN ?_ _) | (with_reducible refine Below.trans ?_ (Below.mono (Hid.out (by assumption)) ?_)) | omega | (simp; done) | (simp; omega))); done)) (first | (go_at_call 68; (with_reducible refine (HQ1.out _).mono ?_); rintro e w1 ⟨rfl, hb⟩; skip; obtain ⟨hc, hf⟩ := bcell hb; have hz := hb.size; have Hb := Lib.hid hb; (try simp at hz hc hf); (try (have hy := Nat.lt_of_succ_le hz)); have hz0 : wg.heap.size ≤ w1.heap.size := (by omega); (try (have hz1 : wg.heap.size < w1.heap.size := (by omega))); clear hb) | (go_at_call 68; (with_reducible refine (HQ2.out _).mono ?_); rintro e w1 ⟨rfl, hb⟩; skip; obtain ⟨hc, hf⟩ := bcell hb; have hz := hb.size; have Hb := Lib.hid hb; (try simp at hz hc hf); (try (have hy := Nat.lt_of_succ_le hz)); have hz0 : wg.heap.size ≤ w1.heap.size := (by omega); (try (have hz1 : wg.heap.size < w1.heap.size := (by omega))); clear hb))
        all_goals (go_wp2_with fail)
        all_goals (go_meet)
        all_goals
          refine ⟨rfl, ?_⟩
          (repeat' (first | (with_reducible exact Below.refl _ _) | (with_reducible refine Below.alloc ?_ ?_ _) | (with_reducible refine Below.setCell ?_ ?_ _) | (with_reducible refine Below.drew ?_) | (with_reducible refine below_drewN ?_ _) | (with_reducible refine Below.trans ?_ (Below.mono (Hid.out (by assumption)) ?_)) | omega | (simp; done) | (simp; omega)))
      case rest =>
        obtain ⟨rfl, hbc⟩ := hcut
        have HBC := Lib.hid hbc
        have hzc := hbc.size
        have hbk2 := (hbc.block _ (by omega)).trans ((HWB.out.block _ hsz).trans HBK.out)
        have HBK2 := Lib.hid hbk2
        clear hbc hbk2 hne r0 r1 r2 r3 r4 r5 q0 q1 q2 q3 q4 q5 x0 x1 x2 x3 x4 x5
        have HBC := Lib.hid (HWB.out.trans (HBC.out.mono (by omega)))
        have hzc := HBC.out.size
        cases CB with
        | true =>
          go_wp2_with fail
          go_roundw
          case rel => exact ⟨k + 1, by omega, by go_num, HB.out.trans (HBC.out.mono (by omega)), by omega, HBK2.out, fun j hj => by
            by_cases e : j = k
            · rw [e, HTT.out]; exact HCB.out.symm
            · exact HAL.out j (by omega)⟩
          case measure => simp [intOf]; omega
        | false =>
          have e : comA p f M = false := comA_false k hkl (by rw [HTT.out]; exact HCB.out.symm)
          go_wp2_with fail
          go_ret
          exact ⟨by rw [e]; rfl, HB.out.trans (HBC.out.mono (by omega))⟩
    · obtain rfl : k = M.length := by omega
      have e : comA p f M = true := comA_true HAL.out
      go_wp2_with fail
      go_ret
      exact ⟨by rw [e]; rfl, HB.out⟩

end Go.Proofs.Ytiogagaclhjdaaa
