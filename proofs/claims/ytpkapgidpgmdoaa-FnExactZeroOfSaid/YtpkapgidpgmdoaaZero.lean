/- The contracts of spec.ZeroOf and impl.ZeroOf. -/
import Derived.Test.YtpkapgidpgmdoaaZeros
import Derived.Test.YtpkapgidpgmdoaaIsco
namespace Go.Proofs.Ytpkapgidpgmdoaa
open Go.RowKit Go.Maps

theorem find_at {Q : Nat → Bool} : ∀ {F : List Nat} {i : Nat}, i < F.length → (∀ j, j < i → Q (F.getD j 0) = false) → Q (F.getD i 0) = true → F.find? Q = some (F.getD i 0)
  | [], _, h, _, _ => by simp at h
  | x :: F, 0, _, _, hq => by
    have : Q x = true := hq
    rw [List.find?_cons, this]; rfl
  | x :: F, i + 1, h, hn, hq => by
    have h0 : Q x = false := hn 0 (by omega)
    rw [List.find?_cons, h0]
    exact find_at (F := F) (i := i) (by simpa using h) (fun j hj => hn (j + 1) (by omega)) hq

theorem find_no {Q : Nat → Bool} {F : List Nat} (h : ∀ j, j < F.length → Q (F.getD j 0) = false) : F.find? Q = none := by
  rw [List.find?_eq_none]
  intro x hx
  obtain ⟨i, hi, rfl⟩ := List.getElem_of_mem hx
  have := h i hi
  rw [List.getD_eq_getElem?_getD, List.getElem?_eq_getElem hi] at this
  simpa using this

theorem find_same {P Q : Nat → Bool} : ∀ {F : List Nat}, (∀ x ∈ F, P x = Q x) → F.find? P = F.find? Q
  | [], _ => rfl
  | x :: F, h => by
    rw [List.find?_cons, List.find?_cons, h x (by simp), find_same (F := F) (fun y hy => h y (List.mem_cons_of_mem _ hy))]

theorem find_filt {P Q : Nat → Bool} : ∀ {F : List Nat}, (F.filter P).find? Q = F.find? fun x => P x && Q x
  | [] => rfl
  | x :: F => by
    cases h : P x with
    | true =>
      rw [List.filter_cons_of_pos (by rw [h]), List.find?_cons, List.find?_cons, h, Bool.true_and, find_filt (F := F)]
    | false =>
      rw [List.filter_cons_of_neg (by rw [h]; decide), List.find?_cons, h, Bool.false_and, find_filt (F := F)]

/-- The first map that is a zero on both sides, as impl looks for it. -/
noncomputable def zerO (L : List MapN) : Option Nat := (elsK L).find? fun c => zlA (fst0 L) (dcd c) L && zrA (fst0 L) (dcd c) L

noncomputable def zerV (L : List MapN) : Value := if elsC L [] = 0 then (match zerO L with
  | none => .tuple #[mv 0 fun _ => 0, .int .i64 4]
  | some c => .tuple #[mv (fst0 L) (dcd c), .int .i64 0]) else .tuple #[mv 0 fun _ => 0, .int .i64 (elsC L [])]

theorem zerV_ex (L : List MapN) : ∃ P T C, zerV L = .tuple #[mv P T, .int .i64 C] := by
  unfold zerV
  split
  · split <;> exact ⟨_, _, _, rfl⟩
  · exact ⟨_, _, _, rfl⟩

theorem zerV_bad {L : List MapN} (h : elsC L [] ≠ 0) : zerV L = .tuple #[mv 0 fun _ => 0, .int .i64 (elsC L [])] := by unfold zerV; rw [if_neg h]
theorem zerV_none {L : List MapN} (h : elsC L [] = 0) (h2 : zerO L = none) : zerV L = .tuple #[mv 0 fun _ => 0, .int .i64 4] := by unfold zerV; rw [if_pos h, h2]
theorem zerV_some {L : List MapN} (h : elsC L [] = 0) {c : Nat} (h2 : zerO L = some c) : zerV L = .tuple #[mv (fst0 L) (dcd c), .int .i64 0] := by unfold zerV; rw [if_pos h, h2]

theorem els_300 {L : List MapN} (hc : elsC L [] = 0) : (cfin (fst0 L) (codes L)).E.length ≤ 300 := by
  have hg := (chk_good (elsC_good hc)).1
  rw [← srtE_len _ (els_inv hg).nd]
  exact elsK_300 hc hg

theorem zl_num {L : List MapN} (hg : GoodL L) {c : Nat} (hc : vld (fst0 L) c) : zlA (fst0 L) (dcd c) L = true ↔ ∀ g ∈ codes L, mulC (fst0 L) c g = c := by
  unfold zlA
  refine good_all hg (P := fun f => zlB (fst0 L) (dcd c) f) fun f hf => ?_
  unfold zlB
  rw [eqB_ecd (mul_ok hc.2 hf) hc.2, decide_eq_true_iff, ecd_dcd hc.1]
  unfold mulC
  rw [mulC_right hc.2 hf]

theorem zr_num {L : List MapN} (hg : GoodL L) {c : Nat} (hc : vld (fst0 L) c) : zrA (fst0 L) (dcd c) L = true ↔ ∀ g ∈ codes L, mulC (fst0 L) g c = c := by
  unfold zrA
  refine good_all hg (P := fun f => zrB (fst0 L) (dcd c) f) fun f hf => ?_
  unfold zrB
  rw [eqB_ecd (mul_ok hf hc.2) hc.2, decide_eq_true_iff, ecd_dcd hc.1]
  unfold mulC
  rw [mulC_left hf]

theorem zs_num {p : Int} {r : Bool} {z c : Nat} (hz : vld p z) (hc : vld p c) : zsB p r z c = decide (if r then mulC p c z = z else mulC p z c = z) := by
  unfold zsB
  cases r with
  | true =>
    show zrB p (dcd z) (dcd c) = _
    unfold zrB mulC
    rw [eqB_ecd (mul_ok hc.2 hz.2) hz.2, ecd_dcd hz.1]
    rfl
  | false =>
    show zlB p (dcd z) (dcd c) = _
    unfold zlB mulC
    rw [eqB_ecd (mul_ok hz.2 hc.2) hz.2, ecd_dcd hz.1]
    rfl

/-- What spec looks at says the same as what impl looks at. -/
theorem zs_same {L : List MapN} (hc : elsC L [] = 0) (r : Bool) : ∀ c ∈ elsK L, zsA (fst0 L) r (elsK L) c = if r then zrA (fst0 L) (dcd c) L else zlA (fst0 L) (dcd c) L := by
  intro c hcm
  have hg := (chk_good (elsC_good hc)).1
  have h3 := els_300 hc
  have hcE := (srtE_mem _ _).1 hcm
  have hv := fin_vld hg.p1 hg.p5 hg.vl hcE
  have hall : zsA (fst0 L) r (elsK L) c = true ↔ ∀ x ∈ (cfin (fst0 L) (codes L)).E, (if r then mulC (fst0 L) x c = c else mulC (fst0 L) c x = c) := by
    unfold zsA
    rw [List.all_eq_true]
    constructor
    · intro h x hx
      have := h x ((srtE_mem _ _).2 hx)
      rw [zs_num hv (fin_vld hg.p1 hg.p5 hg.vl hx)] at this
      exact of_decide_eq_true this
    · intro h x hx
      have hx2 := (srtE_mem _ _).1 hx
      rw [zs_num hv (fin_vld hg.p1 hg.p5 hg.vl hx2)]
      exact decide_eq_true (h x hx2)
  rw [Bool.eq_iff_iff, hall]
  cases r with
  | true =>
    show (∀ x ∈ _, mulC (fst0 L) x c = c) ↔ zrA (fst0 L) (dcd c) L = true
    rw [zr_num hg hv]
    exact fin_rzero hg.p1 hg.p5 hg.vl h3 hv
  | false =>
    show (∀ x ∈ _, mulC (fst0 L) c x = c) ↔ zlA (fst0 L) (dcd c) L = true
    rw [zl_num hg hv]
    exact fin_lzero hg.p1 hg.p5 hg.vl h3 hv

theorem zer_find {L : List MapN} (hc : elsC L [] = 0) : ((elsK L).filter fun c => zsA (fst0 L) false (elsK L) c).find? (fun c => decide (c ∈ (elsK L).filter fun c => zsA (fst0 L) true (elsK L) c)) = zerO L := by
  rw [find_filt]
  unfold zerO
  refine find_same fun c hcm => ?_
  rw [zs_same hc false c hcm]
  congr 1
  rw [Bool.eq_iff_iff, decide_eq_true_iff, List.mem_filter, zs_same hc true c hcm]
  exact ⟨fun h => h.2, fun h => ⟨hcm, h⟩⟩

set_option maxRecDepth 100000 in
set_option maxHeartbeats 2000000 in
theorem szero_any (a : Option Addr) (c : Nat) (L : List MapN) (hl : L.length ≤ 1048576) (w : World) (hr : InRowM w a L) :
    Calls Try.prog 42 #[.slice a L.length c] w fun e w' => e = .returned (zerV L) ∧ Below w.heap.size w w' := by
  have hb0 : Below w.heap.size w (w.alloc (.cells (mcells 0 fun _ => 0) 39)) := (Below.refl _ _).alloc (Nat.le_refl _) _
  have HS := Lib.hid (sels_any a none c 0 L [] hl (by simp) _ (hr.below hb0) (Or.inl rfl))
  have HB0 := Lib.hid hb0
  have HX0 : Hid ((w.alloc (.cells (mcells 0 fun _ => 0) 39)).heap[w.heap.size]? = some (.cells (mcells 0 fun _ => 0) 39 (0, 0))) := Lib.hid (halloc_at _ _ _ rfl)
  clear hr hb0
  by_cases hc : elsC L [] = 0
  · have hg := (chk_good (elsC_good hc)).1
    have hk := elsL_0 hc (O := [])
    have hHS := HS.out
    rw [hc, hk] at hHS
    have HS := Lib.hid hHS
    have hK3 := elsK_300 hc hg
    have HZ := Lib.hid fun (r : Bool) (a1 : Option Addr) (c1 : Nat) (z : World) h1 => szer_any r (elsK_vld hg) hK3 a1 c1 z h1
    have HV := Lib.hid (elsK_vld hg)
    have HSR : Hid (srtd ((elsK L).filter fun c => zsA (fst0 L) true (elsK L) c)) := Lib.hid (List.Pairwise.filter _ (srtE_srt _))
    have hF := zer_find hc
    have HVN := Lib.hid fun h => zerV_none (L := L) hc h
    have HVS := Lib.hid fun (c : Nat) h => zerV_some (L := L) hc (c := c) h
    rw [← hF] at HVN HVS
    have hlr := List.length_filter_le (fun c => zsA (fst0 L) true (elsK L) c) (elsK L)
    have hll := List.length_filter_le (fun c => zsA (fst0 L) false (elsK L) c) (elsK L)
    have HML : Hid (∀ x ∈ (elsK L).filter fun c => zsA (fst0 L) false (elsK L) c, x ∈ elsK L) := Lib.hid fun x hx => (List.mem_filter.1 hx).1
    have HMR : Hid (∀ x ∈ (elsK L).filter fun c => zsA (fst0 L) true (elsK L) c, x ∈ elsK L) := Lib.hid fun x hx => (List.mem_filter.1 hx).1
    clear hHS hk hg hc hF
    have HZL := Lib.hid (HZ.out false)
    have HZR := Lib.hid (HZ.out true)
    clear HZ
    generalize zerV L = V at *
    generalize ((elsK L).filter fun c => zsA (fst0 L) false (elsK L) c) = F at *
    generalize ((elsK L).filter fun c => zsA (fst0 L) true (elsK L) c) = R at *
    generalize elsK L = K at *
    generalize fst0 L = p at *
    have HFI := Lib.hid fun (c : Nat) (hc : vld p c) (a : Option Addr) (cap : Nat) (z : World) h => find_any (K := R) (fun x hx => HV.out x (HMR.out x hx)) HSR.out hc (by omega) a cap z h
    simp only [List.length_nil] at HS
    go_enter Try.func42, Try.ntmps42
    go_wp2_with fail
    refine HS.out.mono ?_
    rintro e w1 ⟨aK, cK, rfl, hrd, hb⟩
    rw [mE_len]
    have HB1 := Lib.hid (HB0.out.trans (hb.mono (by simp)))
    have HX1 := Lib.hid ((hb.block w.heap.size (by simp)).trans HX0.out)
    have HRD := Lib.hid hrd
    have hs1 : w.heap.size < w1.heap.size := by have := hb.size; simp at this; omega
    clear hb hrd HS HB0 HX0
    go_wp2_with fail
    refine (HZL.out aK cK _ HRD.out.inRow).mono ?_
    rintro e w2 ⟨aF, cF, rfl, hrf, hb2⟩
    have HRF := Lib.hid hrf
    have HB2 := Lib.hid hb2
    have hs2 := hb2.size
    clear hrf hb2
    go_wp2_with fail
    refine (HZR.out aK cK _ (HRD.out.below HB2.out).inRow).mono ?_
    rintro e w3 ⟨aR, cR, rfl, hrr, hb3⟩
    have HRR := Lib.hid hrr
    have HRF3 := Lib.hid (HRF.out.below hb3)
    have HB3 : Hid (Below w.heap.size w w3) := Lib.hid (HB1.out.trans ((HB2.out.mono (by omega)).trans (hb3.mono (by omega))))
    have HX3 := Lib.hid ((hb3.block w.heap.size (by omega)).trans ((HB2.out.block _ (by omega)).trans HX1.out))
    have hs3 := hb3.size
    clear hrr hb3
    go_wp2_with fail
    go_loopw [8] (fun i wr => ∃ k : Nat, k ≤ F.length ∧ i = .int .i64 k ∧ Below w3.heap.size w3 wr ∧ ∀ j, j < k → decide (F.getD j 0 ∈ R) = false) (fun i _ => F.length - (intOf i).toNat)
    case atStart => exact ⟨0, by omega, rfl, Below.refl _ _, fun j hj => by omega⟩
    case round =>
      obtain ⟨k, hk, rfl, hbr, hal⟩ := hrel
      have HBR := Lib.hid hbr
      have HAL := Lib.hid hal
      have hsr := hbr.size
      clear hbr hal
      by_cases hkl : k < F.length
      · have hkl' : (k : Int) < (F.length : Int) := by omega
        obtain ⟨b1, o1, rfl, hl1, hat1⟩ := (HRF3.out.below HBR.out).inRow.at6 k (by rw [mE_len]; exact hkl)
        rw [mE_at _ _ _ hkl] at hat1
        obtain ⟨x0, x1, x2, x3, x4, x5⟩ := hat1
        simp only [] at x0 x1 x2 x3 x4 x5
        have hv := HV.out _ (HML.out _ (getD_mem hkl))
        have HQ := Lib.hid (HFI.out _ hv aR cR)
        have HFA := Lib.hid fun (h : F.getD k 0 ∈ R) => find_at (Q := fun c => decide (c ∈ R)) hkl HAL.out (decide_eq_true h)
        have HS2 := Lib.hid fun (e : F.getD k 0 ∉ R) (j : Nat) (hj : j < k + 1) => (show decide (F.getD j 0 ∈ R) = false by
          by_cases h : j = k
          · rw [h]; exact decide_eq_false e
          · exact HAL.out j (by omega))
        clear hv
        generalize F.getD k 0 = x at *
        simp only [mv, mcells] at HQ
        go_wp2_with fail
        refine (HQ.out _ (HRR.out.below HBR.out).inRow).mono ?_
        rintro e w4 ⟨rfl, hb4⟩
        have y0 := (hb4.cell (p := ⟨b1, _, none⟩) hl1).trans x0
        have y1 := (hb4.cell (p := ⟨b1, _, none⟩) hl1).trans x1
        have y2 := (hb4.cell (p := ⟨b1, _, none⟩) hl1).trans x2
        have y3 := (hb4.cell (p := ⟨b1, _, none⟩) hl1).trans x3
        have y4 := (hb4.cell (p := ⟨b1, _, none⟩) hl1).trans x4
        have y5 := (hb4.cell (p := ⟨b1, _, none⟩) hl1).trans x5
        have HB4 := Lib.hid (HBR.out.trans (hb4.mono hsr))
        have hx4 := (HB4.out.block w.heap.size (by omega)).trans HX3.out
        clear hb4 x0 x1 x2 x3 x4 x5
        by_cases hin : x ∈ R
        · have hlo : (0 : Int) ≤ (lowN R x : Int) := by omega
          have hVS := HVS.out x (HFA.out hin)
          rw [if_pos hin]
          subst hVS
          obtain ⟨r0, r1, r2, r3, r4, r5⟩ := blk6 (p := 0) (t := fun _ => 0) hx4
          have hfr := blk_free hx4
          have HBF : Hid (Below w.heap.size w w4) := Lib.hid (HB3.out.trans (HB4.out.mono (by omega)))
          clear hin hx4
          generalize (lowN R x : Int) = N1 at *
          go_wp2_with fail
          refine bodyPost_ret (v := .tuple #[mv p (dcd x), .int .i64 0]) (by simp [results, Try.results42, go_sem, r0, r1, r2, r3, r4, r5]) rfl ⟨rfl, ?_⟩
          exact (((((HBF.out.setCell (Nat.le_refl _) _).setCell (Nat.le_refl _) _).setCell (Nat.le_refl _) _).setCell (Nat.le_refl _) _).setCell (Nat.le_refl _) _).setCell (Nat.le_refl _) _
        · rw [if_neg hin]
          go_wp2_with fail
          go_roundw
          case rel => exact ⟨k + 1, by omega, by go_num, HB4.out, HS2.out hin⟩
          case measure => simp [intOf]; omega
      · obtain rfl : k = F.length := by omega
        have hVN := HVN.out (find_no HAL.out)
        subst hVN
        have hx4 := (HBR.out.block w.heap.size (by omega)).trans HX3.out
        obtain ⟨r0, r1, r2, r3, r4, r5⟩ := blk6 (p := 0) (t := fun _ => 0) hx4
        have hfr := blk_free hx4
        have HBF : Hid (Below w.heap.size w wr) := Lib.hid (HB3.out.trans (HBR.out.mono (by omega)))
        clear hx4
        go_wp2_with fail
        refine bodyPost_ret (v := .tuple #[mv 0 fun _ => 0, .int .i64 4]) (by simp [results, Try.results42, go_sem, r0, r1, r2, r3, r4, r5]) rfl ⟨rfl, ?_⟩
        exact (((((HBF.out.setCell (Nat.le_refl _) _).setCell (Nat.le_refl _) _).setCell (Nat.le_refl _) _).setCell (Nat.le_refl _) _).setCell (Nat.le_refl _) _).setCell (Nat.le_refl _) _
  · have hk := elsL_1 hc (O := [])
    have hHS := HS.out
    rw [hk] at hHS
    have HS := Lib.hid hHS
    rw [zerV_bad hc]
    clear hHS hk
    generalize elsC L [] = C at *
    have hcb : (C != 0) = true := by simpa using hc
    simp only [List.length_nil] at HS
    go_enter Try.func42, Try.ntmps42
    go_wp2_with fail
    refine HS.out.mono ?_
    rintro e w1 ⟨aK, cK, rfl, _, hb⟩
    have HB1 := Lib.hid (HB0.out.trans (hb.mono (by simp)))
    have hx := (hb.block w.heap.size (by simp)).trans HX0.out
    obtain ⟨r0, r1, r2, r3, r4, r5⟩ := blk6 (p := 0) (t := fun _ => 0) hx
    have hfr := blk_free hx
    clear hb hx HX0
    go_wp2_with fail
    refine bodyPost_ret (v := .tuple #[mv 0 fun _ => 0, .int .i64 C]) (by simp [results, Try.results42, go_sem, r0, r1, r2, r3, r4, r5]) rfl ⟨rfl, ?_⟩
    exact (((((HB1.out.setCell (Nat.le_refl _) _).setCell (Nat.le_refl _) _).setCell (Nat.le_refl _) _).setCell (Nat.le_refl _) _).setCell (Nat.le_refl _) _).setCell (Nat.le_refl _) _

set_option maxRecDepth 100000 in
set_option maxHeartbeats 2000000 in
theorem izero_any (a : Option Addr) (c : Nat) (L : List MapN) (h1 : a = none → c = 0) (hl : L.length ≤ 1048576) (w : World) (hr : InRowM w a L) :
    Calls Try.prog 43 #[.slice a L.length c] w fun e w' => e = .returned (zerV L) ∧ Below w.heap.size w w' := by
  have hb0 : Below w.heap.size w (w.alloc (.cells (mcells 0 fun _ => 0) 39)) := (Below.refl _ _).alloc (Nat.le_refl _) _
  have HS := Lib.hid (mono_any a none c 0 L [] h1 (fun _ => rfl) hl (by simp) _ (hr.below hb0) (Or.inl rfl))
  have HR := Lib.hid (hr.below hb0)
  have HB0 := Lib.hid hb0
  have HX0 : Hid ((w.alloc (.cells (mcells 0 fun _ => 0) 39)).heap[w.heap.size]? = some (.cells (mcells 0 fun _ => 0) 39 (0, 0))) := Lib.hid (halloc_at _ _ _ rfl)
  simp only [List.length_nil] at HS
  clear hr hb0
  go_enter Try.func43, Try.ntmps43
  go_wp2_with fail
  refine HS.out.mono ?_
  rintro e w1 ⟨hb, ⟨hc, rfl⟩ | ⟨hc, hg, gE, cE, b, l, rfl, hput, _, _, hI⟩⟩
  · have HVE := Lib.hid (zerV_bad hc)
    have hs1 : w.heap.size < w1.heap.size := by have := hb.size; simp at this; omega
    have HB1 : Hid (Below w.heap.size w (w1.alloc (.cells #[.slice none 0 0, .map none] 71))) := Lib.hid ((HB0.out.trans (hb.mono (by simp))).alloc (by omega) _)
    have hx : (w1.alloc (.cells #[.slice none 0 0, .map none] 71)).heap[w.heap.size]? = some (.cells (mcells 0 fun _ => 0) 39 (0, 0)) := (halloc_lt _ _ _ hs1).trans ((hb.block w.heap.size (by simp)).trans HX0.out)
    obtain ⟨r0, r1, r2, r3, r4, r5⟩ := blk6 (p := 0) (t := fun _ => 0) hx
    have hfr := blk_free hx
    clear hb hx HX0 hs1
    generalize elsC L [] = C at *
    have hcb : (C != 0) = true := by simpa using hc
    go_wp2_with fail
    refine bodyPost_ret (v := .tuple #[mv 0 fun _ => 0, .int .i64 C]) (by simp [results, Try.results43, go_sem, r0, r1, r2, r3, r4, r5]) rfl ⟨by rw [HVE.out], ?_⟩
    exact (((((HB1.out.setCell (Nat.le_refl _) _).setCell (Nat.le_refl _) _).setCell (Nat.le_refl _) _).setCell (Nat.le_refl _) _).setCell (Nat.le_refl _) _).setCell (Nat.le_refl _) _
  · have hba : Below w1.heap.size w1 (w1.alloc (.cells #[.slice (some ⟨gE, 0, none⟩) (elsK L).length cE, .map (some b)] 71)) := (Below.refl _ _).alloc (Nat.le_refl _) _
    have hs1 : w.heap.size < w1.heap.size := by have := hb.size; simp at this; omega
    have hmx : (w1.alloc (.cells #[.slice (some ⟨gE, 0, none⟩) (elsK L).length cE, .map (some b)] 71)).heap[w1.heap.size]? = some (.cells #[.slice (some ⟨gE, 0, none⟩) (elsK L).length cE, .map (some b)] 71 (0, 0)) := halloc_at _ _ _ rfl
    have m0 := Joins.cell_of_block hmx 0
    simp only [List.getElem?_toArray, List.getElem?_cons_zero] at m0
    have HX1 : Hid ((w1.alloc (.cells #[.slice (some ⟨gE, 0, none⟩) (elsK L).length cE, .map (some b)] 71)).heap[w.heap.size]? = some (.cells (mcells 0 fun _ => 0) 39 (0, 0))) := Lib.hid ((halloc_lt _ _ _ hs1).trans ((hb.block w.heap.size (by simp)).trans HX0.out))
    have HB1 : Hid (Below w.heap.size w (w1.alloc (.cells #[.slice (some ⟨gE, 0, none⟩) (elsK L).length cE, .map (some b)] 71))) := Lib.hid ((HB0.out.trans (hb.mono (by simp))).alloc (by omega) _)
    have HPUT := Lib.hid (hput.below hba)
    have HRL := Lib.hid ((HR.out.below hb).below hba)
    have hMok : ∀ k, k < L.length → (L.getD k z0).1 = fst0 L ∧ isB (fst0 L) (L.getD k z0).2 = true := fun k hk => by have := hg.ok k hk; exact ⟨this.1, by rw [← this.1]; exact this.2⟩
    have hn6 : L.length ≤ 1000 := Nat.le_trans hg.n6 (by omega)
    have HZL := Lib.hid fun (x : Nat) (hx : vld (fst0 L) x) (z : World) h => ilzero_any (fst0 L) (dcd x) hx.2 L hMok hn6 a c z h
    have HZR := Lib.hid fun (x : Nat) (hx : vld (fst0 L) x) (z : World) h => irzero_any (fst0 L) (dcd x) hx.2 L hMok hn6 a c z h
    have HV := Lib.hid (elsK_vld hg)
    have HVN := Lib.hid fun h => zerV_none (L := L) hc h
    have HVS := Lib.hid fun (c : Nat) h => zerV_some (L := L) hc (c := c) h
    unfold zerO at HVN HVS
    have hnE := elsK_300 hc hg
    clear hb hmx hput hI hMok hc hg HB0 HX0 HR
    generalize elsK L = K at *
    generalize fst0 L = p at *
    go_wp2_with fail
    generalize hwz : w1.alloc (.cells #[.slice (some ⟨gE, 0, none⟩) K.length cE, .map (some b)] 71) = wz at *
    have hsz : w.heap.size < wz.heap.size := by rw [← hwz]; simp; omega
    clear hwz hba m0
    go_loopw [7, 20] (fun _ i wr => ∃ k : Nat, k ≤ K.length ∧ i = .int .i64 k ∧ Below wz.heap.size wz wr ∧ ∀ j, j < k → (zlA p (dcd (K.getD j 0)) L && zrA p (dcd (K.getD j 0)) L) = false) (fun _ i _ => K.length - (intOf i).toNat)
    case atStart => exact ⟨0, by omega, rfl, Below.refl _ _, fun j hj => by omega⟩
    case round =>
      obtain ⟨k, hk, rfl, hbr, hal⟩ := hrel
      have HBR := Lib.hid hbr
      have HAL := Lib.hid hal
      have hsr := hbr.size
      clear hbr hal
      by_cases hkl : k < K.length
      · have hkl' : (k : Int) < (K.length : Int) := by omega
        obtain ⟨b1, o1, eb, hl1, hat1⟩ := (HPUT.out.below HBR.out).inRow.at6 k (by rw [mE_len]; exact hkl)
        injection eb with eb
        injection eb with eb1 eb2 _
        subst eb1 eb2
        rw [mE_at _ _ _ hkl] at hat1
        obtain ⟨x0, x1, x2, x3, x4, x5⟩ := hat1
        simp only [Nat.zero_add] at x0 x1 x2 x3 x4 x5
        have hv := HV.out _ (getD_mem hkl)
        have HQL := Lib.hid (HZL.out _ hv)
        have HQR := Lib.hid (HZR.out _ hv)
        have HFA := Lib.hid fun (h : (zlA p (dcd (K.getD k 0)) L && zrA p (dcd (K.getD k 0)) L) = true) => find_at (Q := fun c => zlA p (dcd c) L && zrA p (dcd c) L) hkl HAL.out h
        have HS2 := Lib.hid fun (e : (zlA p (dcd (K.getD k 0)) L && zrA p (dcd (K.getD k 0)) L) = false) (j : Nat) (hj : j < k + 1) => (show (zlA p (dcd (K.getD j 0)) L && zrA p (dcd (K.getD j 0)) L) = false by
          by_cases h : j = k
          · rw [h]; exact e
          · exact HAL.out j (by omega))
        clear hv
        generalize K.getD k 0 = x at *
        generalize hA : zlA p (dcd x) L = A at *
        generalize hB : zrA p (dcd x) L = B at *
        clear hA hB
        simp only [mv, mcells] at HQL HQR
        have hbx : Below wz.heap.size wz (wr.alloc (.cells (mcells p (dcd x)) 39)) := HBR.out.alloc hsr _
        have hbox : (wr.alloc (.cells (mcells p (dcd x)) 39)).heap[wr.heap.size]? = some (.cells (mcells p (dcd x)) 39 (0, 0)) := halloc_at _ _ _ rfl
        have HBX := Lib.hid hbx
        have HBOX := Lib.hid hbox
        have HRX := Lib.hid (HRL.out.below hbx)
        clear hbx hbox
        go_wp2_with fail
        refine (HQL.out _ HRX.out).mono ?_
        rintro e w3 ⟨rfl, hb3⟩
        have HB3 : Hid (Below wz.heap.size wz w3) := Lib.hid (HBX.out.trans (hb3.mono (by simp; omega)))
        have hbox3 := (hb3.block wr.heap.size (by simp)).trans HBOX.out
        have HR3 := Lib.hid (HRX.out.below hb3)
        obtain ⟨y0, y1, y2, y3, y4, y5⟩ := blk6 hbox3
        have HBOX3 := Lib.hid hbox3
        have hsx3 : wr.heap.size < w3.heap.size := (Array.getElem?_eq_some_iff.1 hbox3).1
        clear hb3 hbox3 x0 x1 x2 x3 x4 x5
        cases A with
        | false =>
          go_wp2_with fail
          go_roundw
          case rel => exact ⟨k + 1, by omega, by go_num, HB3.out, HS2.out (by simp)⟩
          case measure => simp [intOf]; omega
        | true =>
          go_wp2_with fail
          refine (HQR.out _ HR3.out).mono ?_
          rintro e w4 ⟨rfl, hb4⟩
          have HB4 : Hid (Below wz.heap.size wz w4) := Lib.hid (HB3.out.trans (hb4.mono HB3.out.size))
          have hbox4 := (hb4.block wr.heap.size hsx3).trans HBOX3.out
          clear hb4 y0 y1 y2 y3 y4 y5
          obtain ⟨y0, y1, y2, y3, y4, y5⟩ := blk6 hbox4
          clear hbox4
          cases B with
          | false =>
            go_wp2_with fail
            go_roundw
            case rel => exact ⟨k + 1, by omega, by go_num, HB4.out, HS2.out (by simp)⟩
            case measure => simp [intOf]; omega
          | true =>
            have HVE := Lib.hid (HVS.out x (HFA.out (by simp)))
            have hx4 := (HB4.out.block w.heap.size (by omega)).trans HX1.out
            obtain ⟨r0, r1, r2, r3, r4, r5⟩ := blk6 (p := 0) (t := fun _ => 0) hx4
            have hfr := blk_free hx4
            have HBF : Hid (Below w.heap.size w w4) := Lib.hid (HB1.out.trans (HB4.out.mono (by omega)))
            clear hx4
            go_wp2_with fail
            refine bodyPost_ret (v := .tuple #[mv p (dcd x), .int .i64 0]) (by simp [results, Try.results43, go_sem, r0, r1, r2, r3, r4, r5]) rfl ⟨by rw [HVE.out], ?_⟩
            exact (((((HBF.out.setCell (Nat.le_refl _) _).setCell (Nat.le_refl _) _).setCell (Nat.le_refl _) _).setCell (Nat.le_refl _) _).setCell (Nat.le_refl _) _).setCell (Nat.le_refl _) _
      · obtain rfl : k = K.length := by omega
        have HVE := Lib.hid (HVN.out (find_no HAL.out))
        have hx4 := (HBR.out.block w.heap.size (by omega)).trans HX1.out
        obtain ⟨r0, r1, r2, r3, r4, r5⟩ := blk6 (p := 0) (t := fun _ => 0) hx4
        have hfr := blk_free hx4
        have HBF : Hid (Below w.heap.size w wr) := Lib.hid (HB1.out.trans (HBR.out.mono (by omega)))
        clear hx4
        go_wp2_with fail
        refine bodyPost_ret (v := .tuple #[mv 0 fun _ => 0, .int .i64 4]) (by simp [results, Try.results43, go_sem, r0, r1, r2, r3, r4, r5]) rfl ⟨by rw [HVE.out], ?_⟩
        exact (((((HBF.out.setCell (Nat.le_refl _) _).setCell (Nat.le_refl _) _).setCell (Nat.le_refl _) _).setCell (Nat.le_refl _) _).setCell (Nat.le_refl _) _).setCell (Nat.le_refl _) _

end Go.Proofs.Ytpkapgidpgmdoaa
