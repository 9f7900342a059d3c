/- The contracts of spec.l04Least and of LeastIdeal, in spec and impl. -/
import Derived.Test.YtiogagaclhjdaaaIdf
import Derived.Test.YtiogagaclhjdaaaImage
import Derived.Deep.DeepCutAuto
import Derived.Deep.RegionHeld3
namespace Go.Proofs.Ytiogagaclhjdaaa
open Go Go.RowKit Go.Maps

/-- The least ideal. -/
def lstC (p : Int) (K : List Nat) : List Nat := idlC p K (allC p K)

theorem lst_eq {p : Int} {K : List Nat} {q : Nat} (h : Mon p K) (hq : q ∈ K) (hmin : ∀ c ∈ K, rkC p q ≤ rkC p c) : idlC p K q = lstC p K := (idl_least h hq (all_in h) hmin (all_fac h hq)).symm

theorem chainQ {w : World} {b T : Nat} {x0 x1 x2 x3 x4 x5 y0 y1 y2 y3 y4 y5 : Value} (h : w.heap[b]? = some (.cells #[y0, y1, y2, y3, y4, y5] T (0, 0))) :
    ((((((w.setCell ⟨b, 0, none⟩ x0).setCell ⟨b, 1, none⟩ x1).setCell ⟨b, 2, none⟩ x2).setCell ⟨b, 3, none⟩ x3).setCell ⟨b, 4, none⟩ x4).setCell ⟨b, 5, none⟩ x5).heap[b]? = some (.cells #[x0, x1, x2, x3, x4, x5] T (0, 0)) :=
  Joins.block_setCell (Joins.block_setCell (Joins.block_setCell (Joins.block_setCell (Joins.block_setCell (Joins.block_setCell h _) _) _) _) _) _

set_option maxRecDepth 100000 in
set_option maxHeartbeats 2000000 in
theorem sleast_any {p : Int} {K : List Nat} (hmon : Mon p K) (a : Option Addr) (cap : Nat) (w : World) (hr : InRowM w a (mE p K)) :
    Calls Try.prog 66 #[.slice a K.length cap] w
      fun e w' => ∃ q, e = .returned (mv p (dcd q)) ∧ q ∈ K ∧ (∀ c ∈ K, rkC p q ≤ rkC p c) ∧ Below w.heap.size w w' := by
  have HVL := Lib.hid hmon.vl
  have HR := Lib.hid hr
  have hle := hmon.le
  have hK1 : 1 ≤ K.length := List.length_pos_of_mem hmon.one
  have hK1' : (0 : Int) < (K.length : Int) := by omega
  obtain ⟨b0, o0, rfl, hb0, hat0⟩ := hr.at6 0 (by rw [mE_len]; omega)
  rw [mE_at _ _ _ (by omega : 0 < K.length)] at hat0
  obtain ⟨x0, x1, x2, x3, x4, x5⟩ := hat0
  simp only [Nat.zero_mul, Nat.add_zero] at x0 x1 x2 x3 x4 x5
  have HM0 := Lib.hid (getD_mem (show 0 < K.length by omega))
  clear hr hmon
  have HG : Hid (∀ q, (∀ j, j < K.length → rkC p q ≤ rkC p (K.getD j 0)) → ∀ c ∈ K, rkC p q ≤ rkC p c) := Lib.hid fun q h c hc => by
    obtain ⟨k, hk, rfl⟩ := List.getElem_of_mem hc
    have := h k hk
    rw [List.getD_eq_getElem?_getD, List.getElem?_eq_getElem hk] at this
    exact this
  have HST : Hid (∀ j, j < 1 → rkC p (K.getD 0 0) ≤ rkC p (K.getD j 0)) := Lib.hid fun j hj => by
    have : j = 0 := by omega
    subst this; exact Nat.le_refl _
  generalize hc0 : K.getD 0 0 = c0 at *
  go_enter Try.func66, Try.ntmps66
  go_wp2_with fail
  go_loopw [4] (fun i wr => ∃ (k q : Nat), k ≤ K.length ∧ i = .int .i64 k ∧ q ∈ K ∧ (∀ j, j < k → rkC p q ≤ rkC p (K.getD j 0)) ∧ Below w.heap.size w wr ∧ w.heap.size + 1 < wr.heap.size ∧ wr.heap[w.heap.size]? = some (.cells #[.int .i64 0, .int .i64 0, .int .i64 0, .int .i64 0, .int .i64 0, .int .i64 0] 31 (0, 0)) ∧ wr.heap[w.heap.size + 1]? = some (.cells (mcells p (dcd q)) 31 (0, 0))) (fun i _ => K.length - (intOf i).toNat)
  case atStart => exact ⟨1, c0, by omega, rfl, HM0.out, HST.out, by (repeat' (first | (with_reducible exact Below.refl _ _) | (with_reducible refine Below.alloc ?_ ?_ _) | (with_reducible refine Below.setCell ?_ ?_ _) | (with_reducible refine Below.drew ?_) | (with_reducible refine below_drewN ?_ _) | (with_reducible refine Below.trans ?_ (Below.mono (Hid.out (by assumption)) ?_)) | omega | (simp; done) | (simp; omega))), by simp, (halloc_lt _ _ _ (by simp)).trans (halloc_at _ _ _ rfl), halloc_at _ _ _ (by simp)⟩
  case round =>
    obtain ⟨k, q, hk, rfl, hq, hal, hb, hsz, hr0, hr1⟩ := hrel
    clear x0 x1 x2 x3 x4 x5
    have HBR := Lib.hid hb
    have HQ := Lib.hid hq
    have HAL := Lib.hid hal
    have HR0 := Lib.hid hr0
    have HR1 := Lib.hid hr1
    have hsr := hb.size
    by_cases hkl : k < K.length
    · have hkl' : (k : Int) < (K.length : Int) := by omega
      obtain ⟨b1, o1, e1, hl1, hat1⟩ := (HR.out.below hb).at6 k (by rw [mE_len]; exact hkl)
      injection e1 with e1
      injection e1 with eb eo _
      subst eb eo
      rw [mE_at _ _ _ hkl] at hat1
      have hvx := HVL.out _ (getD_mem hkl)
      have hvq := HVL.out _ hq
      have HXM := Lib.hid (getD_mem hkl)
      have HN1 : Hid (rkC p (K.getD k 0) < rkC p q → ∀ j, j < k + 1 → rkC p (K.getD k 0) ≤ rkC p (K.getD j 0)) := Lib.hid fun h j hj => by
        by_cases e : j = k
        · rw [e]; exact Nat.le_refl _
        · have := hal j (by omega)
          omega
      have HN2 : Hid (¬ rkC p (K.getD k 0) < rkC p q → ∀ j, j < k + 1 → rkC p q ≤ rkC p (K.getD j 0)) := Lib.hid fun h j hj => by
        by_cases e : j = k
        · rw [e]; omega
        · exact hal j (by omega)
      have hq1 := fun w => srank_any p (dcd (K.getD k 0)) hvx.2 w
      have hq2 := fun w => srank_any p (dcd q) hvq.2 w
      have e1 : (asc (imgB p (dcd (K.getD k 0)))).length = rkC p (K.getD k 0) := rfl
      have e2 : (asc (imgB p (dcd q))).length = rkC p q := rfl
      rw [e1] at hq1
      rw [e2] at hq2
      obtain ⟨x0, x1, x2, x3, x4, x5⟩ := hat1
      simp only [] at x0 x1 x2 x3 x4 x5
      clear e1 e2 hal hb hq hvx hvq
      have HX : Hid (∃ x, x = K.getD k 0) := Lib.hid ⟨_, rfl⟩
      generalize hxx : K.getD k 0 = x at *
      generalize hrx : rkC p x = rx at *
      generalize hrq : rkC p q = rq at *
      have HRX := Lib.hid hrx
      have HRQ := Lib.hid hrq
      clear hrx hrq hxx HX
      simp only [mv, mcells] at hq1 hq2
      have HQ1 := Lib.hid hq1
      have HQ2 := Lib.hid hq2
      obtain ⟨r0, r1, r2, r3, r4, r5⟩ := belN_cells (B := wr.heap.size) hsz hr1
      have y0 : ∀ z, Below wr.heap.size wr z → z.cell? ⟨b0, _, none⟩ = _ := fun z hz => (hz.cell (p := ⟨b0, _, none⟩) hl1).trans x0
      have y1 : ∀ z, Below wr.heap.size wr z → z.cell? ⟨b0, _, none⟩ = _ := fun z hz => (hz.cell (p := ⟨b0, _, none⟩) hl1).trans x1
      have y2 : ∀ z, Below wr.heap.size wr z → z.cell? ⟨b0, _, none⟩ = _ := fun z hz => (hz.cell (p := ⟨b0, _, none⟩) hl1).trans x2
      have y3 : ∀ z, Below wr.heap.size wr z → z.cell? ⟨b0, _, none⟩ = _ := fun z hz => (hz.cell (p := ⟨b0, _, none⟩) hl1).trans x3
      have y4 : ∀ z, Below wr.heap.size wr z → z.cell? ⟨b0, _, none⟩ = _ := fun z hz => (hz.cell (p := ⟨b0, _, none⟩) hl1).trans x4
      have y5 : ∀ z, Below wr.heap.size wr z → z.cell? ⟨b0, _, none⟩ = _ := fun z hz => (hz.cell (p := ⟨b0, _, none⟩) hl1).trans x5
      clear hq1 hq2 x0 x1 x2 x3 x4 x5 hr0 hr1
      go_upto_region 5 with fail
      go_cut [21] from 14 to 21 (fun s21 wx => s21 = .bool (decide (rx < rq)) ∧ Below wr.heap.size wr wx)
      case first =>
        go_region_held3 (fun w' => Below wr.heap.size wr w') (first | (with_reducible assumption) | ((repeat' (first | (with_reducible exact Below.refl _ _) | (with_reducible refine Below.alloc ?_ ?_ _) | (with_reducible refine Below.setCell ?_ ?_ _) | (with_reducible refine Below.drew ?_) | (with_reducible refine below_drewN ?_ _) | (with_reducible refine Below.trans ?_ (Below.mono (Hid.out (by assumption)) ?_)) | omega | (simp; done) | (simp; omega))); done)) (first | (go_at_call 91; (with_reducible refine (HQ1.out _).mono ?_); rintro e w1 ⟨rfl, hb⟩; skip; obtain ⟨hc, hf⟩ := bcell hb; have hz := hb.size; have Hb := Lib.hid hb; (try simp at hz hc hf); (try (have hy := Nat.lt_of_succ_le hz)); have hz0 : wr.heap.size ≤ w1.heap.size := (by omega); (try (have hz1 : wr.heap.size < w1.heap.size := (by omega))); clear hb) | (go_at_call 91; (with_reducible refine (HQ2.out _).mono ?_); rintro e w1 ⟨rfl, hb⟩; skip; obtain ⟨hc, hf⟩ := bcell hb; have hz := hb.size; have Hb := Lib.hid hb; (try simp at hz hc hf); (try (have hy := Nat.lt_of_succ_le hz)); have hz0 : wr.heap.size ≤ w1.heap.size := (by omega); (try (have hz1 : wr.heap.size < w1.heap.size := (by omega))); clear hb))
        all_goals (go_wp2_with fail)
        all_goals (go_meet)
        all_goals
          refine ⟨rfl, ?_⟩
          (repeat' (first | (with_reducible exact Below.refl _ _) | (with_reducible refine Below.alloc ?_ ?_ _) | (with_reducible refine Below.setCell ?_ ?_ _) | (with_reducible refine Below.drew ?_) | (with_reducible refine below_drewN ?_ _) | (with_reducible refine Below.trans ?_ (Below.mono (Hid.out (by assumption)) ?_)) | omega | (simp; done) | (simp; omega)))
      case rest =>
        obtain ⟨rfl, hbc⟩ := hcut
        have HBC := Lib.hid hbc
        have hzc := hbc.size
        obtain ⟨z0, z1, z2, z3, z4, z5⟩ := (⟨y0 _ hbc, y1 _ hbc, y2 _ hbc, y3 _ hbc, y4 _ hbc, y5 _ hbc⟩ : _ ∧ _ ∧ _ ∧ _ ∧ _ ∧ _)
        have hbk := bel_at hbc HR1.out
        have HBK := Lib.hid hbk
        have HB0 := Lib.hid (bel_at hbc HR0.out)
        have hfr := blk_free hbk
        obtain ⟨u0, u1, u2, u3, u4, u5⟩ := blk6 hbk
        have HBW : Hid (Below w.heap.size w wc) := Lib.hid (HBR.out.trans (hbc.mono hsr))
        clear hbc hbk r0 r1 r2 r3 r4 r5 y0 y1 y2 y3 y4 y5
        by_cases hlt : rx < rq
        · have HLT := Lib.hid (HN1.out hlt)
          go_wp2_with fail
          go_roundw
          case rel => exact ⟨k + 1, x, by omega, by go_num, HXM.out, by rw [HRX.out]; exact HLT.out, by (repeat' (first | (with_reducible exact Below.refl _ _) | (with_reducible refine Below.alloc ?_ ?_ _) | (with_reducible refine Below.setCell ?_ ?_ _) | (with_reducible refine Below.drew ?_) | (with_reducible refine below_drewN ?_ _) | (with_reducible refine Below.trans ?_ (Below.mono (Hid.out (by assumption)) ?_)) | omega | (simp; done) | (simp; omega))), by simp; omega, by (repeat' (first | omega | (rw [hdrew]) | (with_reducible assumption) | (with_reducible exact Hid.out (by assumption)) | (with_reducible rfl) | ((with_reducible refine halloc_at _ _ _ ?_) <;> (first | (with_reducible rfl) | omega | (simp; done))) | (with_reducible refine chain6 ?_) | (with_reducible refine Eq.trans (hset_ne _ _ _ _ ?_) ?_) | (with_reducible refine Eq.trans (halloc_lt _ _ _ ?_) ?_) | (with_reducible refine Eq.trans (Below.block (Hid.out (by assumption)) _ ?_) ?_) | (simp; done) | (simp; omega))), chainQ HBK.out⟩
          case measure => simp [intOf]; omega
        · have HLT := Lib.hid (HN2.out hlt)
          go_wp2_with fail
          go_roundw
          case rel => exact ⟨k + 1, q, by omega, by go_num, HQ.out, by rw [HRQ.out]; exact HLT.out, HBW.out, by omega, HB0.out, HBK.out⟩
          case measure => simp [intOf]; omega
    · obtain rfl : k = K.length := by omega
      have hfr := blk_free hr0
      obtain ⟨u0, u1, u2, u3, u4, u5⟩ := blk6 hr1
      have v0 := Joins.cell_of_block hr0 0
      have v1 := Joins.cell_of_block hr0 1
      have v2 := Joins.cell_of_block hr0 2
      have v3 := Joins.cell_of_block hr0 3
      have v4 := Joins.cell_of_block hr0 4
      have v5 := Joins.cell_of_block hr0 5
      simp only [List.getElem?_toArray, List.getElem?_cons_zero, List.getElem?_cons_succ] at v0 v1 v2 v3 v4 v5
      have HGQ := Lib.hid (HG.out q hal)
      clear hb hal hr1
      go_wp2_with fail
      have hbr := chain6 (x0 := .int .i64 p) (x1 := .int .i64 (dcd q 0)) (x2 := .int .i64 (dcd q 1)) (x3 := .int .i64 (dcd q 2)) (x4 := .int .i64 (dcd q 3)) (x5 := .int .i64 (dcd q 4)) hr0
      obtain ⟨b0, b1, b2, b3, b4, b5⟩ := blk6 (p := p) (t := dcd q) hbr
      refine bodyPost_ret (v := mv p (dcd q)) (by simp [results, Try.results66, go_sem, b0, b1, b2, b3, b4, b5]) rfl ⟨q, rfl, HQ.out, HGQ.out, ?_⟩
      (repeat' (first | (with_reducible exact Below.refl _ _) | (with_reducible refine Below.alloc ?_ ?_ _) | (with_reducible refine Below.setCell ?_ ?_ _) | (with_reducible refine Below.drew ?_) | (with_reducible refine below_drewN ?_ _) | (with_reducible refine Below.trans ?_ (Below.mono (Hid.out (by assumption)) ?_)) | omega | (simp; done) | (simp; omega)))

set_option maxRecDepth 100000 in
set_option maxHeartbeats 1000000 in
theorem slstI_any (a : Option Addr) (c : Nat) (L : List MapN) (hl : L.length ≤ 1048576) (w : World) (hr : InRowM w a L) :
    Calls Try.prog 41 #[.slice a L.length c] w (RetRowM w.heap.size (alL lstC L) (elsC L []) w) := by
  have HS := Lib.hid (all_any a none c 0 L [] hl (by simp) w hr (Or.inl rfl))
  simp only [List.length_nil] at HS
  clear hr
  by_cases hc : witC L [] = 0
  · have hmon := mon_els (witC_good hc).1
    have hHS := HS.out
    rw [hc, allL_0 hc] at hHS
    have HS := Lib.hid hHS
    rw [alL_0 hc, ← witC_els, hc]
    have HLE := Lib.hid fun (a : Option Addr) (cap : Nat) (z : World) h => sleast_any hmon a cap z h
    have HID := Lib.hid fun (q : Nat) (hq : q ∈ elsK L) (hmin : ∀ c ∈ elsK L, rkC (fst0 L) q ≤ rkC (fst0 L) c) (a : Option Addr) (cap : Nat) (z : World) h => (by have h2 := sidlR_any hmon hq a cap z h; rw [lst_eq hmon hq hmin] at h2; exact h2 : Calls Try.prog 64 #[.slice a (elsK L).length cap, mv (fst0 L) (dcd q)] z fun e w' => ∃ a cap, e = .returned (.slice a (lstC (fst0 L) (elsK L)).length cap) ∧ RdM w' z.heap.size a (mE (fst0 L) (lstC (fst0 L) (elsK L))) ∧ Below z.heap.size z w')
    clear hHS hc hmon
    generalize elsK L = K at *
    generalize fst0 L = p at *
    generalize lstC p K = NN at *
    (try simp only [mE_len] at HS)
    go_enter Try.func41, Try.ntmps41
    go_wp2_with fail
    refine HS.out.mono ?_
    rintro e w1 ⟨aK, cK, rfl, hrd, hb⟩
    rw [mE_len]
    have HB1 := Lib.hid hb
    have hs1 := hb.size
    have HRD := Lib.hid hrd
    clear hb hrd HS
    go_wp2_with fail
    refine (HLE.out aK cK _ HRD.out.inRow).mono ?_
    rintro e w2 ⟨q, rfl, hq, hmin, hb2⟩
    have hHI := HID.out q hq hmin aK cK w2 (HRD.out.below hb2).inRow
    simp only [mv, mcells] at hHI
    have HI := Lib.hid hHI
    have HB2 := Lib.hid hb2
    have hs2 := hb2.size
    clear hHI hb2 hmin hq
    simp only [mv, mcells]
    go_wp2_with fail
    refine HI.out.mono ?_
    rintro e w3 ⟨a3, c3, rfl, hr3, hb3⟩
    have HB3 := Lib.hid hb3
    have HR3 := Lib.hid hr3
    clear hr3 hb3
    go_wp2_with fail
    go_ret2
    exact ⟨a3, c3, by rw [mE_len]; rfl, HR3.out.mono (by omega), by (repeat' (first | (with_reducible exact Below.refl _ _) | (with_reducible refine Below.alloc ?_ ?_ _) | (with_reducible refine Below.setCell ?_ ?_ _) | (with_reducible refine Below.drew ?_) | (with_reducible refine below_drewN ?_ _) | (with_reducible refine Below.trans ?_ (Below.mono (Hid.out (by assumption)) ?_)) | omega | (simp; done) | (simp; omega)))⟩
  · have hHS := HS.out
    rw [allL_1 hc] at hHS
    have HS := Lib.hid hHS
    rw [alL_1 hc, ← witC_els]
    clear hHS
    generalize witC L [] = C at *
    have hcb : (C != 0) = true := by simpa using hc
    (try simp only [List.length_nil] at HS)
    go_enter Try.func41, Try.ntmps41
    go_wp2_with fail
    refine HS.out.mono ?_
    rintro e w1 ⟨aK, cK, rfl, _, hb⟩
    have HB := Lib.hid hb
    clear hb
    go_wp2_with fail
    go_ret2
    exact ⟨none, 0, rfl, ⟨by simp, Or.inl rfl⟩, HB.out⟩

theorem all_take {p : Int} {K : List Nat} (h : Mon p K) (k : Nat) : (K.take k).foldl (mulC p) (idC p) ∈ K := (fold_in h (K.take k) _ (fun _ hc => List.mem_of_mem_take hc) h.one).1

set_option maxRecDepth 100000 in
set_option maxHeartbeats 2000000 in
theorem ilstI_any (a : Option Addr) (c : Nat) (L : List MapN) (h1 : a = none → c = 0) (hl : L.length ≤ 1048576) (w : World) (hr : InRowM w a L) :
    Calls Try.prog 42 #[.slice a L.length c] w (RetRowM w.heap.size (alL lstC L) (elsC L []) w) := by
  have HS := Lib.hid (mono_any a none c 0 L [] h1 (fun _ => rfl) hl (by simp) w hr (Or.inl rfl))
  simp only [List.length_nil] at HS
  by_cases hc : witC L [] = 0
  · have hmon := mon_els (witC_good hc).1
    have hg := (chk_good (elsC_good (witC_good hc).1)).1
    have hn1 := hg.n1
    have hn1' : (0 : Int) < (L.length : Int) := by omega
    obtain ⟨b0, o0, rfl, hb0, hat0⟩ := hr.at0 (by omega)
    obtain ⟨x0, _, _, _, _, _⟩ := hat0
    have hl0 : (L.getD 0 z0).1 = fst0 L := rfl
    rw [hl0] at x0
    have r0 : ∀ z, Below w.heap.size w z → z.cell? ⟨b0, o0, none⟩ = some (.int .i64 (fst0 L)) := fun z h => (h.cell (p := ⟨b0, o0, none⟩) hb0).trans x0
    have HR0 := Lib.hid r0
    rw [alL_0 hc, ← witC_els, hc]
    have HF : Hid (elsC L [] ≠ 0 → False) := Lib.hid fun h => h (by rw [← witC_els]; exact hc)
    have hHS := HS.out
    unfold RetMono at hHS
    have HS := Lib.hid hHS
    have hle := hmon.le
    have HMON := Lib.hid hmon
    have HP1 := Lib.hid hmon.p1
    have HP5 := Lib.hid hmon.p5
    clear hmon hc hHS hr x0 hl0 r0 hg hn1
    generalize elsK L = K at *
    generalize fst0 L = p at *
    have HLST : Hid (lstC p K = idlC p K ((K.take K.length).foldl (mulC p) (idC p))) := Lib.hid (by rw [List.take_length]; rfl)
    generalize hNN : lstC p K = NN at *
    clear hNN
    go_enter Try.func42, Try.ntmps42
    go_wp2_with fail
    refine HS.out.mono ?_
    rintro e w1 ⟨hb, ⟨hc, rfl⟩ | ⟨_, _, gE, cE, b, l, rfl, hput, _, _, _⟩⟩
    · exact (HF.out hc).elim
    have HB := Lib.hid hb
    have hs1 := hb.size
    have hx1 := HR0.out _ hb
    have hb1 : b0 < w1.heap.size := Nat.lt_of_lt_of_le hb0 hs1
    have HPUT := Lib.hid hput
    clear hb hput HS HF
    go_wp2_with fail
    obtain ⟨wm, hwm⟩ : ∃ wm, wm = w1.alloc (.cells #[.slice (some ⟨gE, 0, none⟩) K.length cE, .map (some b)] 48) := ⟨_, rfl⟩
    have hm1 : Below w1.heap.size w1 wm := by rw [hwm]; exact (Below.refl _ _).alloc (Nat.le_refl _) _
    have HMB : Hid (wm.heap[w1.heap.size]? = some (.cells #[.slice (some ⟨gE, 0, none⟩) K.length cE, .map (some b)] 48 (0, 0))) := Lib.hid (by rw [hwm]; exact halloc_at _ _ _ rfl)
    have HMW : Hid (Below w.heap.size w wm) := Lib.hid (HB.out.trans (hm1.mono hs1))
    have HROW : Hid (InRowM wm (some ⟨gE, 0, none⟩) (mE p K)) := Lib.hid (HPUT.out.inRow.below hm1)
    have hgE : gE < wm.heap.size := Nat.lt_of_lt_of_le HPUT.out.hi hm1.size
    have hw1m : w1.heap.size < wm.heap.size := (Array.getElem?_eq_some_iff.1 HMB.out).1
    have hws : w.heap.size ≤ wm.heap.size := HMW.out.size
    clear hm1
    rw [← hwm]
    clear hwm
    refine (iid_num HP1.out HP5.out _).mono ?_
    rintro e w2 ⟨rfl, hb2⟩
    simp only [mv, mcells]
    have HB2 := Lib.hid hb2
    have hs2 := hb2.size
    have hm2 := bel_at hb2 HMB.out
    have HM2 := Lib.hid hm2
    have HRW2 := Lib.hid (HROW.out.below hb2)
    have m0 := Joins.cell_of_block hm2 0
    simp only [List.getElem?_toArray, List.getElem?_cons_zero] at m0
    have HSTART : Hid ((K.take 0).foldl (mulC p) (idC p) = idC p) := Lib.hid rfl
    have hw12 : w1.heap.size < w2.heap.size := by omega
    clear hb2 hm2
    go_wp2_with fail
    go_loopw [8, 25] (fun _ i wr => ∃ k : Nat, k ≤ K.length ∧ i = .int .i64 k ∧ Below w2.heap.size w2 wr ∧ w2.heap.size < wr.heap.size ∧ wr.heap[w2.heap.size]? = some (.cells (mcells p (dcd ((K.take k).foldl (mulC p) (idC p)))) 31 (0, 0))) (fun _ i _ => K.length - (intOf i).toNat)
    case atStart => exact ⟨0, by omega, rfl, (Below.refl _ _).alloc (Nat.le_refl _) _, by simp, by rw [HSTART.out]; exact halloc_at _ _ _ rfl⟩
    case round =>
      obtain ⟨k, hk, rfl, hbr, hsz, hbx⟩ := hrel
      have HBR := Lib.hid hbr
      have HBX := Lib.hid hbx
      have hsr := hbr.size
      clear hbr m0
      by_cases hkl : k < K.length
      · have hkl' : (k : Int) < (K.length : Int) := by omega
        obtain ⟨b1, o1, e1, hl1, hat1⟩ := (HRW2.out.below HBR.out).at6 k (by rw [mE_len]; exact hkl)
        injection e1 with e1
        injection e1 with eb eo _
        subst eb eo
        rw [mE_at _ _ _ hkl] at hat1
        have HNX : Hid ((K.take (k + 1)).foldl (mulC p) (idC p) = mulC p ((K.take k).foldl (mulC p) (idC p)) (K.getD k 0)) := Lib.hid (by rw [take_app K k hkl, List.foldl_append]; rfl)
        have hq1 := fun w => prodN_any (HMON.out.vl _ (all_take HMON.out k)) (HMON.out.vl _ (getD_mem hkl)) w
        obtain ⟨x0, x1, x2, x3, x4, x5⟩ := hat1
        simp only [Nat.zero_add] at x0 x1 x2 x3 x4 x5
        obtain ⟨y0, y1, y2, y3, y4, y5⟩ := blk6 hbx
        generalize hf2 : (K.take (k + 1)).foldl (mulC p) (idC p) = f2 at *
        have HF2 := Lib.hid hf2
        clear hf2
        generalize (K.take k).foldl (mulC p) (idC p) = f1 at *
        generalize K.getD k 0 = x at *
        generalize hm12 : mulC p f1 x = f12 at *
        have HM12 := Lib.hid hm12
        clear hm12
        simp only [mv, mcells] at hq1
        have HQ1 := Lib.hid hq1
        clear hq1 hbx
        go_wp2_with fail
        refine (HQ1.out _).mono ?_
        rintro e w3 ⟨rfl, hb3⟩
        have hs3 := hb3.size
        simp only [World.size_alloc] at hs3
        have HB3 : Hid (Below w2.heap.size w2 w3) := Lib.hid ((HBR.out.alloc hsr _).trans (hb3.mono (by simp; omega)))
        have hbk := (hb3.block w2.heap.size (by simp; omega)).trans ((halloc_lt _ _ _ hsz).trans HBX.out)
        have HBK := Lib.hid hbk
        have hfr := blk_free hbk
        obtain ⟨u0, u1, u2, u3, u4, u5⟩ := blk6 hbk
        clear hb3 hbk x0 x1 x2 x3 x4 x5 y0 y1 y2 y3 y4 y5
        go_wp2_with fail
        go_roundw
        case rel => exact ⟨k + 1, by omega, by go_num, by (repeat' (first | (with_reducible exact Below.refl _ _) | (with_reducible refine Below.alloc ?_ ?_ _) | (with_reducible refine Below.setCell ?_ ?_ _) | (with_reducible refine Below.drew ?_) | (with_reducible refine below_drewN ?_ _) | (with_reducible refine Below.trans ?_ (Below.mono (Hid.out (by assumption)) ?_)) | omega | (simp; done) | (simp; omega))), by simp; omega, by rw [HF2.out, HNX.out]; exact chainQ HBK.out⟩
        case measure => simp [intOf]; omega
      · obtain rfl : k = K.length := by omega
        have hall := all_take HMON.out K.length
        have hvl := HMON.out.vl _ hall
        have hEQ := HLST.out
        obtain ⟨y0, y1, y2, y3, y4, y5⟩ := blk6 hbx
        have hq2 := iidlC_any (s := dcd ((K.take K.length).foldl (mulC p) (idC p))) HMON.out hvl.2 (by rw [ecd_dcd hvl.1]; exact hall) w1.heap.size gE cE (some b) wr (by omega) (bel_at HBR.out HM2.out) (HRW2.out.below HBR.out)
        rw [ecd_dcd hvl.1, ← hEQ] at hq2
        generalize (K.take K.length).foldl (mulC p) (idC p) = f1 at *
        simp only [mv, mcells] at hq2
        have HQ2 := Lib.hid hq2
        clear hq2 hEQ hvl hall hbx
        go_wp2_with fail
        refine HQ2.out.mono ?_
        rintro e w4 ⟨a4, c4, rfl, hr4, hb4⟩
        have HR4 := Lib.hid hr4
        have HB4 := Lib.hid hb4
        clear hr4 hb4
        go_wp2_with fail
        go_ret2
        exact ⟨a4, c4, by rw [mE_len]; rfl, HR4.out.mono (by omega), by (repeat' (first | (with_reducible exact Below.refl _ _) | (with_reducible refine Below.alloc ?_ ?_ _) | (with_reducible refine Below.setCell ?_ ?_ _) | (with_reducible refine Below.drew ?_) | (with_reducible refine below_drewN ?_ _) | (with_reducible refine Below.trans ?_ (Below.mono (Hid.out (by assumption)) ?_)) | omega | (simp; done) | (simp; omega)))⟩
  · rw [alL_1 hc, ← witC_els]
    have HF : Hid (elsC L [] = 0 → False) := Lib.hid fun h => hc (by rw [witC_els]; exact h)
    have hHS := HS.out
    unfold RetMono at hHS
    rw [← witC_els] at hHS
    have HS := Lib.hid hHS
    generalize witC L [] = C at *
    have hcb : (C != 0) = true := by simpa using hc
    clear hHS hr
    go_enter Try.func42, Try.ntmps42
    go_wp2_with fail
    refine HS.out.mono ?_
    rintro e w1 ⟨hb, ⟨_, rfl⟩ | ⟨hc2, _, gE, cE, b, l, rfl, hput, _, _, _⟩⟩
    rotate_left
    · exact (hc hc2).elim
    have HB := Lib.hid hb
    have hs1 := hb.size
    clear hb hc HS HF
    go_wp2_with fail
    go_ret2
    exact ⟨none, 0, rfl, ⟨by simp, Or.inl rfl⟩, HB.out.alloc HB.out.size _⟩

end Go.Proofs.Ytiogagaclhjdaaa
