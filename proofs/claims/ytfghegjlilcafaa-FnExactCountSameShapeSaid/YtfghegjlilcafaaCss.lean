/- Both sides of CountSameShape. -/
import Derived.Test.YtfghegjlilcafaaAsh
import Derived.Test.YtfghegjlilcafaaOst
import Derived.Test.YtfghegjlilcafaaCnf
import Derived.Deep.DeepCutAuto
namespace Go.Proofs.Ytfghegjlilcafaa
open Go Go.RowKit

theorem ol_fac : ((List.range 5).all fun n => (olN (n + 1)).length == fcN (n + 1)) = true := by decide +kernel
theorem olL {n : Nat} (h1 : 1 ≤ n) (h5 : n ≤ 5) : fcN n = (olN n).length := by
  have := all5 (P := fun n => (olN n).length == fcN n) ol_fac h1 h5
  have := eq_of_beq this
  omega

/-- As many permutations keep a map. -/
def stN (n c : Nat) : Nat := (fbL n c c).length
/-- As many maps are alike with it. -/
def alN (n c : Nat) : Nat := (olN n).length / stN n c
theorem al_eq {n c : Nat} {E : List Nat} (h1 : 1 ≤ n) (h5 : n ≤ 5) (hc : vld (n : Int) c) (h : Orbt (rnA n) (n - 1) (vld (n : Int)) c E) : E.length = alN n c := by
  have e := orb_st h1 h5 hc h
  unfold alN stN
  rw [← e, Nat.mul_div_cancel _ (fb_pos h1 h5 hc)]
theorem al_mul {n c : Nat} {E : List Nat} (h1 : 1 ≤ n) (h5 : n ≤ 5) (hc : vld (n : Int) c) (h : Orbt (rnA n) (n - 1) (vld (n : Int)) c E) : alN n c * stN n c = (olN n).length := by
  rw [← al_eq h1 h5 hc h]
  exact orb_st h1 h5 hc h
theorem tdiv_of {a b c : Nat} (h : a * b = c) (ha : 0 < a) : Int.tdiv (c : Int) (a : Int) = (b : Int) := by
  rw [← h, Int.natCast_mul]
  exact Int.mul_tdiv_cancel_left _ (by omega)

/-- What CountSameShape returns. -/
def csV (p : Int) (t : Nat → Int) : Value := .tuple #[.int .i64 (if isB p t then (alN p.toNat (ecd t) : Int) else 0), .int .i64 (if isB p t then (stN p.toNat (ecd t) : Int) else 0), .int .i64 (if isB p t then 0 else 1)]
theorem csV_1 {p : Int} {t : Nat → Int} (h : isB p t = false) : csV p t = .tuple #[.int .i64 0, .int .i64 0, .int .i64 1] := by unfold csV; rw [h]; rfl
theorem csV_0 {n : Nat} {t : Nat → Int} (h : isB (n : Int) t = true) : csV (n : Int) t = .tuple #[.int .i64 (alN n (ecd t) : Int), .int .i64 (stN n (ecd t) : Int), .int .i64 0] := by unfold csV; rw [h]; rfl

theorem iosm_any (a : Option Addr) (n cap : Nat) (w : World) :
    Calls Try.prog 79 #[.agg #[.slice a n cap]] w fun e w' => e = .returned (.int .i64 (n : Int)) ∧ Below w.heap.size w w' := by
  go_enter Try.func79, Try.ntmps79
  go_wp2_with fail
  go_ret
  exact ⟨rfl, (Below.refl _ _).alloc (Nat.le_refl _) _⟩

set_option maxRecDepth 100000 in
set_option maxHeartbeats 2000000 in
theorem ics_any (p : Int) (t : Nat → Int) (w : World) :
    Calls Try.prog 40 #[mv p t] w fun e w' => e = .returned (csV p t) ∧ Below w.heap.size w w' := by
  cases hv : isB p t
  · rw [csV_1 hv]
    simp only [mv, mcells]
    go_enter Try.func40, Try.ntmps40
    go_wp2_with fail
    (refine (iis_any p t _).mono ?_; rintro e w1 ⟨rfl, hb⟩; obtain ⟨hc, hf⟩ := bcell hb; have hz := hb.size; have Hb := Lib.hid hb; (try simp at hz hc hf); (try (have hy := Nat.lt_of_succ_le hz)); have hz0 : w.heap.size < w1.heap.size := (by omega); clear hb)
    go_wp2_with fail
    go_ret3
    refine ⟨rfl, ?_⟩
    (repeat' (first | (with_reducible exact Below.refl _ _) | (with_reducible refine Below.alloc ?_ ?_ _) | (with_reducible refine Below.setCell ?_ ?_ _) | (with_reducible refine Below.drew ?_) | (with_reducible refine below_drewN ?_ _) | (with_reducible refine Below.trans ?_ (Below.mono (Hid.out (by assumption)) ?_)) | omega | (simp; done) | (simp; omega)))
  obtain ⟨h1, h5⟩ := isB_pts hv
  obtain ⟨n, rfl⟩ := Int.eq_ofNat_of_zero_le (show 0 ≤ p by omega)
  have hn1 : 1 ≤ n := by omega
  have hn5 : n ≤ 5 := by omega
  rw [csV_0 hv]
  have hL := fun w => iis_any (n : Int) t w
  rw [hv] at hL
  have HL := Lib.hid hL
  have HA := Lib.hid fun w => ialk_any n t hv w
  have HV := Lib.hid (vld_ecd hv)
  have HFC := Lib.hid fun w => ifac_any n (by omega) w
  have HF : Hid (fcN n = (olN n).length) := Lib.hid (olL hn1 hn5)
  have HLN := Lib.hid (ol_len hn1 hn5)
  clear hL hv h1 h5
  simp only [mv, mcells] at HL HA ⊢
  go_enter Try.func40, Try.ntmps40
  go_wp2_with fail
  refine (HL.out _).mono ?_
  rintro e w1 ⟨rfl, hb1⟩
  have hs1 := hb1.size
  simp only [World.size_alloc] at hs1
  have hf1 := (hb1.block w.heap.size (by simp)).trans (halloc_at _ _ _ rfl)
  have HB1 : Hid (Below w.heap.size w w1) := Lib.hid (((Below.refl w.heap.size w).alloc (Nat.le_refl _) _).trans (hb1.mono (by simp)))
  obtain ⟨f0, f1, f2, f3, f4, f5⟩ := blk6 (t := t) hf1
  have HF1 := Lib.hid hf1
  have hfl : w.heap.size < w1.heap.size := by omega
  clear hb1 hf1
  go_wp2_with fail
  refine (HA.out _).mono ?_
  rintro e w2 ⟨a, cap, E, rfl, hrd, horb, hb2⟩
  have hs2 := hb2.size
  have hf2 := (hb2.block w.heap.size hfl).trans HF1.out
  have HB2 : Hid (Below w.heap.size w w2) := Lib.hid (HB1.out.trans (hb2.mono (by omega)))
  have hE : E.length = alN n (ecd t) := al_eq hn1 hn5 HV.out horb
  have hEp : 0 < E.length := List.length_pos_of_mem horb.first
  have hmul := al_mul hn1 hn5 HV.out horb
  rw [← hE] at hmul
  have hlen := nodup_bound 3125 E horb.nd (fun x hx => (horb.vl x hx).1)
  have hdiv : Int.tdiv (fcN n : Int) (E.length : Int) = (stN n (ecd t) : Int) := tdiv_of (by rw [hmul, HF.out]) hEp
  have hst : stN n (ecd t) ≤ 3125 := by
    have := HLN.out
    have := Nat.le_mul_of_pos_left (stN n (ecd t)) hEp
    omega
  have HE := Lib.hid hE
  clear hrd horb hb2 f0 f1 f2 f3 f4 f5 hmul hE
  generalize E.length = le at *
  obtain ⟨f0, f1, f2, f3, f4, f5⟩ := blk6 (t := t) hf2
  have hfl2 : w.heap.size < w2.heap.size := by omega
  have HF2 := Lib.hid hf2
  clear hf2
  go_wp2_with fail
  refine (iosm_any _ _ _ _).mono ?_
  rintro e w3 ⟨rfl, hb3⟩
  have hf3 := (hb3.block w.heap.size hfl2).trans HF2.out
  have HB3 : Hid (Below w.heap.size w w3) := Lib.hid (HB2.out.trans (hb3.mono (by omega)))
  have hs3 := hb3.size
  clear f0 f1 f2 f3 f4 f5 hb3
  obtain ⟨f0, f1, f2, f3, f4, f5⟩ := blk6 (t := t) hf3
  have hfl3 : w.heap.size < w3.heap.size := by omega
  have hle0 : ¬ ((le : Int) = 0) := by omega
  have hle1 : (1 : Int) ≤ (le : Int) := by omega
  have hle2 : ¬ (le = 0) := by omega
  have hw : IntKind.i64.wrap (stN n (ecd t) : Int) = (stN n (ecd t) : Int) := IntWalk.i64_in _ (by omega)
  clear hf3
  go_upto_region 4 with fail
  go_region_law (first
    | (go_simp; go_at_call 80; refine (HFC.out _).mono ?_; rintro e w6 ⟨rfl, hw6⟩)
    | fail "arm")
  all_goals (go_wp2_with fail)
  all_goals go_ret3
  all_goals
    refine ⟨by rw [← HE.out]; rfl, ?_⟩
    first | exact HB3.out.drew | exact HB3.out

/-- As many of the first k permutations keep a map. -/
def kpK (n c : Nat) (O : List Nat) : Nat → Nat
  | 0 => 0
  | k + 1 => kpK n c O k + (if rnC n c (O.getD k 0) = c then 1 else 0)
theorem kpK_le (n c : Nat) (O : List Nat) : ∀ k, kpK n c O k ≤ k
  | 0 => Nat.le_refl _
  | k + 1 => by
    have := kpK_le n c O k
    show kpK n c O k + _ ≤ _
    split <;> omega
theorem kpK_eq (n c : Nat) (O : List Nat) : ∀ k, k ≤ O.length → kpK n c O k = ((O.take k).filter fun q => decide (rnC n c q = c)).length
  | 0, _ => by simp [kpK]
  | k + 1, h => by
    have e : O.take (k + 1) = O.take k ++ [O.getD k 0] := by
      rw [List.take_add_one, List.getElem?_eq_getElem (by omega), List.getD_eq_getElem?_getD, List.getElem?_eq_getElem (by omega)]
      rfl
    rw [e, List.filter_append, List.length_append, ← kpK_eq n c O k (by omega)]
    show kpK n c O k + _ = _
    by_cases h : rnC n c (O.getD k 0) = c
    · rw [if_pos h, List.filter_cons_of_pos (by simpa using h)]; rfl
    · rw [if_neg h, List.filter_cons_of_neg (by simpa using h)]; rfl
theorem kpK_all (n c : Nat) : kpK n c (olN n) (olN n).length = stN n c := by
  rw [kpK_eq n c (olN n) _ (Nat.le_refl _), List.take_length]
  rfl

theorem tmC_any {p : Int} {a b : Nat} (ha : vld p a) (hb : vld p b) (w : World) :
    Calls Try.prog 78 #[mv p (dcd a), mv p (dcd b)] w fun e w' => e = .returned (mv p (dcd (mulC p a b))) ∧ Below w.heap.size w w' := by
  have h := times_any p (dcd a) (dcd b) ha.2 hb.2 w
  have e : mv p (dcd (mulC p a b)) = mv p (mul p (dcd a) (dcd b)) := by unfold mv mulC; rw [mcells_ecd (mul_ok ha.2 hb.2)]
  rw [e]
  exact h

set_option maxRecDepth 100000 in
set_option maxHeartbeats 4000000 in
theorem scs_ok (n c : Nat) (hn1 : 1 ≤ n) (hn5 : n ≤ 5) (hc : vld (n : Int) c) (hdiv : Int.tdiv ((olN n).length : Int) (stN n c : Int) = (alN n c : Int)) (hal : alN n c ≤ 3125) (w : World) :
    Calls Try.prog 39 #[mv (n : Int) (dcd c)] w fun e w' => e = .returned (.tuple #[.int .i64 (alN n c : Int), .int .i64 (stN n c : Int), .int .i64 0]) ∧ Below w.heap.size w w' := by
  have hL := fun w => lis_any (n : Int) (dcd c) w
  rw [hc.2] at hL
  have HL := Lib.hid hL
  have HO := Lib.hid fun g cap w h => sord0 n hn1 hn5 g cap w h
  have HLN := Lib.hid (ol_len hn1 hn5)
  have HK := Lib.hid (kpK_all n c)
  have HKL := Lib.hid (kpK_le n c (olN n))
  have HKS : Hid (∀ k, kpK n c (olN n) (k + 1) = kpK n c (olN n) k + (if rnC n c ((olN n).getD k 0) = c then 1 else 0)) := Lib.hid fun k => rfl
  have HV : Hid (∀ k, k < (olN n).length → vld (n : Int) ((olN n).getD k 0)) := Lib.hid fun k hk => (ol_vld hn1 hn5 (getD_in k hk)).1
  have HRF : Hid (∀ k, k < (olN n).length → (rnC n c ((olN n).getD k 0) = c ↔ mulC (n : Int) c ((olN n).getD k 0) = mulC (n : Int) ((olN n).getD k 0) c)) := Lib.hid fun k hk => rn_fix hn1 hn5 hc (getD_in k hk)
  have HC := Lib.hid hc
  have hKp : 0 < stN n c := fb_pos hn1 hn5 hc
  clear hL hc
  generalize olN n = O at *
  generalize alN n c = AL at *
  simp only [mv, mcells] at HL ⊢
  go_enter Try.func39, Try.ntmps39
  go_wp2_with fail
  refine (HL.out _).mono ?_
  rintro e w1 ⟨rfl, hb1⟩
  have hs1 := hb1.size
  simp only [World.size_alloc] at hs1
  have hf1 := (hb1.block w.heap.size (by simp)).trans (halloc_at _ _ _ rfl)
  have HB1 : Hid (Below w.heap.size w w1) := Lib.hid (((Below.refl w.heap.size w).alloc (Nat.le_refl _) _).trans (hb1.mono (by simp)))
  obtain ⟨f0, f1, f2, f3, f4, f5⟩ := blk6 (t := dcd c) hf1
  have HF1 := Lib.hid hf1
  have hfl : w.heap.size < w1.heap.size := by omega
  clear hb1 hf1
  go_wp2_with fail
  refine (HO.out _ _ _ (by simp)).mono ?_
  rintro e w4 ⟨v4, rfl, ho4, hb4⟩
  obtain ⟨a4, cap4, rfl, hr4⟩ := ownM_rd ho4 (by rw [moL_len]; have := HLN.out; omega)
  rw [moL_len] at *
  have HR4 := Lib.hid hr4
  have HB4 : Hid (Below w1.heap.size w1 w4) := Lib.hid (((Below.refl _ _).alloc (Nat.le_refl _) _).trans (hb4.mono (by simp)))
  have hs4 := HB4.out.size
  have HF4 := Lib.hid ((HB4.out.block w.heap.size hfl).trans HF1.out)
  have hfl4 : w.heap.size < w4.heap.size := by omega
  clear f0 f1 f2 f3 f4 f5 ho4 hb4 hr4
  obtain ⟨m, hm⟩ : ∃ m, m = O.length := ⟨_, rfl⟩
  have HM := Lib.hid hm
  rw [← hm] at hdiv HLN HK HV HRF ⊢
  clear hm
  go_wp2_with fail
  go_loopw [6, 7] (fun c0 i wr => ∃ k : Nat, k ≤ m ∧ i = .int .i64 (k : Int) ∧ c0 = .int .i64 (kpK n c O k : Int) ∧ Below w4.heap.size w4 wr) (fun _ i _ => m - (intOf i).toNat)
  case atStart => exact ⟨0, by omega, rfl, rfl, Below.refl _ _⟩
  case round =>
    obtain ⟨k, hk, rfl, rfl, hb⟩ := hrel
    have HBR := Lib.hid hb
    have hsr := hb.size
    have hkl := HKL.out k
    have hm3 := HLN.out
    by_cases hkm : k < m
    · have hkm' : (k : Int) < (m : Int) := by omega
      have hfr := (hb.block w.heap.size hfl4).trans HF4.out
      have hflr : w.heap.size < wr.heap.size := by omega
      have hrd := HR4.out.below hb
      obtain ⟨g, rfl, hat⟩ := hrd.at6 k (by rw [moL_len, ← HM.out]; exact hkm)
      have hgl := hrd.lt9 (by rw [moL_len, ← HM.out]; omega)
      rw [moL_at (n : Int) O k (by rw [← HM.out]; exact hkm)] at hat
      obtain ⟨x0, x1, x2, x3, x4, x5⟩ := hat
      simp only [] at x0 x1 x2 x3 x4 x5
      have hvk := HV.out k hkm
      have HST := HKS.out k
      have hrf := HRF.out k hkm
      have HT1 := Lib.hid fun w => tmC_any HC.out hvk w
      have HT2 := Lib.hid fun w => tmC_any hvk HC.out w
      have heq := eqN_numC (mulC_vld HC.out hvk) (mulC_vld hvk HC.out)
      obtain ⟨CB, hCB⟩ : ∃ CB, CB = decide (mulC (n : Int) c (O.getD k 0) = mulC (n : Int) (O.getD k 0) c) := ⟨_, rfl⟩
      have HST2 : Hid (kpK n c O (k + 1) = kpK n c O k + (if CB = true then 1 else 0)) := Lib.hid (by
        rw [HST, hCB]
        by_cases h : rnC n c (O.getD k 0) = c
        · rw [if_pos h, if_pos (decide_eq_true (hrf.1 h))]
        · rw [if_neg h, if_neg (by rw [decide_eq_false (fun e => h (hrf.2 e))]; decide)])
      rw [← hCB] at heq
      clear hCB hrf HST hb hrd hvk
      generalize kpK n c O k = K0 at *
      generalize O.getD k 0 = q at *
      generalize mulC (n : Int) c q = A at *
      generalize mulC (n : Int) q c = B2 at *
      simp only [mv, mcells] at HT1 HT2
      obtain ⟨r0, r1, r2, r3, r4, r5⟩ := belN_cellsC (B := wr.heap.size) hflr hfr
      have y0 : ∀ z, Below wr.heap.size wr z → z.cell? ⟨g, _, none⟩ = _ := fun z hz => (hz.cell (p := ⟨g, _, none⟩) hgl).trans x0
      have y1 : ∀ z, Below wr.heap.size wr z → z.cell? ⟨g, _, none⟩ = _ := fun z hz => (hz.cell (p := ⟨g, _, none⟩) hgl).trans x1
      have y2 : ∀ z, Below wr.heap.size wr z → z.cell? ⟨g, _, none⟩ = _ := fun z hz => (hz.cell (p := ⟨g, _, none⟩) hgl).trans x2
      have y3 : ∀ z, Below wr.heap.size wr z → z.cell? ⟨g, _, none⟩ = _ := fun z hz => (hz.cell (p := ⟨g, _, none⟩) hgl).trans x3
      have y4 : ∀ z, Below wr.heap.size wr z → z.cell? ⟨g, _, none⟩ = _ := fun z hz => (hz.cell (p := ⟨g, _, none⟩) hgl).trans x4
      have y5 : ∀ z, Below wr.heap.size wr z → z.cell? ⟨g, _, none⟩ = _ := fun z hz => (hz.cell (p := ⟨g, _, none⟩) hgl).trans x5
      clear x0 x1 x2 x3 x4 x5 hfr
      go_upto_region 7 with fail
      go_cut [33] from 21 to 33 (fun s33 wx => s33 = .bool CB ∧ Below wr.heap.size wr wx)
      case first =>
        go_region_held3 (fun w' => Below wr.heap.size wr w') (first | (with_reducible assumption) | ((repeat' (first | (with_reducible exact Below.refl _ _) | (with_reducible refine Below.alloc ?_ ?_ _) | (with_reducible refine Below.setCell ?_ ?_ _) | (with_reducible refine Below.drew ?_) | (with_reducible refine below_drewN ?_ _) | (with_reducible refine Below.trans ?_ (Below.mono (Hid.out (by assumption)) ?_)) | omega | (simp; done) | (simp; omega))); done)) (first | (go_at_call 78; (with_reducible refine (HT1.out _).mono ?_); rintro e w1 ⟨rfl, hb⟩; skip; obtain ⟨hc, hf⟩ := bcell hb; have hz := hb.size; have Hb := Lib.hid hb; (try simp at hz hc hf); (try (have hy := Nat.lt_of_succ_le hz)); have hz0 : wr.heap.size ≤ w1.heap.size := (by omega); (try (have hz1 : wr.heap.size < w1.heap.size := (by omega))); clear hb) | (go_at_call 78; (with_reducible refine (HT2.out _).mono ?_); rintro e w1 ⟨rfl, hb⟩; skip; obtain ⟨hc, hf⟩ := bcell hb; have hz := hb.size; have Hb := Lib.hid hb; (try simp at hz hc hf); (try (have hy := Nat.lt_of_succ_le hz)); have hz0 : wr.heap.size ≤ w1.heap.size := (by omega); (try (have hz1 : wr.heap.size < w1.heap.size := (by omega))); clear hb))
        all_goals (go_wp2_with fail)
        all_goals (go_meet)
        all_goals
          refine ⟨rfl, ?_⟩
          (repeat' (first | (with_reducible exact Below.refl _ _) | (with_reducible refine Below.alloc ?_ ?_ _) | (with_reducible refine Below.setCell ?_ ?_ _) | (with_reducible refine Below.drew ?_) | (with_reducible refine below_drewN ?_ _) | (with_reducible refine Below.trans ?_ (Below.mono (Hid.out (by assumption)) ?_)) | omega | (simp; done) | (simp; omega)))
      case rest =>
        obtain ⟨rfl, hbc⟩ := hcut
        have HBC := Lib.hid hbc
        clear hbc r0 r1 r2 r3 r4 r5 y0 y1 y2 y3 y4 y5 heq
        cases CB with
        | true =>
          go_wp2_with fail
          go_roundw
          case rel => exact ⟨k + 1, by omega, by go_num, by rw [HST2.out]; rfl, HBR.out.trans (HBC.out.mono hsr)⟩
          case measure => simp [intOf]; omega
        | false =>
          go_wp2_with fail
          go_roundw
          case rel => exact ⟨k + 1, by omega, by go_num, by rw [HST2.out]; rfl, HBR.out.trans (HBC.out.mono hsr)⟩
          case measure => simp [intOf]; omega
    · obtain rfl : k = m := by omega
      have hkm' : ¬ ((k : Int) < (k : Int)) := by omega
      have hK := HK.out
      rw [hK] at hkl ⊢
      have hK0 : ¬ (stN n c = 0) := by omega
      have hw : IntKind.i64.wrap (AL : Int) = (AL : Int) := IntWalk.i64_in _ (by omega)
      clear hb hK
      go_wp2_with fail
      go_ret3
      exact ⟨rfl, HB1.out.trans ((HB4.out.trans (HBR.out.mono hs4)).mono (by omega))⟩

set_option maxHeartbeats 1000000 in
theorem scs_any (p : Int) (t : Nat → Int) (w : World) :
    Calls Try.prog 39 #[mv p t] w fun e w' => e = .returned (csV p t) ∧ Below w.heap.size w w' := by
  cases hv : isB p t
  · rw [csV_1 hv]
    have hL := fun w => lis_any p t w
    rw [hv] at hL
    have HL := Lib.hid hL
    clear hL
    simp only [mv, mcells] at *
    go_enter Try.func39, Try.ntmps39
    go_wp2_with fail
    (refine (HL.out _).mono ?_; rintro e w1 ⟨rfl, hb⟩; obtain ⟨hc, hf⟩ := bcell hb; have hz := hb.size; have Hb := Lib.hid hb; (try simp at hz hc hf); (try (have hy := Nat.lt_of_succ_le hz)); have hz0 : w.heap.size < w1.heap.size := (by omega); clear hb)
    go_wp2_with fail
    go_ret3
    refine ⟨rfl, ?_⟩
    (repeat' (first | (with_reducible exact Below.refl _ _) | (with_reducible refine Below.alloc ?_ ?_ _) | (with_reducible refine Below.setCell ?_ ?_ _) | (with_reducible refine Below.drew ?_) | (with_reducible refine below_drewN ?_ _) | (with_reducible refine Below.trans ?_ (Below.mono (Hid.out (by assumption)) ?_)) | omega | (simp; done) | (simp; omega)))
  obtain ⟨h1, h5⟩ := isB_pts hv
  obtain ⟨n, rfl⟩ := Int.eq_ofNat_of_zero_le (show 0 ≤ p by omega)
  have hn1 : 1 ≤ n := by omega
  have hn5 : n ≤ 5 := by omega
  have hc := vld_ecd hv
  have e : mv (n : Int) t = mv (n : Int) (dcd (ecd t)) := by unfold mv; rw [mcells_ecd hv]
  rw [csV_0 hv, e]
  have hle : alN n (ecd t) ≤ 3125 := Nat.le_trans (Nat.div_le_self _ _) (ol_len hn1 hn5)
  obtain ⟨m, hm'⟩ := im_ex hn1 hn5 hc
  have hm : alN n (ecd t) * stN n (ecd t) = (olN n).length := by
    unfold alN stN
    rw [← hm', Nat.mul_div_cancel _ (fb_pos hn1 hn5 hc)]
  exact scs_ok n (ecd t) hn1 hn5 hc (tdiv_of (by rw [Nat.mul_comm]; exact hm) (fb_pos hn1 hn5 hc)) hle w

end Go.Proofs.Ytfghegjlilcafaa
