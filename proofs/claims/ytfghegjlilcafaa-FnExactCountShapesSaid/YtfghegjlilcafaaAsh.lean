/- Both sides of AreSameShape. -/
import Derived.Test.YtfghegjlilcafaaLef
import Derived.Test.YtfghegjlilcafaaCtm
import Derived.Test.YtfghegjlilcafaaProd
namespace Go.Proofs.Ytfghegjlilcafaa
open Go Go.RowKit

section shp
variable {n : Nat} (h1 : 1 ≤ n) (h5 : n ≤ 5)
include h1 h5
omit h1 h5 in
theorem lf_le {c q : Nat} (hq : q ∈ olN n) : lfC n c ≤ rnC n c q := by
  obtain ⟨j, hj, ej⟩ := List.getElem_of_mem hq
  have h2 := (lstK_le n c (olN n) (olN n).length).2 j hj
  rw [List.getD_eq_getElem?_getD, List.getElem?_eq_getElem hj] at h2
  simp only [Option.getD_some] at h2
  rw [ej] at h2
  exact h2
theorem lf_in {c : Nat} (hc : vld (n : Int) c) : ∃ q, q ∈ olN n ∧ lfC n c = rnC n c q := by
  rcases lstK_in n c (olN n) _ (Nat.le_refl _) with h4 | h
  · exact ⟨_, olid h1 h5, h4.trans (rn_id h1 h5 hc).symm⟩
  · exact h
theorem sh_sym {f g : Nat} (hf : vld (n : Int) f) (h : ∃ q, q ∈ olN n ∧ g = rnC n f q) : ∃ r, r ∈ olN n ∧ f = rnC n g r := by
  obtain ⟨q, hq, rfl⟩ := h
  obtain ⟨r, hr, e1, _⟩ := ol_inv h1 h5 hq
  exact ⟨r, hr, by rw [rn_mul h1 h5 hf hq hr, e1, rn_id h1 h5 hf]⟩
theorem sh_trans {f g k : Nat} (hf : vld (n : Int) f) (h : ∃ q, q ∈ olN n ∧ g = rnC n f q) (h' : ∃ q, q ∈ olN n ∧ k = rnC n g q) : ∃ r, r ∈ olN n ∧ k = rnC n f r := by
  obtain ⟨q, hq, rfl⟩ := h
  obtain ⟨s, hs, rfl⟩ := h'
  exact ⟨_, ol_mul h1 h5 hs hq, rn_mul h1 h5 hf hq hs⟩
theorem lf_mono {f g : Nat} (hf : vld (n : Int) f) (hg : vld (n : Int) g) (h : ∃ q, q ∈ olN n ∧ g = rnC n f q) : lfC n f ≤ lfC n g := by
  obtain ⟨r, hr, e⟩ := sh_trans h1 h5 hf h (lf_in h1 h5 hg)
  rw [e]
  exact lf_le hr
theorem lf_eq {f g : Nat} (hf : vld (n : Int) f) (hg : vld (n : Int) g) : lfC n f = lfC n g ↔ ∃ q, q ∈ olN n ∧ g = rnC n f q := by
  constructor
  · intro e
    have a := lf_in h1 h5 hf
    have b := lf_in h1 h5 hg
    rw [← e] at b
    exact sh_trans h1 h5 hf a (sh_sym h1 h5 hg b)
  · intro h
    have a := lf_mono h1 h5 hf hg h
    have b := lf_mono h1 h5 hg hf (sh_sym h1 h5 hf h)
    omega
end shp

/-- Whether two maps have one shape. -/
def asB (p : Int) (f g : Nat → Int) : Bool := decide (lfC p.toNat (ecd f) = lfC p.toNat (ecd g))
/-- What AreSameShape returns. -/
def asV (p : Int) (f : Nat → Int) (q : Int) (g : Nat → Int) : Value := .tuple #[.bool (if likeC p f q g = 0 then asB p f g else false), .int .i64 (likeC p f q g)]
theorem asV_0 {p : Int} {f : Nat → Int} {q : Int} {g : Nat → Int} (h : likeC p f q g = 0) : asV p f q g = .tuple #[.bool (asB p f g), .int .i64 0] := by
  unfold asV; rw [h]; rfl
theorem asV_1 {p : Int} {f : Nat → Int} {q : Int} {g : Nat → Int} (h : likeC p f q g = 1) : asV p f q g = .tuple #[.bool false, .int .i64 1] := by
  unfold asV; rw [h]; rfl
theorem asV_2 {p : Int} {f : Nat → Int} {q : Int} {g : Nat → Int} (h : likeC p f q g = 2) : asV p f q g = .tuple #[.bool false, .int .i64 2] := by
  unfold asV; rw [h]; rfl

theorem fld_orb (v : Value) (w : World) : (Instr.field 70 (.agg #[v]) 0).run Try.prog w = .ok v w := by kernel_rfl

set_option maxRecDepth 100000 in
set_option maxHeartbeats 2000000 in
theorem ias_any (p : Int) (f : Nat → Int) (q : Int) (g : Nat → Int) (w : World) :
    Calls Try.prog 38 #[mv p f, mv q g] w fun e w' => e = .returned (asV p f q g) ∧ Below w.heap.size w w' := by
  cases hf : isB p f
  · rw [asV_1 (by simp [likeC, hf])]
    simp only [mv, mcells]
    go_enter Try.func38, Try.ntmps38
    go_wp2_with fail
    (refine (iis_any p f _).mono ?_; rintro e w1 ⟨rfl, hb⟩; obtain ⟨hc, hf⟩ := bcell hb; have hz := hb.size; have Hb := Lib.hid hb; (try simp at hz hc hf); (try (have hy := Nat.lt_of_succ_le hz)); have hz0 : w.heap.size < w1.heap.size := (by omega); have hz1 : w.heap.size + 1 < w1.heap.size := (by omega); clear hb)
    go_wp2_with fail
    go_ret2
    refine ⟨rfl, ?_⟩
    (repeat' (first | (with_reducible exact Below.refl _ _) | (with_reducible refine Below.alloc ?_ ?_ _) | (with_reducible refine Below.setCell ?_ ?_ _) | (with_reducible refine Below.drew ?_) | (with_reducible refine below_drewN ?_ _) | (with_reducible refine Below.trans ?_ (Below.mono (Hid.out (by assumption)) ?_)) | omega | (simp; done) | (simp; omega)))
  · cases hg : isB q g
    · rw [asV_1 (by simp [likeC, hg])]
      simp only [mv, mcells]
      go_enter Try.func38, Try.ntmps38
      go_wp2_with fail
      (refine (iis_any p f _).mono ?_; rintro e w1 ⟨rfl, hb⟩; obtain ⟨hc, hf⟩ := bcell hb; have hz := hb.size; have Hb := Lib.hid hb; (try simp at hz hc hf); (try (have hy := Nat.lt_of_succ_le hz)); have hz0 : w.heap.size < w1.heap.size := (by omega); have hz1 : w.heap.size + 1 < w1.heap.size := (by omega); clear hb)
      go_wp2_with fail
      (refine (iis_any q g _).mono ?_; rintro e w1 ⟨rfl, hb⟩; obtain ⟨hc, hf⟩ := bcell hb; have hz := hb.size; have Hb := Lib.hid hb; (try simp at hz hc hf); (try (have hy := Nat.lt_of_succ_le hz)); have hz0 : w.heap.size < w1.heap.size := (by omega); have hz1 : w.heap.size + 1 < w1.heap.size := (by omega); clear hb)
      go_wp2_with fail
      go_ret2
      refine ⟨rfl, ?_⟩
      (repeat' (first | (with_reducible exact Below.refl _ _) | (with_reducible refine Below.alloc ?_ ?_ _) | (with_reducible refine Below.setCell ?_ ?_ _) | (with_reducible refine Below.drew ?_) | (with_reducible refine below_drewN ?_ _) | (with_reducible refine Below.trans ?_ (Below.mono (Hid.out (by assumption)) ?_)) | omega | (simp; done) | (simp; omega)))
    · by_cases hpq : p = q
      · subst hpq
        rw [asV_0 (by unfold likeC; rw [if_pos ⟨hf, hg⟩, if_pos rfl])]
        obtain ⟨h1, h5⟩ := isB_pts hf
        obtain ⟨n, rfl⟩ := Int.eq_ofNat_of_zero_le (show 0 ≤ p by omega)
        have hn1 : 1 ≤ n := by omega
        have hn5 : n ≤ 5 := by omega
        have HFL := Lib.hid fun w => iis_any (n : Int) f w
        have HGL := Lib.hid fun w => iis_any (n : Int) g w
        rw [hf] at HFL
        rw [hg] at HGL
        have HA := Lib.hid fun w => ialk_any n f hf w
        have hco : ∀ E, Orbt (rnA n) (n - 1) (vld (n : Int)) (ecd f) E → ∀ a cap B w, RdM w B a (moL (n : Int) E) → Calls Try.prog 77 #[.slice a E.length cap, mv (n : Int) g] w fun e w' => e = .returned (.bool (asB (n : Int) f g)) ∧ Below w.heap.size w w' := by
          intro E hE a cap B w hr
          have h := hasCC_any (K := E) (c := ecd g) hE.vl (vld_ecd hg) (nodup_bound 3125 E hE.nd (fun x hx => (hE.vl x hx).1)) a cap w hr.inRow
          have e : mv (n : Int) (dcd (ecd g)) = mv (n : Int) g := by unfold mv; rw [mcells_ecd hg]
          have e2 : asB (n : Int) f g = decide (ecd g ∈ E) := by
            unfold asB
            rw [Int.toNat_natCast, decide_eq_decide, lf_eq hn1 hn5 (vld_ecd hf) (vld_ecd hg)]
            exact (orb_rn hn1 hn5 (vld_ecd hf) hE _).symm
          rw [e] at h
          rw [e2]
          exact h
        have HCO := Lib.hid hco
        have HFD := fld_orb
        clear hco hf hg h1 h5
        generalize asB (n : Int) f g = R at *
        simp only [mv, mcells] at HFL HGL HA HCO ⊢
        go_enter Try.func38, Try.ntmps38
        go_wp2_with fail
        refine (HFL.out _).mono ?_
        rintro e w1 ⟨rfl, hb1⟩
        have hs1 := hb1.size
        simp only [World.size_alloc] at hs1
        have hf1 := (hb1.block w.heap.size (by simp; omega)).trans ((halloc_lt _ _ _ (by simp)).trans (halloc_at _ _ _ rfl))
        have hg1 := (hb1.block (w.heap.size + 1) (by simp)).trans (halloc_at _ _ _ (by simp))
        have HB1 : Hid (Below w.heap.size w w1) := Lib.hid ((((Below.refl w.heap.size w).alloc (Nat.le_refl _) _).alloc (by simp) _).trans (hb1.mono (by simp; omega)))
        obtain ⟨f0, f1, f2, f3, f4, f5⟩ := blk6 (t := f) hf1
        obtain ⟨g0, g1, g2, g3, g4, g5⟩ := blk6 (t := g) hg1
        have HF1 := Lib.hid hf1
        have HG1 := Lib.hid hg1
        have hfl : w.heap.size < w1.heap.size := by omega
        have hgl : w.heap.size + 1 < w1.heap.size := by omega
        clear hb1 hf1 hg1
        go_wp2_with fail
        refine (HGL.out _).mono ?_
        rintro e w3 ⟨rfl, hb3⟩
        have hs3 := hb3.size
        have hf3 := (hb3.block w.heap.size hfl).trans HF1.out
        have hg3 := (hb3.block (w.heap.size + 1) hgl).trans HG1.out
        have HB3 : Hid (Below w.heap.size w w3) := Lib.hid (HB1.out.trans (hb3.mono (by omega)))
        clear f0 f1 f2 f3 f4 f5 g0 g1 g2 g3 g4 g5
        obtain ⟨f0, f1, f2, f3, f4, f5⟩ := blk6 (t := f) hf3
        obtain ⟨g0, g1, g2, g3, g4, g5⟩ := blk6 (t := g) hg3
        have HG3 := Lib.hid hg3
        have hfl3 : w.heap.size < w3.heap.size := by omega
        have hgl3 : w.heap.size + 1 < w3.heap.size := by omega
        clear hb3 hf3 hg3
        go_upto_region 5 with fail
        go_region_law (first
          | (go_simp; go_at_call 73; refine (HA.out _).mono ?_; rintro e w4 ⟨a4, cap4, E, rfl, hr4, ho4, hb4⟩; have HR4 := Lib.hid hr4; have HO4 := Lib.hid ho4; have HB4 : Hid (Below w3.heap.size w3 w4) := Lib.hid (by first | exact hb4 | exact (Below.refl _ _).drew.trans hb4); have hs4 := HB4.out.size; have hg4 := (HB4.out.block (w.heap.size + 1) hgl3).trans HG3.out; obtain ⟨z0, z1, z2, z3, z4, z5⟩ := blk6 (t := g) hg4; have hgl4 : w.heap.size + 1 < w4.heap.size := Nat.lt_of_lt_of_le hgl3 hs4; clear hr4 ho4 hb4 hg4)
          | (go_simp; go_at_call 77; refine (HCO.out E HO4.out _ _ _ _ (by first | exact HR4.out | exact HR4.out.below (Below.refl _ _).drew)).mono ?_; rintro e w5 ⟨rfl, hb5⟩; have HB5 : Hid (Below w4.heap.size w4 w5) := Lib.hid (by first | exact hb5 | exact (Below.refl _ _).drew.trans hb5); clear hb5)
          | fail "arm")
        all_goals (go_wp2_with fail)
        all_goals (go_ret2)
        all_goals
          refine ⟨rfl, ?_⟩
          have hbb : Below w.heap.size w w5 := HB3.out.trans ((HB4.out.trans (HB5.out.mono hs4)).mono (by omega))
          first | exact hbb | exact hbb.drew
      · rw [asV_2 (by unfold likeC; rw [if_pos ⟨hf, hg⟩, if_neg hpq])]
        have hb : (p != q) = true := by simp [hpq]
        simp only [mv, mcells]
        go_enter Try.func38, Try.ntmps38
        go_wp2_with fail
        (refine (iis_any p f _).mono ?_; rintro e w1 ⟨rfl, hb⟩; obtain ⟨hc, hf⟩ := bcell hb; have hz := hb.size; have Hb := Lib.hid hb; (try simp at hz hc hf); (try (have hy := Nat.lt_of_succ_le hz)); have hz0 : w.heap.size < w1.heap.size := (by omega); have hz1 : w.heap.size + 1 < w1.heap.size := (by omega); clear hb)
        go_wp2_with fail
        (refine (iis_any q g _).mono ?_; rintro e w1 ⟨rfl, hb⟩; obtain ⟨hc, hf⟩ := bcell hb; have hz := hb.size; have Hb := Lib.hid hb; (try simp at hz hc hf); (try (have hy := Nat.lt_of_succ_le hz)); have hz0 : w.heap.size < w1.heap.size := (by omega); have hz1 : w.heap.size + 1 < w1.heap.size := (by omega); clear hb)
        go_wp2_with fail
        go_ret2
        refine ⟨rfl, ?_⟩
        (repeat' (first | (with_reducible exact Below.refl _ _) | (with_reducible refine Below.alloc ?_ ?_ _) | (with_reducible refine Below.setCell ?_ ?_ _) | (with_reducible refine Below.drew ?_) | (with_reducible refine below_drewN ?_ _) | (with_reducible refine Below.trans ?_ (Below.mono (Hid.out (by assumption)) ?_)) | omega | (simp; done) | (simp; omega)))

set_option maxRecDepth 100000 in
set_option maxHeartbeats 1000000 in
theorem sas_any (p : Int) (f : Nat → Int) (q : Int) (g : Nat → Int) (w : World) :
    Calls Try.prog 37 #[mv p f, mv q g] w fun e w' => e = .returned (asV p f q g) ∧ Below w.heap.size w w' := by
  rcases like_cases p f q g with ⟨hf, hg, rfl, hl⟩ | ⟨_, _, _, hl⟩ | ⟨_, hl⟩
  · rw [asV_0 hl]
    obtain ⟨h1, h5⟩ := isB_pts hf
    obtain ⟨n, rfl⟩ := Int.eq_ofNat_of_zero_le (show 0 ≤ p by omega)
    have hn1 : 1 ≤ n := by omega
    have hn5 : n ≤ 5 := by omega
    have HL := fun w => like_any (n : Int) f (n : Int) g w
    rw [hl] at HL
    have HL := Lib.hid HL
    have HO := Lib.hid fun g cap w h => sord0 n hn1 hn5 g cap w h
    have hls : ∀ t : Nat → Int, isB (n : Int) t = true → ∀ B a cap w, RdM w B a (moL (n : Int) (olN n)) → Calls Try.prog 74 #[mv (n : Int) t, .slice a (olN n).length cap] w fun e w' => e = .returned (mv (n : Int) (dcd (lfC n (ecd t)))) ∧ Below w.heap.size w w' := by
      intro t hv B a cap w h
      have h' := slst_any n hn1 hn5 (ecd t) (vld_ecd hv) (olN n) rfl (ol_len hn1 hn5) B a cap w h
      have e : mv (n : Int) (dcd (ecd t)) = mv (n : Int) t := by unfold mv; rw [mcells_ecd hv]
      rw [e] at h'
      exact h'
    have HLf := Lib.hid (hls f hf)
    have HLg := Lib.hid (hls g hg)
    have HLN := Lib.hid (ol_len hn1 hn5)
    have heq := eqN_numC (lstK_vld hn1 hn5 (vld_ecd hf) _ (Nat.le_refl _)) (lstK_vld hn1 hn5 (vld_ecd hg) _ (Nat.le_refl _))
    have hab : asB (n : Int) f g = decide (lfC n (ecd f) = lfC n (ecd g)) := by unfold asB; rw [Int.toNat_natCast]
    rw [hab]
    change ∀ w, (binOp .eql 28 (.agg #[.int .i64 (n : Int), .int .i64 (dcd (lfC n (ecd f)) 0), .int .i64 (dcd (lfC n (ecd f)) 1), .int .i64 (dcd (lfC n (ecd f)) 2), .int .i64 (dcd (lfC n (ecd f)) 3), .int .i64 (dcd (lfC n (ecd f)) 4)]) (.agg #[.int .i64 (n : Int), .int .i64 (dcd (lfC n (ecd g)) 0), .int .i64 (dcd (lfC n (ecd g)) 1), .int .i64 (dcd (lfC n (ecd g)) 2), .int .i64 (dcd (lfC n (ecd g)) 3), .int .i64 (dcd (lfC n (ecd g)) 4)])).run Try.prog w = .ok (.bool (decide (lfC n (ecd f) = lfC n (ecd g)))) w at heq
    clear hl hab hls hf hg h1 h5
    generalize lfC n (ecd f) = mF at *
    generalize lfC n (ecd g) = mG at *
    generalize decide (mF = mG) = R at *
    generalize olN n = O at *
    simp only [mv, mcells] at HL HLf HLg ⊢
    go_enter Try.func37, Try.ntmps37
    go_wp2_with fail
    refine (HL.out _).mono ?_
    rintro e w1 ⟨rfl, hb1⟩
    have hs1 := hb1.size
    simp only [World.size_alloc] at hs1
    have hf1 := (hb1.block w.heap.size (by simp; omega)).trans ((halloc_lt _ _ _ (by simp)).trans (halloc_at _ _ _ rfl))
    have hg1 := (hb1.block (w.heap.size + 1) (by simp)).trans (halloc_at _ _ _ (by simp))
    have HB1 : Hid (Below w.heap.size w w1) := Lib.hid ((((Below.refl w.heap.size w).alloc (Nat.le_refl _) _).alloc (by simp) _).trans (hb1.mono (by simp; omega)))
    obtain ⟨f0, f1, f2, f3, f4, f5⟩ := blk6 (t := f) hf1
    have HF1 := Lib.hid hf1
    have HG1 := Lib.hid hg1
    have hfl : w.heap.size < w1.heap.size := by omega
    have hgl : w.heap.size + 1 < w1.heap.size := by omega
    clear hb1 hf1 hg1
    go_wp2_with fail
    refine (HO.out _ _ _ (by simp)).mono ?_
    rintro e w4 ⟨v4, rfl, ho4, hb4⟩
    obtain ⟨a4, cap4, rfl, hr4⟩ := ownM_rd ho4 (by rw [moL_len]; have := HLN.out; omega)
    rw [moL_len] at *
    have HR4 := Lib.hid hr4
    have HB4 : Hid (Below w1.heap.size w1 w4) := Lib.hid (((Below.refl _ _).alloc (Nat.le_refl _) _).trans (hb4.mono (by simp)))
    have hs4 := HB4.out.size
    have hf4 := (HB4.out.block w.heap.size hfl).trans HF1.out
    have hg4 := (HB4.out.block (w.heap.size + 1) hgl).trans HG1.out
    clear f0 f1 f2 f3 f4 f5 ho4 hb4 hr4
    obtain ⟨f0, f1, f2, f3, f4, f5⟩ := blk6 (t := f) hf4
    obtain ⟨g0, g1, g2, g3, g4, g5⟩ := blk6 (t := g) hg4
    have HF4 := Lib.hid hf4
    have HG4 := Lib.hid hg4
    have hfl4 : w.heap.size < w4.heap.size := by omega
    have hgl4 : w.heap.size + 1 < w4.heap.size := by omega
    clear hf4 hg4
    go_upto_region 5 with fail
    go_region_law (first
      | (go_simp; go_at_call 74; (with_reducible refine (HLf.out _ _ _ _ (by first | (with_reducible exact HR4.out) | (with_reducible exact HR4.out.below (Below.refl _ _).drew) | (with_reducible exact HR4.out.below HBg.out) | (with_reducible exact HR4.out.below HBg.out.drew))).mono ?_); rintro e wf ⟨rfl, hb⟩; have HBf : Hid (Below w4.heap.size w4 wf) := Lib.hid (by first | (with_reducible exact hb) | (with_reducible exact HBg.out.trans (hb.mono HBg.out.size)) | (with_reducible exact HBg.out.drew.trans (hb.mono HBg.out.size)) | exact (Below.refl _ _).drew.trans hb); have hsf := HBf.out.size; have hgf := (HBf.out.block (w.heap.size + 1) hgl4).trans HG4.out; obtain ⟨_, _, _, _, _, _⟩ := blk6 (t := g) hgf; have hff := (HBf.out.block w.heap.size hfl4).trans HF4.out; obtain ⟨_, _, _, _, _, _⟩ := blk6 (t := f) hff; have hglf : w.heap.size + 1 < wf.heap.size := Nat.lt_of_lt_of_le hgl4 hsf; have hflf : w.heap.size < wf.heap.size := Nat.lt_of_lt_of_le hfl4 hsf; clear hb hgf hff)
      | (go_simp; go_at_call 74; (with_reducible refine (HLg.out _ _ _ _ (by first | (with_reducible exact HR4.out) | (with_reducible exact HR4.out.below (Below.refl _ _).drew) | (with_reducible exact HR4.out.below HBf.out) | (with_reducible exact HR4.out.below HBf.out.drew))).mono ?_); rintro e wg ⟨rfl, hb⟩; have HBg : Hid (Below w4.heap.size w4 wg) := Lib.hid (by first | (with_reducible exact hb) | (with_reducible exact HBf.out.trans (hb.mono HBf.out.size)) | (with_reducible exact HBf.out.drew.trans (hb.mono HBf.out.size)) | exact (Below.refl _ _).drew.trans hb); have hsg := HBg.out.size; have hgg := (HBg.out.block (w.heap.size + 1) hgl4).trans HG4.out; obtain ⟨_, _, _, _, _, _⟩ := blk6 (t := g) hgg; have hfg := (HBg.out.block w.heap.size hfl4).trans HF4.out; obtain ⟨_, _, _, _, _, _⟩ := blk6 (t := f) hfg; have hglg : w.heap.size + 1 < wg.heap.size := Nat.lt_of_lt_of_le hgl4 hsg; have hflg : w.heap.size < wg.heap.size := Nat.lt_of_lt_of_le hfl4 hsg; clear hb hgg hfg)
      | fail "arm")
    all_goals (go_wp2_with fail)
    all_goals (go_ret2)
    all_goals
      refine ⟨rfl, ?_⟩
      have hbF : Below w.heap.size w wf := HB1.out.trans ((HB4.out.trans (HBf.out.mono hs4)).mono (by omega))
      have hbG : Below w.heap.size w wg := HB1.out.trans ((HB4.out.trans (HBg.out.mono hs4)).mono (by omega))
      first | exact hbF | exact hbG | exact hbF.drew | exact hbG.drew
  · rw [asV_2 hl]
    have HL := fun w => like_any p f q g w
    rw [hl] at HL
    clear hl
    have HL := Lib.hid HL
    simp only [mv, mcells] at *
    go_enter Try.func37, Try.ntmps37
    go_wp2_with fail
    (refine (HL.out _).mono ?_; rintro e w1 ⟨rfl, hb⟩; obtain ⟨hc, hf⟩ := bcell hb; have hz := hb.size; have Hb := Lib.hid hb; (try simp at hz hc hf); (try (have hy := Nat.lt_of_succ_le hz)); have hz0 : w.heap.size < w1.heap.size := (by omega); have hz1 : w.heap.size + 1 < w1.heap.size := (by omega); clear hb)
    go_wp2_with fail
    go_ret2
    refine ⟨rfl, ?_⟩
    (repeat' (first | (with_reducible exact Below.refl _ _) | (with_reducible refine Below.alloc ?_ ?_ _) | (with_reducible refine Below.setCell ?_ ?_ _) | (with_reducible refine Below.drew ?_) | (with_reducible refine below_drewN ?_ _) | (with_reducible refine Below.trans ?_ (Below.mono (Hid.out (by assumption)) ?_)) | omega | (simp; done) | (simp; omega)))
  · rw [asV_1 hl]
    have HL := fun w => like_any p f q g w
    rw [hl] at HL
    clear hl
    have HL := Lib.hid HL
    simp only [mv, mcells] at *
    go_enter Try.func37, Try.ntmps37
    go_wp2_with fail
    (refine (HL.out _).mono ?_; rintro e w1 ⟨rfl, hb⟩; obtain ⟨hc, hf⟩ := bcell hb; have hz := hb.size; have Hb := Lib.hid hb; (try simp at hz hc hf); (try (have hy := Nat.lt_of_succ_le hz)); have hz0 : w.heap.size < w1.heap.size := (by omega); have hz1 : w.heap.size + 1 < w1.heap.size := (by omega); clear hb)
    go_wp2_with fail
    go_ret2
    refine ⟨rfl, ?_⟩
    (repeat' (first | (with_reducible exact Below.refl _ _) | (with_reducible refine Below.alloc ?_ ?_ _) | (with_reducible refine Below.setCell ?_ ?_ _) | (with_reducible refine Below.drew ?_) | (with_reducible refine below_drewN ?_ _) | (with_reducible refine Below.trans ?_ (Below.mono (Hid.out (by assumption)) ?_)) | omega | (simp; done) | (simp; omega)))

end Go.Proofs.Ytfghegjlilcafaa
