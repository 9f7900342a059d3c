/- Both sides of LeastForm. -/
import Derived.Test.YtfghegjlilcafaaLst
import Derived.Test.YtfghegjlilcafaaAlk
import Derived.Deep.RegionLaw
namespace Go.Proofs.Ytfghegjlilcafaa
open Go Go.RowKit

/-- The number of the least form. -/
def lfC (n c : Nat) : Nat := lstK n c (olN n) (olN n).length
theorem lstK_le (n c : Nat) (O : List Nat) : ∀ k, lstK n c O k ≤ c ∧ ∀ j, j < k → lstK n c O k ≤ rnC n c (O.getD j 0)
  | 0 => ⟨Nat.le_refl _, fun j hj => by omega⟩
  | k + 1 => by
    obtain ⟨h1, h2⟩ := lstK_le n c O k
    have e : lstK n c O (k + 1) = if rnC n c (O.getD k 0) < lstK n c O k then rnC n c (O.getD k 0) else lstK n c O k := rfl
    rw [e]
    refine ⟨by split <;> omega, fun j hj => ?_⟩
    by_cases hjk : j = k
    · subst hjk; split <;> omega
    · have := h2 j (by omega)
      split <;> omega
theorem lstK_in (n c : Nat) (O : List Nat) : ∀ k, k ≤ O.length → lstK n c O k = c ∨ ∃ q, q ∈ O ∧ lstK n c O k = rnC n c q
  | 0, _ => Or.inl rfl
  | k + 1, h => by
    have e : lstK n c O (k + 1) = if rnC n c (O.getD k 0) < lstK n c O k then rnC n c (O.getD k 0) else lstK n c O k := rfl
    rw [e]
    split
    · exact Or.inr ⟨_, getD_in k (by omega), rfl⟩
    · exact lstK_in n c O k (by omega)
theorem lf_ls {n c : Nat} {E : List Nat} (h1 : 1 ≤ n) (h5 : n ≤ 5) (hc : vld (n : Int) c) (h : Orbt (rnA n) (n - 1) (vld (n : Int)) c E) : lsN E = lfC n c := by
  have hlen : 0 < E.length := List.length_pos_of_mem h.first
  have hin := lsN_in hlen
  obtain ⟨q, hq, e⟩ := (orb_rn h1 h5 hc h _).1 hin
  obtain ⟨j, hj, ej⟩ := List.getElem_of_mem hq
  have h2 := (lstK_le n c (olN n) (olN n).length).2 j hj
  rw [List.getD_eq_getElem?_getD, List.getElem?_eq_getElem hj] at h2
  simp only [Option.getD_some] at h2
  rw [ej, ← e] at h2
  have h3 : lfC n c ∈ E := by
    rcases lstK_in n c (olN n) _ (Nat.le_refl _) with h4 | ⟨q', hq', h4⟩
    · unfold lfC; rw [h4]; exact h.first
    · exact (orb_rn h1 h5 hc h _).2 ⟨q', hq', h4⟩
  have h4 := lsN_le E _ h3
  unfold lfC at *
  omega

/-- What LeastForm returns. -/
def lfV (p : Int) (t : Nat → Int) : Value := .tuple #[mv (if isB p t then p else 0) (if isB p t then dcd (lfC p.toNat (ecd t)) else fun _ => 0), .int .i64 (if isB p t then 0 else 1)]
theorem lfV_1 {p : Int} {t : Nat → Int} (h : isB p t = false) : lfV p t = .tuple #[mv 0 fun _ => 0, .int .i64 1] := by unfold lfV; rw [h]; rfl
theorem lfV_0 {n : Nat} {t : Nat → Int} (h : isB (n : Int) t = true) : lfV (n : Int) t = .tuple #[mv (n : Int) (dcd (lfC n (ecd t))), .int .i64 0] := by unfold lfV; rw [h]; rfl

set_option maxHeartbeats 2000000 in
theorem ilf_any (p : Int) (t : Nat → Int) (w : World) :
    Calls Try.prog 36 #[mv p t] w fun e w' => e = .returned (lfV p t) ∧ Below w.heap.size w w' := by
  cases hv : isB p t
  · rw [lfV_1 hv]
    simp only [mv, mcells]
    go_enter Try.func36, Try.ntmps36
    go_wp2_with fail
    (refine (iis_any p t _).mono ?_; rintro e w1 ⟨rfl, hb⟩; obtain ⟨hc, hf⟩ := bcell hb; have hz := hb.size; have Hb := Lib.hid hb; (try simp at hz hc hf); (try (have hy := Nat.lt_of_succ_le hz)); have hz0 : w.heap.size < w1.heap.size := (by omega); have hz1 : w.heap.size + 1 < w1.heap.size := (by omega); clear hb)
    go_wp2_with fail
    refine bodyPost_ret (v := .tuple #[mv 0 fun _ => 0, .int .i64 1]) (by simp [results, Try.results36, go_sem, *]) rfl ⟨rfl, ?_⟩
    (repeat' (first | (with_reducible exact Below.refl _ _) | (with_reducible refine Below.alloc ?_ ?_ _) | (with_reducible refine Below.setCell ?_ ?_ _) | (with_reducible refine Below.drew ?_) | (with_reducible refine below_drewN ?_ _) | (with_reducible refine Below.trans ?_ (Below.mono (Hid.out (by assumption)) ?_)) | omega | (simp; done) | (simp; omega)))
  obtain ⟨h1, h5⟩ := isB_pts hv
  obtain ⟨n, rfl⟩ := Int.eq_ofNat_of_zero_le (show 0 ≤ p by omega)
  have hn1 : 1 ≤ n := by omega
  have hn5 : n ≤ 5 := by omega
  rw [lfV_0 hv]
  have hL := fun w => iis_any (n : Int) t w
  rw [hv] at hL
  have HL := Lib.hid hL
  have HA := Lib.hid fun w => ialk_any n t hv w
  have HV := Lib.hid (vld_ecd hv)
  clear hL hv h1 h5
  simp only [mv, mcells] at HL HA ⊢
  go_enter Try.func36, Try.ntmps36
  go_wp2_with fail
  refine (HL.out _).mono ?_
  rintro e w1 ⟨rfl, hb1⟩
  have hs1 := hb1.size
  simp only [World.size_alloc] at hs1
  have hf1 := (hb1.block w.heap.size (by simp; omega)).trans ((halloc_lt _ _ _ (by simp)).trans (halloc_at _ _ _ rfl))
  have hr1 := (hb1.block (w.heap.size + 1) (by simp)).trans (halloc_at _ _ _ (by simp))
  have HB1 : Hid (Below w.heap.size w w1) := Lib.hid ((((Below.refl w.heap.size w).alloc (Nat.le_refl _) _).alloc (by simp) _).trans (hb1.mono (by simp; omega)))
  obtain ⟨f0, f1, f2, f3, f4, f5⟩ := blk6 (t := t) hf1
  have HR1 := Lib.hid hr1
  have hfl : w.heap.size < w1.heap.size := by omega
  clear hb1 hf1 hr1
  go_wp2_with fail
  refine (HA.out _).mono ?_
  rintro e w2 ⟨a, cap, E, rfl, hrd, horb, hb2⟩
  have hs2 := hb2.size
  have HE := Lib.hid (lf_ls hn1 hn5 HV.out horb)
  have hlen := nodup_bound 3125 E horb.nd (fun x hx => (horb.vl x hx).1)
  have HI := Lib.hid (iolm_any (n : Int) E (List.length_pos_of_mem horb.first) (by omega) horb.vl w1.heap.size a cap w2 hrd)
  rw [HE.out] at HI
  have HB2 := Lib.hid hb2
  clear hrd horb hb2 f0 f1 f2 f3 f4 f5
  generalize E.length = le at *
  simp only [mv, mcells] at HI
  go_wp2_with fail
  refine HI.out.mono ?_
  rintro e w3 ⟨rfl, hb3⟩
  have hs3 := hb3.size
  have hr3 := (hb3.block (w.heap.size + 1) (by omega)).trans ((HB2.out.block (w.heap.size + 1) (by omega)).trans HR1.out)
  obtain ⟨q0, q1, q2, q3, q4, q5⟩ := blk6 (t := fun _ => 0) hr3
  have hfz := blk_free hr3
  have HB3 : Hid (Below w.heap.size w w3) := Lib.hid (HB1.out.trans ((HB2.out.trans (hb3.mono hs2)).mono (by omega)))
  clear hb3 hr3
  go_wp2_with fail
  refine bodyPost_ret (v := .tuple #[mv (n : Int) (dcd (lfC n (ecd t))), .int .i64 0]) (by simp [results, Try.results36, go_sem, *]) rfl ⟨rfl, below_set6 HB3.out (by omega)⟩

theorem sord_any (n : Nat) (h1 : 1 ≤ n) (h5 : n ≤ 5) : ∀ (c : Nat) (L : List Nat), L.length + c = n → (∀ x, x ∈ L → x < n) → ∀ (g cap : Nat) (w : World), FrN w g L →
    Calls Try.prog 70 #[.int .i64 (n : Int), .slice (some ⟨g, 0, none⟩) L.length cap] w (RetOwnM w.heap.size (moL (n : Int) (orR n c L)) w) := by
  intro c
  induction c with
  | zero => intro L hl hL g cap w h; exact sord_zero n h1 h5 L (by omega) hL g cap w h
  | succ c ih => intro L hl hL g cap w h; exact sord_succ n h1 h5 c (by omega) ih L hl hL g cap w h
theorem sord0 (n : Nat) (h1 : 1 ≤ n) (h5 : n ≤ 5) (g cap : Nat) (w : World) (hg : g < w.heap.size) :
    Calls Try.prog 70 #[.int .i64 (n : Int), .slice (some ⟨g, 0, none⟩) 0 cap] w (RetOwnM w.heap.size (moL (n : Int) (olN n)) w) := by
  have h := sord_any n h1 h5 n [] (by simp) (fun x hx => by cases hx) g cap w ⟨hg, fun i hi => by simp at hi⟩
  rw [orR_ol h1 h5] at h
  exact h
theorem ol_len {n : Nat} (h1 : 1 ≤ n) (h5 : n ≤ 5) : (olN n).length ≤ 3125 := by
  rw [← orR_ol h1 h5]
  exact Nat.le_trans (orR_le h5 n []) (Nat.pow_le_pow_right (by omega) h5)

set_option maxRecDepth 100000 in
set_option maxHeartbeats 4000000 in
theorem slf_any (p : Int) (t : Nat → Int) (w : World) :
    Calls Try.prog 35 #[mv p t] w fun e w' => e = .returned (lfV p t) ∧ Below w.heap.size w w' := by
  cases hv : isB p t
  · rw [lfV_1 hv]
    simp only [mv, mcells]
    go_enter Try.func35, Try.ntmps35
    go_wp2_with fail
    (refine (lis_any p t _).mono ?_; rintro e w1 ⟨rfl, hb⟩; obtain ⟨hc, hf⟩ := bcell hb; have hz := hb.size; have Hb := Lib.hid hb; (try simp at hz hc hf); (try (have hy := Nat.lt_of_succ_le hz)); have hz0 : w.heap.size < w1.heap.size := (by omega); have hz1 : w.heap.size + 1 < w1.heap.size := (by omega); clear hb)
    go_wp2_with fail
    refine bodyPost_ret (v := .tuple #[mv 0 fun _ => 0, .int .i64 1]) (by simp [results, Try.results35, go_sem, *]) rfl ⟨rfl, ?_⟩
    (repeat' (first | (with_reducible exact Below.refl _ _) | (with_reducible refine Below.alloc ?_ ?_ _) | (with_reducible refine Below.setCell ?_ ?_ _) | (with_reducible refine Below.drew ?_) | (with_reducible refine below_drewN ?_ _) | (with_reducible refine Below.trans ?_ (Below.mono (Hid.out (by assumption)) ?_)) | omega | (simp; done) | (simp; omega)))
  obtain ⟨h1, h5⟩ := isB_pts hv
  obtain ⟨n, rfl⟩ := Int.eq_ofNat_of_zero_le (show 0 ≤ p by omega)
  have hn1 : 1 ≤ n := by omega
  have hn5 : n ≤ 5 := by omega
  rw [lfV_0 hv]
  have hL := fun w => lis_any (n : Int) t w
  rw [hv] at hL
  have HL := Lib.hid hL
  have HO := Lib.hid fun g cap w h => sord0 n hn1 hn5 g cap w h
  have hls : ∀ B a cap w, RdM w B a (moL (n : Int) (olN n)) → Calls Try.prog 74 #[mv (n : Int) t, .slice a (olN n).length cap] w fun e w' => e = .returned (mv (n : Int) (dcd (lfC n (ecd t)))) ∧ Below w.heap.size w w' := by
    intro B a cap w h
    have h' := slst_any n hn1 hn5 (ecd t) (vld_ecd hv) (olN n) rfl (ol_len hn1 hn5) B a cap w h
    have e : mv (n : Int) (dcd (ecd t)) = mv (n : Int) t := by unfold mv; rw [mcells_ecd hv]
    rw [e] at h'
    exact h'
  have HLS := Lib.hid hls
  have HLN := Lib.hid (ol_len hn1 hn5)
  clear hL hv h1 h5 hls
  simp only [mv, mcells] at HL HLS ⊢
  go_enter Try.func35, Try.ntmps35
  go_wp2_with fail
  refine (HL.out _).mono ?_
  rintro e w1 ⟨rfl, hb1⟩
  have hs1 := hb1.size
  simp only [World.size_alloc] at hs1
  have hf1 := (hb1.block w.heap.size (by simp; omega)).trans ((halloc_lt _ _ _ (by simp)).trans (halloc_at _ _ _ rfl))
  have hr1 := (hb1.block (w.heap.size + 1) (by simp)).trans (halloc_at _ _ _ (by simp))
  have HB1 : Hid (Below w.heap.size w w1) := Lib.hid ((((Below.refl w.heap.size w).alloc (Nat.le_refl _) _).alloc (by simp) _).trans (hb1.mono (by simp; omega)))
  obtain ⟨f0, f1, f2, f3, f4, f5⟩ := blk6 (t := t) hf1
  have HF1 := Lib.hid hf1
  have HR1 := Lib.hid hr1
  have hfl : w.heap.size < w1.heap.size := by omega
  have hrl : w.heap.size + 1 < w1.heap.size := by omega
  clear hb1 hf1 hr1
  go_upto_region 3 with fail
  go_region_law (first
    | (go_simp; go_at_call 70; refine (HO.out _ _ _ (by simp)).mono ?_; rintro e w4 ⟨v4, rfl, ho4, hb4⟩; obtain ⟨a4, cap4, rfl, hr4⟩ := ownM_rd ho4 (by rw [moL_len]; have := HLN.out; omega); (rw [moL_len] at *); have HR4 := Lib.hid hr4; have HB4 : Hid (Below w1.heap.size w1 w4) := Lib.hid (by first | exact ((Below.refl _ _).alloc (Nat.le_refl _) _).trans (hb4.mono (by simp)) | exact ((Below.refl _ _).alloc (Nat.le_refl _) _).drew.trans (hb4.mono (by simp)) | exact ((Below.refl _ _).drew.alloc (by simp) _).trans (hb4.mono (by simp)) | exact ((Below.refl _ _).drew.alloc (by simp) _).drew.trans (hb4.mono (by simp))); have hs4 := HB4.out.size; have hf4 := (HB4.out.block w.heap.size hfl).trans HF1.out; have hr4' := (HB4.out.block (w.heap.size + 1) hrl).trans HR1.out; obtain ⟨x0, x1, x2, x3, x4, x5⟩ := blk6 (t := t) hf4; have HR4' := Lib.hid hr4'; have hfl4 : w.heap.size < w4.heap.size := Nat.lt_of_lt_of_le hfl hs4; have hrl4 : w.heap.size + 1 < w4.heap.size := Nat.lt_of_lt_of_le hrl hs4; clear ho4 hb4 hr4 hf4 hr4')
    | (go_simp; go_at_call 74; refine (HLS.out _ _ _ _ (by first | exact HR4.out | exact HR4.out.below ((Below.refl _ _).drew))).mono ?_; rintro e w5 ⟨rfl, hb5⟩; have HB5 : Hid (Below w4.heap.size w4 w5) := Lib.hid (by first | exact hb5 | exact (Below.refl _ _).drew.trans hb5); have hs5 := HB5.out.size; have hr5 := (HB5.out.block (w.heap.size + 1) hrl4).trans HR4'.out; obtain ⟨q0, q1, q2, q3, q4, q5⟩ := blk6 (t := fun _ => 0) hr5; have hfz := blk_free hr5; clear hb5 hr5)
    | fail "arm")
  all_goals (go_wp2_with fail)
  all_goals
    have hbb : Below w.heap.size w w5 := HB1.out.trans ((HB4.out.trans (HB5.out.mono hs4)).mono (by omega))
    refine bodyPost_ret (v := .tuple #[mv (n : Int) (dcd (lfC n (ecd t))), .int .i64 0]) (by simp [results, Try.results35, go_sem, *]) rfl ⟨rfl, ?_⟩
    first
      | exact below_set6 hbb (by omega)
      | exact below_set6 hbb.drew (by omega)
      | exact (below_set6 hbb (by omega)).drew

end Go.Proofs.Ytfghegjlilcafaa
