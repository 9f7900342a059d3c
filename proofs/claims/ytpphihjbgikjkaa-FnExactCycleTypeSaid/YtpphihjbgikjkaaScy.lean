/- The contract of spec.CycleType. -/
import Derived.Test.YtpphihjbgikjkaaCyt
import Derived.Test.YtpphihjbgikjkaaBass
namespace Go.Proofs.Ytpphihjbgikjkaa
open Go Go.RowKit

theorem cyN_back {n : Nat} {t : Nat → Int} (ht : isB (n : Int) t = true) {p : Nat} (hp : p < n) (h : orb t 60 p = p) : 1 ≤ cyN t p ∧ orb t (cyN t p) p = p ∧ ∀ i, 1 ≤ i → i < cyN t p → orb t i p ≠ p := by
  have key : ∀ m, (∃ L, 1 ≤ L ∧ L ≤ m ∧ orb t L p = p) → ∃ L, 1 ≤ L ∧ orb t L p = p ∧ ∀ i, 1 ≤ i → i < L → orb t i p ≠ p := by
    intro m
    induction m with
    | zero => rintro ⟨L, h1, h2, _⟩; omega
    | succ m ih =>
      rintro ⟨L, h1, h2, h3⟩
      by_cases e : ∃ L', 1 ≤ L' ∧ L' ≤ m ∧ orb t L' p = p
      · exact ih e
      · exact ⟨L, h1, h3, fun i hi1 hi2 he => e ⟨i, hi1, by omega, he⟩⟩
  obtain ⟨L, h1, h2, h3⟩ := key 60 ⟨60, by omega, by omega, h⟩
  have e := len_back ht hp h h1 h2 h3
  rw [← e]
  exact ⟨h1, h2, h3⟩

/-- A number stored into a list of one's own. -/
theorem Own.put {w : World} {B g n cap i : Nat} {L : List Int} (h : Own w B (.slice (some ⟨g, 0, none⟩) n cap) L) (_ : i < L.length) (x : Int) : Own (w.setCell ⟨g, i, none⟩ (.int .i64 x)) B (.slice (some ⟨g, 0, none⟩) n cap) (L.set i x) := by
  unfold Own at *
  rcases h.2 with ⟨h1, _⟩ | ⟨g2, cap2, cur, h1, hB, hgb, hcn, hcap, hsz, htk⟩
  · cases h1
  · injection h1 with h1 h2 h3
    injection h1 with h1
    injection h1 with h1
    subst h1 h3
    rw [List.length_set]
    refine ⟨by rw [List.length_map, List.length_set]; have := h.1; rw [List.length_map] at this; exact this, Or.inr ⟨g, cap, cur.setIfInBounds i (.int .i64 x), by rw [h2], hB, Joins.block_setCell hgb _, hcn, hcap, by rw [Array.size_setIfInBounds]; exact hsz, ?_⟩⟩
    rw [Array.toList_setIfInBounds, List.take_set, htk, List.map_set]

theorem own_cell {w : World} {B g n cap i : Nat} {L : List Int} (h : Own w B (.slice (some ⟨g, 0, none⟩) n cap) L) (hL : L.length ≤ 2000000) (hi : i < L.length) : w.cell? ⟨g, i, none⟩ = some (.int .i64 (L.getD i 0)) ∧ w.frozen? ⟨g, i, none⟩ = false := by
  obtain ⟨a, c, e, hr⟩ := own_rd h hL
  injection e with e _ _
  subst e
  obtain ⟨k, ea, _, _, hc⟩ := hr.2.resolve_left (fun e0 => by rw [e0] at hi; simp at hi)
  injection ea with ea
  injection ea with ea
  subst ea
  exact hc i hi

theorem own_blk9 {w : World} {B : Nat} {v : Value} {L : List Int} (h : Own w B v L) (hL : L ≠ []) : ∃ g cap, v = .slice (some ⟨g, 0, none⟩) L.length cap ∧ B ≤ g ∧ g < w.heap.size := by
  rcases own_shape h with ⟨_, h0⟩ | h1
  · exact absurd h0 hL
  · exact h1

set_option maxRecDepth 100000 in
set_option maxHeartbeats 8000000 in
theorem sCyt_any (p : Int) (t : Nat → Int) (w : World) :
    Calls Try.prog 6 #[mv p t] w (RetRow w.heap.size (cytR p t) (ipC p t) w) := by
  have HL := fun w => lis_any p t w
  cases hv : isB p t
  · have e1 : cytR p t = [] := by unfold cytR; rw [if_neg (by rw [hv]; exact Bool.false_ne_true)]
    rw [e1, (bsR_no hv).2]
    rw [hv] at HL
    have HL := Lib.hid HL
    clear hv e1
    simp only [mv, mcells] at *
    go_enter Try.func6, Try.ntmps6
    go_wp2_with fail
    (refine (HL.out _).mono ?_; rintro e w1 ⟨rfl, hb⟩; obtain ⟨hc, hf⟩ := bcell hb; have hz := hb.size; have Hb := Lib.hid hb; (try simp at hz hc hf); (try (have hy := Nat.lt_of_succ_le hz)); have hz0 : w.heap.size < w1.heap.size := (by omega); clear hb)
    go_wp2_with fail
    go_ret2
    refine ⟨none, 0, rfl, ⟨by simp, Or.inl rfl⟩, ?_⟩
    (repeat' (first | (with_reducible exact Below.refl _ _) | (with_reducible refine Below.alloc ?_ ?_ _) | (with_reducible refine Below.setCell ?_ ?_ _) | (with_reducible refine Below.drew ?_) | (with_reducible refine below_drewN ?_ _) | (with_reducible refine Below.trans ?_ (Below.mono (Hid.out (by assumption)) ?_)) | omega | (simp; done) | (simp; omega)))
  obtain ⟨h1, h5⟩ := isB_pts hv
  obtain ⟨n, rfl⟩ := Int.eq_ofNat_of_zero_le (show 0 ≤ p by omega)
  have e1 : cytR (n : Int) t = cyL t n := by unfold cytR; rw [if_pos hv, Int.toNat_natCast]
  rw [e1, (bsR_yes hv).2]
  rw [hv] at HL
  have HL := Lib.hid HL
  obtain ⟨i0, hi, hz0, hz1, hz2⟩ := info_parts info_int
  have HV := Lib.hid hv
  have HQ := Lib.hid fun w => sbas_any n t hv w
  have HLen := Lib.hid (bsL_len t n)
  obtain ⟨wz, hwz⟩ : ∃ wz, wz = w.alloc (.cells (mcells (n : Int) t) 28) := ⟨_, rfl⟩
  have HBX : Hid (wz.heap[w.heap.size]? = some (.cells (mcells (n : Int) t) 28 (0, 0))) := Lib.hid (by rw [hwz]; exact halloc_at _ _ _ rfl)
  have HBZ : Hid (Below w.heap.size w wz) := Lib.hid (by rw [hwz]; exact (Below.refl _ _).alloc (Nat.le_refl _) _)
  have hzz : wz.heap.size = w.heap.size + 1 := by rw [hwz]; simp
  have HWZ := Lib.hid hwz
  obtain ⟨x0, x1, x2, x3, x4, x5⟩ := blk6 HBX.out
  rw [hwz] at x0 x1 x2 x3 x4 x5
  clear hv e1 hwz
  simp only [mv, mcells] at *
  go_enter Try.func6, Try.ntmps6
  go_wp2_with fail
  rw [← HWZ.out]
  refine (HL.out _).mono ?_
  rintro e w1 ⟨rfl, hb⟩
  have HB1 := Lib.hid hb
  have hz1' := hb.size
  obtain ⟨y0, y1, y2, y3, y4, y5⟩ := blk6 ((hb.block w.heap.size (by omega)).trans HBX.out)
  have hlw1 : w.heap.size < w1.heap.size := by omega
  clear hb x0 x1 x2 x3 x4 x5
  go_wp2_with fail
  refine (HQ.out _).mono ?_
  rintro e w2 ⟨v2, rfl, hown, hb⟩
  obtain ⟨a2, c2, rfl, hrd⟩ := own_rd hown (by rw [HLen.out]; omega)
  have HRD := Lib.hid hrd.inRow
  have HB2 : Hid (Below wz.heap.size wz w2) := Lib.hid (HB1.out.trans (hb.mono hz1'))
  have hz2' := HB2.out.size
  clear hown hrd hb y0 y1 y2 y3 y4 y5
  go_wp2_with fail
  go_loopw [5, 6, 7, 8, 9] (fun v i _ _ _ wr => ∃ (k : Nat) (S : List Int), k ≤ n ∧ i = .int .i64 (k : Int) ∧ S.Perm (lnL t k) ∧ dsc S ∧ Own wr w2.heap.size v S ∧ Below w2.heap.size w2 wr) (fun _ i _ _ _ _ => n - (intOf i).toNat)
  case atStart => exact ⟨0, [], by omega, rfl, List.Perm.refl _, List.Pairwise.nil, own_empty _ _ (Nat.le_refl _), (Below.refl _ _).alloc (Nat.le_refl _) _⟩
  case round =>
    obtain ⟨k, S, hk, rfl, hperm, hdsc, hown, hb⟩ := hrel
    have HPE := Lib.hid hperm
    have HDS := Lib.hid hdsc
    have HO := Lib.hid hown
    have HB := Lib.hid hb
    have hsr := hb.size
    have HSL : Hid (S.length ≤ k) := Lib.hid (by rw [hperm.length_eq]; exact lnL_len t k)
    have HBX2 : Hid (wr.heap[w.heap.size]? = some (.cells (mcells (n : Int) t) 28 (0, 0))) := Lib.hid ((hb.block _ (by omega)).trans ((HB2.out.block _ (by omega)).trans HBX.out))
    have e0 := (blk6 HBX2.out).1
    have hlr : w.heap.size < wr.heap.size := by omega
    clear hperm hdsc hown hb
    obtain ⟨wo, hwo⟩ : ∃ wo, wo = wr := ⟨_, rfl⟩
    subst hwo
    by_cases hkn : k < n
    · have hkn' : (k : Int) < (n : Int) := by omega
      obtain ⟨bb, ob, rfl, hbb, hcb⟩ := (HRD.out.below HB.out).resolve_left (fun e => by have := HLen.out; rw [e] at this; simp at this; omega)
      have hx := hcb k (by rw [HLen.out]; exact hkn)
      rw [bsL_at t n k hkn] at hx
      have HLY := Lib.hid fun h => lnL_yes (t := t) (k := k) h
      have HLN := Lib.hid fun h => lnL_no (t := t) (k := k) h
      have HBC := Lib.hid fun h => bs_cyc HV.out hkn h
      rw [HLen.out]
      clear hcb
      generalize bsF t (orb t 60 k) = M at *
      by_cases hM : M = (k : Int)
      · have HLY2 := Lib.hid (HLY.out hM)
        have hcy := HBC.out hM
        obtain ⟨c1, c2', c3⟩ := cyN_back HV.out hkn hcy
        have HC2 := Lib.hid c2'
        have HC3 := Lib.hid c3
        have hc5 := cyN_le t k
        subst hM
        clear HLY HLN HBC hcy c2' c3
        generalize cyN t k = LN at *
        have hf0 := blk_at HBX2.out k (by omega)
        have hk5 : (k : Int) < 5 := by omega
        have hst := (stp_ok HV.out hkn).2
        have hone : orb t 1 k = stp t k := rfl
        rw [← hst, ← hone] at hf0
        clear hst hone
        go_wp2_with fail
        go_loopw [7, 8] (fun l q wx => ∃ i : Nat, 1 ≤ i ∧ i ≤ LN ∧ l = .int .i64 (i : Int) ∧ q = .int .i64 (orb t i k : Int) ∧ wx = wo) (fun l _ _ => LN - (intOf l).toNat)
        case atStart => exact ⟨1, by omega, c1, rfl, rfl, rfl⟩
        case round =>
          clear hf0
          obtain ⟨i, hi1, hiL, rfl, rfl, hwx⟩ := hrel
          rw [hwx]
          clear hwx
          by_cases hiN : i < LN
          · have hne := HC3.out i hi1 hiN
            have hxlt := orb_lt HV.out i k (by omega)
            have hne' : ((orb t i k : Int) != (k : Int)) = true := by simp; omega
            have hd : decide ((orb t i k : Int) = (k : Int)) = false := by simp; omega
            have hfx := blk_at HBX2.out (orb t i k) (by omega)
            have hst := (stp_ok HV.out (show orb t i k < n by omega)).2
            have hone : orb t (i + 1) k = stp t (orb t i k) := rfl
            rw [← hst, ← hone] at hfx
            have hx5 : (orb t i k : Int) < 5 := by omega
            clear hst hone hne
            generalize hQ : orb t (i + 1) k = Q at *
            have HQQ := Lib.hid hQ
            clear hQ
            generalize orb t i k = X at *
            go_wp2_with fail
            go_roundw
            case rel => exact ⟨i + 1, by omega, by omega, by go_num, by rw [HQQ.out], by trivial⟩
            case measure => simp [intOf]; omega
          · obtain rfl : i = LN := by omega
            rw [HC2.out]
            have hne' : ((k : Int) != (k : Int)) = false := by simp
            obtain ⟨m, hm⟩ : ∃ m, m = S.length := ⟨_, rfl⟩
            have HM := Lib.hid hm
            have hm5 : m ≤ 5 := by have := HSL.out; omega
            obtain ⟨av, cv, rfl⟩ : ∃ av cv, u5 = .slice av m cv := by
              rcases own_shape HO.out with ⟨e, e2⟩ | ⟨g, cap, e, _⟩
              · exact ⟨none, 0, by rw [e, hm, e2]; rfl⟩
              · exact ⟨_, cap, by rw [e, hm]⟩
            clear hm
            have HIL : Hid ((S ++ [(i : Int)]).length = m + 1) := Lib.hid (by rw [List.length_append, ← HM.out]; rfl)
            go_wp2_with (at_builtin; refine wpList_append_own_at _ rfl _ _ 25 rfl w2.heap.size 2 i0 (.int .i64 0) 1 8 Try.underlying25 hi hz0 hz1 hz2 rfl (by decide) _ S.length (S.map (Value.int .i64)) rfl (World.ownsRow.alloc HO.out _) ⟨wo.heap.size, 0, none⟩ 1 1 [.int .i64 (i : Int)] rfl rfl (cell_one_new _ _ _) (by intro u hu; simp at hu; subst hu; rfl) (by rw [← HM.out]; unfold maxLen; omega) (by rw [← HM.out]; omega) (by simp; omega) ?_; intro v6 w6 ho6 hg6 _ _; have HO6 : Hid (Own w6 w2.heap.size v6 (S ++ [(i : Int)])) := Lib.hid (by unfold Own; simpa using ho6); obtain ⟨gu, cu, hv6, hgu1, hgu2⟩ := own_blk9 HO6.out (by simp); rw [HIL.out] at hv6; subst hv6; have HB6 : Hid (Below w2.heap.size w2 w6) := Lib.hid ((HB.out.alloc (by omega) _).grown hg6 (by simp; omega) (fun r e => (HO.out.lt r e).1)); have hs6 := HB6.out.size; clear ho6 hg6)
            have hmS : S.length = m := HM.out.symm
            have HMS := Lib.hid hmS
            clear hmS
            go_loopw [9] (fun q wx => ∃ (j : Nat) (y : Int), j ≤ m ∧ q = .int .i64 (j : Int) ∧ Own wx w2.heap.size (.slice (some ⟨gu, 0, none⟩) (m + 1) cu) (insT S (i : Int) j y) ∧ (∀ a, j ≤ a → a < m → S.getD a 0 < (i : Int)) ∧ Below w2.heap.size w2 wx ∧ gu < wx.heap.size) (fun q _ => (intOf q).toNat)
            case atStart => exact ⟨m, (i : Int), by omega, rfl, by rw [← HMS.out, insT_end, HMS.out]; exact HO6.out, fun a h1 h2 => by omega, HB6.out, hgu2⟩
            case round =>
              obtain ⟨j, y, hj, rfl, hoj, hsm, hbj, hgj⟩ := hrel
              have HOJ := Lib.hid hoj
              have HSM := Lib.hid hsm
              have HBJ := Lib.hid hbj
              have hms := HMS.out
              have hms5 : S.length ≤ 5 := by omega
              have HM5 := Lib.hid hms
              clear hoj hsm hbj hms
              cases j with
              | zero =>
                have hz := HM5.out
                have hcx := own_cell HOJ.out (by rw [insT_len _ _ (by omega)]; omega) (i := 0) (by rw [insT_len _ _ (by omega)]; omega)
                have hput := HOJ.out.put (i := 0) (by rw [insT_len _ _ (by omega)]; omega) (i : Int)
                rw [insT_set _ _ _ (by omega)] at hput
                have HPUT := Lib.hid hput
                have HNP := Lib.hid (insT_perm (i : Int) (0) HPE.out)
                have HND := Lib.hid (insT_dsc (x := (i : Int)) (q := (0)) HDS.out (by omega) (Or.inl rfl) (fun a h1 h2 => HSM.out a h1 (by omega)))
                have hc1 := hcx.1
                have hc2 := hcx.2
                clear hcx hput
                generalize (insT S (i : Int) (0) y).getD (0) 0 = OLD at *
                go_wp2_with fail
                go_roundw
                case rel => exact ⟨k + 1, _, by omega, by go_num, by rw [HLY2.out]; exact HNP.out, HND.out, HPUT.out, HBJ.out.setCell hgu1 _⟩
                case measure => simp [intOf]; omega
              | succ q =>
                have hz := HM5.out
                have e1 := own_cell HOJ.out (by rw [insT_len _ _ (by omega)]; omega) (i := q) (by rw [insT_len _ _ (by omega)]; omega)
                rw [insT_at _ _ (by omega) (by omega)] at e1
                have hcq := e1.1
                clear e1
                have hqm : (q : Int) < ((m + 1 : Nat) : Int) := by omega
                have hqm1 : (q : Int) + 1 < ((m + 1 : Nat) : Int) := by omega
                have hq0 : (q : Int) + 1 > 0 := by omega
                by_cases hlt : S.getD q 0 < (i : Int)
                · have hcx := own_cell HOJ.out (by rw [insT_len _ _ (by omega)]; omega) (i := q + 1) (by rw [insT_len _ _ (by omega)]; omega)
                  have hput := HOJ.out.put (i := q + 1) (by rw [insT_len _ _ (by omega)]; omega) (S.getD q 0)
                  rw [insT_set _ _ _ (by omega), insT_down _ (by omega)] at hput
                  have HPUT := Lib.hid hput
                  have HSM2 : Hid (∀ a, q ≤ a → a < m → S.getD a 0 < (i : Int)) := Lib.hid fun a h1 h2 => by
                    by_cases e : a = q
                    · rw [e]; exact hlt
                    · exact HSM.out a (by omega) h2
                  have hc1 := hcx.1
                  have hc2 := hcx.2
                  clear hcx hput hz
                  generalize (insT S (i : Int) (q + 1) y).getD (q + 1) 0 = OLD at *
                  generalize hZ : S.getD q 0 = Z at *
                  clear hZ
                  go_wp2_with fail
                  go_roundw
                  case rel => exact ⟨q, Z, by omega, by go_num, HPUT.out, HSM2.out, HBJ.out.setCell hgu1 _, by simpa using hgj⟩
                  case measure => simp [intOf]
                · have HNL := Lib.hid (show (i : Int) ≤ S.getD q 0 by omega)
                  have hcx := own_cell HOJ.out (by rw [insT_len _ _ (by omega)]; omega) (i := q + 1) (by rw [insT_len _ _ (by omega)]; omega)
                  have hput := HOJ.out.put (i := q + 1) (by rw [insT_len _ _ (by omega)]; omega) (i : Int)
                  rw [insT_set _ _ _ (by omega)] at hput
                  have HPUT := Lib.hid hput
                  have HNP := Lib.hid (insT_perm (i : Int) (q + 1) HPE.out)
                  have HND := Lib.hid (insT_dsc (x := (i : Int)) (q := (q + 1)) HDS.out (by omega) (Or.inr HNL.out) (fun a h1 h2 => HSM.out a h1 (by omega)))
                  have hc1 := hcx.1
                  have hc2 := hcx.2
                  clear hcx hput
                  generalize (insT S (i : Int) (q + 1) y).getD (q + 1) 0 = OLD at *
                  go_wp2_with fail
                  go_roundw
                  case rel => exact ⟨k + 1, _, by omega, by go_num, by rw [HLY2.out]; exact HNP.out, HND.out, HPUT.out, HBJ.out.setCell hgu1 _⟩
                  case measure => simp [intOf]; omega
      · have HLN2 := Lib.hid (HLN.out hM)
        have hne : (M != (k : Int)) = true := by simpa using hM
        clear hM HLY HLN HBC
        go_wp2_with fail
        go_roundw
        case rel => exact ⟨k + 1, S, by omega, by go_num, by rw [HLN2.out]; exact HPE.out, HDS.out, HO.out, HB.out⟩
        case measure => simp [intOf]; omega
    · obtain rfl : k = n := by omega
      have hkn' : ¬ ((k : Int) < (k : Int)) := by omega
      have HSE := Lib.hid (cyL_one HPE.out HDS.out)
      obtain ⟨a4, c4, rfl, hrd⟩ := own_rd HO.out (by have := HSL.out; omega)
      have HR4 := Lib.hid hrd
      clear hrd
      go_wp2_with fail
      go_ret2
      rw [← HSE.out]
      exact ⟨a4, c4, rfl, HR4.out.mono (by omega), HBZ.out.trans ((HB2.out.trans (HB.out.mono hz2')).mono (by omega))⟩

end Go.Proofs.Ytpphihjbgikjkaa
