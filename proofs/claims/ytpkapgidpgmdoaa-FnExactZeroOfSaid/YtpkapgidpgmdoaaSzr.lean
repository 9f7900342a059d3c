/- The contracts of spec.SizesByRank and impl.SizesByRank. -/
import Derived.Test.YtpkapgidpgmdoaaSels
import Derived.Test.YtpkapgidpgmdoaaImage
import Derived.Test.YtpkapgidpgmdoaaSl
namespace Go.Proofs.Ytpkapgidpgmdoaa
open Go.RowKit Go.Maps

theorem ascK_stop (b : Nat → Bool) (m : Nat) (h : ∀ j, m ≤ j → b j = false) : ∀ k, (ascK b k).length ≤ m := by
  intro k
  induction k with
  | zero => simp [ascK]
  | succ k ih =>
    by_cases hk : k < m
    · exact Nat.le_trans (ascK_len b (k + 1)) hk
    · rw [ascK_succ, h k (by omega)]
      simpa using ih

theorem ascK_pos (b : Nat → Bool) (j k : Nat) (hj : j < k) (hb : b j = true) : 1 ≤ (ascK b k).length := by
  unfold ascK
  exact List.length_pos_of_mem (List.mem_map.2 ⟨j, List.mem_filter.2 ⟨List.mem_range.2 hj, hb⟩, rfl⟩)

/-- The rank of a map. -/
def rkM (x : MapN) : Nat := (asc (imgB x.1 x.2)).length

theorem rkM_bd {p : Int} {t : Nat → Int} (h : isB p t = true) : 1 ≤ rkM (p, t) ∧ (rkM (p, t) : Int) ≤ p := by
  obtain ⟨h1, h5⟩ := isB_pts h
  have h0 := ok_at h 0 (by omega)
  refine ⟨ascK_pos _ (t 0).toNat 5 (by omega) ?_, ?_⟩
  · unfold imgB imgK
    rw [List.any_eq_true]
    exact ⟨0, List.mem_range.2 (by omega), by simp; omega⟩
  · have := ascK_stop (imgB p t) p.toNat (fun j hj => by
      unfold imgB imgK
      rw [List.any_eq_false]
      intro i hi
      have := ok_at h i (by have := List.mem_range.1 hi; omega)
      simp; omega) 5
    unfold rkM asc
    simp only []
    omega

def addR (S : List Int) (x : MapN) : List Int := S.set (rkM x - 1) (S.getD (rkM x - 1) 0 + 1)
/-- The numbers of maps by their ranks. -/
def cntR (p : Nat) (M : List MapN) : List Int := M.foldl addR (List.replicate p 0)

theorem addR_len (S : List Int) (x : MapN) : (addR S x).length = S.length := by simp [addR]
theorem cntR_len (p : Nat) (M : List MapN) : (cntR p M).length = p := by
  unfold cntR
  have : ∀ (M : List MapN) (S : List Int), (M.foldl addR S).length = S.length := fun M => by
    induction M with
    | nil => intro S; rfl
    | cons x M ih => intro S; rw [List.foldl_cons, ih, addR_len]
  rw [this]; simp

theorem cntR_succ (p : Nat) (M : List MapN) (k : Nat) (hk : k < M.length) : cntR p (M.take (k + 1)) = addR (cntR p (M.take k)) (M.getD k z0) := by
  unfold cntR
  rw [List.take_add_one, List.getElem?_eq_getElem hk, List.foldl_append]
  simp [hk]

theorem cntR_bd (p : Nat) (M : List MapN) : ∀ k, k ≤ M.length → ∀ i, 0 ≤ (cntR p (M.take k)).getD i 0 ∧ (cntR p (M.take k)).getD i 0 ≤ k := by
  intro k
  induction k with
  | zero =>
    intro _ i
    simp only [List.take_zero, cntR, List.foldl_nil]
    by_cases h : i < p
    · simp [h]
    · simp [List.getElem?_eq_none (show (List.replicate p (0 : Int)).length ≤ i by simp; omega)]
  | succ k ih =>
    intro hk i
    rw [cntR_succ p M k (by omega)]
    unfold addR
    have h1 := ih (by omega)
    by_cases h : rkM (M.getD k z0) - 1 < (cntR p (M.take k)).length
    · rw [set_getD _ _ _ _ h]
      by_cases hi : i = rkM (M.getD k z0) - 1
      · rw [if_pos hi]; have := h1 (rkM (M.getD k z0) - 1); omega
      · rw [if_neg hi]; have := h1 i; omega
    · rw [List.set_eq_of_length_le (by omega)]
      have := h1 i; omega

noncomputable def szrL (L : List MapN) : List Int := if elsC L [] = 0 then cntR (fst0 L).toNat (mE (fst0 L) (elsK L)) else []

theorem szrL_bad {L : List MapN} (h : elsC L [] ≠ 0) : szrL L = [] := by unfold szrL; rw [if_neg h]
theorem szrL_good {L : List MapN} (h : elsC L [] = 0) : szrL L = cntR (fst0 L).toNat (mE (fst0 L) (elsK L)) := by unfold szrL; rw [if_pos h]

theorem elsC_good {L O : List MapN} (h : elsC L O = 0) : chkC L O = 0 := by
  unfold elsC at h
  by_cases hc : chkC L O = 0
  · exact hc
  · rw [if_neg hc] at h; exact absurd h hc

theorem els_inv {L : List MapN} (hg : GoodL L) : Cinv (fst0 L) (codes L) (cfin (fst0 L) (codes L)) := by
  unfold cfin
  split
  · exact rch_inv hg.p1 hg.p5 hg.vl _
  · exact rch_inv hg.p1 hg.p5 hg.vl 0

theorem elsK_300 {L O : List MapN} (h : elsC L O = 0) (hg : GoodL L) : (elsK L).length ≤ 300 := by
  have e : (elsK L).length = (cfin (fst0 L) (codes L)).E.length := srtE_len _ (els_inv hg).nd
  unfold elsC at h
  rw [if_pos (elsC_good h)] at h
  by_cases h3 : 300 < (cfin (fst0 L) (codes L)).E.length
  · rw [if_pos h3] at h; simp at h
  · omega

theorem elsL_0 {L O : List MapN} (h : elsC L O = 0) : elsL L O = mE (fst0 L) (elsK L) := by unfold elsL; rw [if_pos h]
theorem elsL_1 {L O : List MapN} (h : elsC L O ≠ 0) : elsL L O = [] := by unfold elsL; rw [if_neg h]

theorem elsK_vld {L : List MapN} (hg : GoodL L) : ∀ c ∈ elsK L, vld (fst0 L) c := fun c hc => (els_inv hg).vl c ((srtE_mem _ _).1 hc)

theorem own_zeros {w : World} {B m : Nat} {v : Value} (h : w.ownsRow B 2 1 v m (madeCells #[.int .i64 0] m).toList) : Own w B v (List.replicate m 0) := by
  have e : (madeCells #[.int .i64 0] m).toList = (List.replicate m (0 : Int)).map (Value.int .i64) := by
    rw [toList_madeCells_one, List.map_replicate]
  unfold Own
  rw [List.length_replicate, ← e]
  exact h

theorem rd_set {w : World} {B g : Nat} {S : List Int} (h : Rd w B (some ⟨g, 0, none⟩) S) (k : Nat) (hk : k < S.length) (x : Int) : Rd (w.setCell ⟨g, k, none⟩ (.int .i64 x)) B (some ⟨g, 0, none⟩) (S.set k x) := by
  refine ⟨by rw [List.length_set]; exact h.1, ?_⟩
  rcases h.2 with h0 | ⟨k', ha, hB, hg, hc⟩
  · rw [h0] at hk; simp at hk
  · injection ha with ha
    injection ha with ha
    subst ha
    refine Or.inr ⟨g, rfl, hB, by simpa [World.setCell] using hg, fun i hi => ?_⟩
    rw [List.length_set] at hi
    have h1 := hc i hi
    rw [set_getD _ _ _ _ hk, World.frozen?_setCell]
    by_cases e : i = k
    · subst e
      rw [if_pos rfl]
      exact ⟨World.cell?_setCell_same _ _ _ h1.1, h1.2⟩
    · rw [if_neg e, World.cell?_setCell_other _ _ _ _ (by intro e'; injection e' with _ e'; exact e e'.symm)]
      exact h1

set_option maxRecDepth 100000 in
set_option maxHeartbeats 1000000 in
theorem sszr_any (a : Option Addr) (c : Nat) (L : List MapN) (hl : L.length ≤ 1048576) (w : World) (hr : InRowM w a L) :
    Calls Try.prog 52 #[.slice a L.length c] w (RetRow w.heap.size (szrL L) (elsC L []) w) := by
  have HS := Lib.hid (sels_any a none c 0 L [] hl (by simp) w hr (Or.inl rfl))
  have HR := Lib.hid hr
  clear hr
  by_cases hc : elsC L [] = 0
  · have hg := (chk_good (elsC_good hc)).1
    have hle := elsK_300 hc hg
    have hvl := elsK_vld hg
    have hz := szrL_good hc
    have hk := elsL_0 hc (O := [])
    have h1 := hg.p1
    have h5 := hg.p5
    have hn1 := hg.n1
    obtain ⟨b0, o0, rfl, hb0, hat0⟩ := HR.out.at0 (by omega)
    obtain ⟨x0, _, _, _, _, _⟩ := hat0
    have hl0 : (L.getD 0 z0).1 = fst0 L := rfl
    rw [hl0] at x0
    rw [hz]
    have hHS := HS.out
    rw [hc, hk] at hHS
    rw [hc]
    have HS := Lib.hid hHS
    have HVL := Lib.hid hvl
    clear hHS hz hk hg hc hl0 hvl
    generalize elsK L = K at *
    generalize fst0 L = p at *
    obtain ⟨m, rfl⟩ := Int.eq_ofNat_of_zero_le (show 0 ≤ p by omega)
    simp only [Int.toNat_natCast]
    simp only [List.length_nil] at HS
    have hm : Hid ((mE (m : Int) K).length = K.length) := Lib.hid (mE_len _ _)
    obtain ⟨i0, hi, hz0, hz1, hz2⟩ := info_parts info_int
    go_enter Try.func52, Try.ntmps52
    go_wp2_with fail
    refine HS.out.mono ?_
    rintro e w1 ⟨aK, cK, rfl, hrd, hb⟩
    rw [mE_len]
    have hx1 := (hb.cell (p := ⟨b0, o0, none⟩) hb0).trans x0
    have HB1 := Lib.hid hb
    have HRD := Lib.hid hrd
    have hs1 := hb.size
    have hn1' : (0 : Int) < (L.length : Int) := by omega
    clear hb hrd x0
    go_wp2_with (at_make; refine wpList_make_full _ rfl _ _ 36 rfl w1.heap.size 2 i0 (.int .i64 0) 1 Try.underlying36 hi hz0 hz1 .i64 .i64 (m : Int) (m : Int) m rfl rfl rfl rfl ?c1 ?c2 ?c3 ?_)
    case c1 => rw [hz2]; omega
    case c2 => unfold maxLen; omega
    case c3 => exact Nat.le_refl _
    intro w2 hown hgrow
    have hro := own_rd (own_zeros hown) (by simp; omega)
    have hRo : Rd w2 w1.heap.size (some ⟨w1.heap.size, 0, none⟩) (cntR m ((mE (m : Int) K).take 0)) := by
      obtain ⟨a, cap, e, hr⟩ := hro
      injection e with e _ _
      rw [e]
      exact hr
    have hb12 : Below w1.heap.size w1 w2 := (Below.refl _ _).grown hgrow (Nat.le_refl _) (fun k hk => by cases hk)
    have HRO := Lib.hid hRo
    have HB12 := Lib.hid hb12
    clear hown hgrow hro hRo hb12 hi hz0 hz1 hz2
    go_wp2_with fail
    go_loopw [7] (fun i wr => ∃ k : Nat, k ≤ K.length ∧ i = .int .i64 k ∧ Below w1.heap.size w1 wr ∧ Rd wr w1.heap.size (some ⟨w1.heap.size, 0, none⟩) (cntR m ((mE (m : Int) K).take k))) (fun i _ => K.length - (intOf i).toNat)
    case atStart => exact ⟨0, by omega, rfl, HB12.out, HRO.out⟩
    case round =>
      obtain ⟨k, hk, rfl, hb, hrow⟩ := hrel
      have HBR := Lib.hid hb
      have HROW := Lib.hid hrow
      have hsr := hb.size
      clear hb hrow HRO HB12
      by_cases hkl : k < K.length
      · have hkl' : (k : Int) < (K.length : Int) := by omega
        obtain ⟨b1, o1, rfl, hl1, hat1⟩ := (HRD.out.below HBR.out).inRow.at6 k (by rw [mE_len]; exact hkl)
        have hsc := Lib.hid (cntR_succ m (mE (m : Int) K) k (by rw [mE_len]; exact hkl))
        have hbd := Lib.hid (cntR_bd m (mE (m : Int) K) k (by rw [mE_len]; omega))
        rw [mE_at _ _ _ hkl] at hat1
        have hsc' := hsc.out
        rw [mE_at _ _ _ hkl] at hsc'
        have HSC := Lib.hid hsc'
        have hv := HVL.out (K.getD k 0) (by rw [List.getD_eq_getElem?_getD, List.getElem?_eq_getElem hkl]; exact List.getElem_mem hkl)
        have hrk := rkM_bd hv.2
        have hq := fun w => srank_any (m : Int) (dcd (K.getD k 0)) hv.2 w
        have HLEN := Lib.hid (cntR_len m ((mE (m : Int) K).take k))
        clear hsc hsc' hv
        obtain ⟨r, hr⟩ : ∃ r, rkM ((m : Int), dcd (K.getD k 0)) = r + 1 := ⟨rkM ((m : Int), dcd (K.getD k 0)) - 1, by omega⟩
        have hrm : (r : Int) < (m : Int) := by omega
        have hr' : ((asc (imgB (m : Int) (dcd (K.getD k 0)))).length : Int) = (r : Int) + 1 := by have : rkM ((m : Int), dcd (K.getD k 0)) = (asc (imgB (m : Int) (dcd (K.getD k 0)))).length := rfl; omega
        simp only [hr'] at hq
        have HSC' : Hid (cntR m ((mE (m : Int) K).take (k + 1)) = (cntR m ((mE (m : Int) K).take k)).set r ((cntR m ((mE (m : Int) K).take k)).getD r 0 + 1)) := Lib.hid (by rw [HSC.out]; unfold addR; rw [hr, Nat.add_sub_cancel])
        clear HSC hr hr' hrk
        obtain ⟨x0, x1, x2, x3, x4, x5⟩ := hat1
        simp only [] at x0 x1 x2 x3 x4 x5
        generalize dcd (K.getD k 0) = t at *
        simp only [mv, mcells] at hq
        have HQ := Lib.hid hq
        clear hq
        go_wp2_with fail
        refine (HQ.out _).mono ?_
        rintro e w3 ⟨rfl, hb3⟩
        have HB3 := Lib.hid hb3
        have hs3 := hb3.size
        have HR3 := Lib.hid (HROW.out.below hb3)
        have HBD := Lib.hid (hbd.out r)
        generalize cntR m ((mE (m : Int) K).take k) = S at *
        have hcell := ((HR3.out.2.resolve_left (fun e => by have := HLEN.out; rw [e] at this; simp at this; omega)))
        obtain ⟨g', eg, _, _, hcs⟩ := hcell
        injection eg with eg
        injection eg with eg
        subst eg
        obtain ⟨e1, e2⟩ := hcs r (by rw [HLEN.out]; omega)
        have hX := HBD.out
        obtain ⟨X, hXe⟩ : ∃ X, X = S.getD r 0 := ⟨_, rfl⟩
        have HXE := Lib.hid hXe
        rw [← hXe] at e1 hX
        clear hXe hcs hb3 hbd
        go_wp2_with fail
        go_roundw
        case rel =>
          refine ⟨k + 1, by omega, by go_num, (HBR.out.trans (HB3.out.mono hsr)).setCell (Nat.le_refl _) _, ?_⟩
          rw [HSC'.out, ← HXE.out]
          exact rd_set HR3.out r (by rw [HLEN.out]; omega) _
        case measure => simp [intOf]; omega
      · obtain rfl : k = K.length := by omega
        have e : (mE (m : Int) K).take K.length = mE (m : Int) K := List.take_of_length_le (by rw [mE_len]; exact Nat.le_refl _)
        rw [e] at HROW
        have HLEN := Lib.hid (cntR_len m (mE (m : Int) K))
        generalize cntR m (mE (m : Int) K) = S at *
        go_wp2_with fail
        go_ret2
        exact ⟨some ⟨w1.heap.size, 0, none⟩, m, by rw [HLEN.out]; rfl, HROW.out.mono hs1, HB1.out.trans (HBR.out.mono hs1)⟩
  · have hz := szrL_bad hc
    have hk := elsL_1 hc (O := [])
    rw [hz]
    have hHS := HS.out
    rw [hk] at hHS
    have HS := Lib.hid hHS
    clear hHS hz hk
    generalize elsC L [] = C at *
    have hcb : (C != 0) = true := by simpa using hc
    simp only [List.length_nil] at HS
    go_enter Try.func52, Try.ntmps52
    go_wp2_with fail
    refine HS.out.mono ?_
    rintro e w1 ⟨aK, cK, rfl, _, hb⟩
    have HB := Lib.hid hb
    clear hb
    go_wp2_with fail
    go_ret2
    exact ⟨none, 0, rfl, ⟨by simp, Or.inl rfl⟩, HB.out⟩

end Go.Proofs.Ytpkapgidpgmdoaa
