/- The contract of impl.SizesByRank. -/
import Derived.Test.YtpkapgidpgmdoaaSize
import Derived.Test.YtpkapgidpgmdoaaSzr
import Derived.Test.YtpkapgidpgmdoaaRank
namespace Go.Proofs.Ytpkapgidpgmdoaa
open Go.RowKit Go.Maps

set_option maxRecDepth 100000 in
set_option maxHeartbeats 1000000 in
theorem iszr_any (a : Option Addr) (c : Nat) (L : List MapN) (h1 : a = none → c = 0) (hl : L.length ≤ 1048576) (w : World) (hr : InRowM w a L) :
    Calls Try.prog 53 #[.slice a L.length c] w (RetRow w.heap.size (szrL L) (elsC L []) w) := by
  have HS := Lib.hid (mono_any a none c 0 L [] h1 (fun _ => rfl) hl (by simp) w hr (Or.inl rfl))
  simp only [List.length_nil] at HS
  have HR := Lib.hid hr
  clear hr
  obtain ⟨i0, hi, hz0, hz1, hz2⟩ := info_parts info_int
  by_cases hc : elsC L [] = 0
  · have hg := (chk_good (elsC_good hc)).1
    have hle := elsK_300 hc hg
    have hvl := elsK_vld hg
    have hz := szrL_good hc
    have h1 := hg.p1
    have h5 := hg.p5
    have hn1 := hg.n1
    obtain ⟨b0, o0, rfl, hb0, hat0⟩ := HR.out.at0 (by omega)
    obtain ⟨x0, _, _, _, _, _⟩ := hat0
    have hl0 : (L.getD 0 z0).1 = fst0 L := rfl
    rw [hl0] at x0
    rw [hz, hc]
    have HVL := Lib.hid hvl
    have HC := Lib.hid hc
    clear hz hg hc hl0 hvl
    go_enter Try.func53, Try.ntmps53
    go_wp2_with fail
    refine HS.out.mono ?_
    rintro e w1 ⟨hb, ⟨hc, rfl⟩ | ⟨_, _, gE, cE, b, l, rfl, hput, _, _, _⟩⟩
    · exact absurd HC.out hc
    have hx1 := (hb.cell (p := ⟨b0, o0, none⟩) hb0).trans x0
    have hb1 : b0 < w1.heap.size := Nat.lt_of_lt_of_le hb0 hb.size
    have HB1 := Lib.hid hb
    have HPUT := Lib.hid hput
    have hgE := hput.hi
    have hs1 := hb.size
    have hn1' : (0 : Int) < (L.length : Int) := by omega
    clear hb hput x0 HS HR HC
    generalize elsK L = K at *
    generalize fst0 L = p at *
    obtain ⟨m, rfl⟩ := Int.eq_ofNat_of_zero_le (show 0 ≤ p by omega)
    have HBA : Hid (Below w1.heap.size w1 (w1.alloc (.cells #[.slice (some ⟨gE, 0, none⟩) K.length cE, .map (some b)] 71))) := Lib.hid ((Below.refl _ _).alloc (Nat.le_refl _) _)
    go_wp2_with (at_make; refine wpList_make_full _ rfl _ _ 36 rfl (w1.heap.size + 1) 2 i0 (.int .i64 0) 1 Try.underlying36 hi hz0 hz1 .i64 .i64 (m : Int) (m : Int) m rfl rfl rfl rfl ?c1 ?c2 ?c3 ?_)
    case c1 => rw [hz2]; omega
    case c2 => unfold maxLen; omega
    case c3 => simp
    intro w2 hown hgrow
    have hro := own_rd (own_zeros hown) (by simp; omega)
    have hRo : Rd w2 (w1.heap.size + 1) (some ⟨w1.heap.size + 1, 0, none⟩) (cntR m ((mE (m : Int) K).take 0)) := by
      obtain ⟨a, cap, e, hr⟩ := hro
      injection e with e _ _
      rw [e]
      exact hr
    have hmA := halloc_at w1 (.cells #[.slice (some ⟨gE, 0, none⟩) K.length cE, .map (some b)] 71) _ rfl
    have hsA : (w1.alloc (.cells #[.slice (some ⟨gE, 0, none⟩) K.length cE, .map (some b)] 71)).heap.size = w1.heap.size + 1 := by simp
    generalize w1.alloc (.cells #[.slice (some ⟨gE, 0, none⟩) K.length cE, .map (some b)] 71) = wA at *
    have hb12 : Below (w1.heap.size + 1) wA w2 := (Below.refl _ _).grown hgrow (by omega) (fun k hk => by cases hk)
    have hm2 := (hb12.block _ (by omega)).trans hmA
    have m0 := Joins.cell_of_block hm2 0
    simp only [List.getElem?_toArray, List.getElem?_cons_zero] at m0
    have HPA := Lib.hid (HPUT.out.below HBA.out)
    have HRO := Lib.hid hRo
    have HB12 := Lib.hid hb12
    clear hown hgrow hro hRo hb12 hi hz0 hz1 hz2 hmA hm2 HPUT
    go_wp2_with fail
    go_loopw [8, 25] (fun _ i wr => ∃ k : Nat, k ≤ K.length ∧ i = .int .i64 k ∧ Below (w1.heap.size + 1) wA wr ∧ Rd wr (w1.heap.size + 1) (some ⟨w1.heap.size + 1, 0, none⟩) (cntR m ((mE (m : Int) K).take k))) (fun _ i _ => K.length - (intOf i).toNat)
    case atStart => exact ⟨0, by omega, rfl, HB12.out, HRO.out⟩
    case round =>
      obtain ⟨k, hk, rfl, hb, hrow⟩ := hrel
      have HBR := Lib.hid hb
      have HROW := Lib.hid hrow
      have hsr := hb.size
      clear hb hrow HRO HB12
      by_cases hkl : k < K.length
      · have hkl' : (k : Int) < (K.length : Int) := by omega
        obtain ⟨b1, o1, eb, hl1, hat1⟩ := (HPA.out.below (HBR.out.mono (by omega))).inRow.at6 k (by rw [mE_len]; exact hkl)
        injection eb with eb
        injection eb with eb1 eb2 _
        subst eb1 eb2
        have hsc := Lib.hid (cntR_succ m (mE (m : Int) K) k (by rw [mE_len]; exact hkl))
        have hbd := Lib.hid (cntR_bd m (mE (m : Int) K) k (by rw [mE_len]; omega))
        rw [mE_at _ _ _ hkl] at hat1
        have hsc' := hsc.out
        rw [mE_at _ _ _ hkl] at hsc'
        have HSC := Lib.hid hsc'
        have hv := HVL.out (K.getD k 0) (by rw [List.getD_eq_getElem?_getD, List.getElem?_eq_getElem hkl]; exact List.getElem_mem hkl)
        have hrk := rkM_bd hv.2
        have hq := fun w => irank_any (m : Int) (dcd (K.getD k 0)) hv.2 w
        have HLEN := Lib.hid (cntR_len m ((mE (m : Int) K).take k))
        clear hsc hsc' hv
        obtain ⟨r, hr⟩ : ∃ r, rkM ((m : Int), dcd (K.getD k 0)) = r + 1 := ⟨rkM ((m : Int), dcd (K.getD k 0)) - 1, by omega⟩
        have hrm : (r : Int) < (m : Int) := by omega
        have hr' : ((asc (imgB (m : Int) (dcd (K.getD k 0)))).length : Int) = (r : Int) + 1 := by have : rkM ((m : Int), dcd (K.getD k 0)) = (asc (imgB (m : Int) (dcd (K.getD k 0)))).length := rfl; omega
        simp only [hr'] at hq
        have HSC' : Hid (cntR m ((mE (m : Int) K).take (k + 1)) = (cntR m ((mE (m : Int) K).take k)).set r ((cntR m ((mE (m : Int) K).take k)).getD r 0 + 1)) := Lib.hid (by rw [HSC.out]; unfold addR; rw [hr, Nat.add_sub_cancel])
        clear HSC hr hr' hrk
        obtain ⟨x0, x1, x2, x3, x4, x5⟩ := hat1
        simp only [Nat.zero_add] at x0 x1 x2 x3 x4 x5
        generalize dcd (K.getD k 0) = t at *
        simp only [mv, mcells] at hq
        have HQ := Lib.hid hq
        clear hq
        go_wp2_with fail
        refine (HQ.out _).mono ?_
        rintro e w3 ⟨rfl, hb3⟩
        have hba : Below wr.heap.size wr w3 := ((Below.refl _ _).alloc (Nat.le_refl _) _).trans (hb3.mono (by simp))
        have HB3 := Lib.hid hba
        have hs3 := hba.size
        have HR3 := Lib.hid (HROW.out.below hba)
        have HBD := Lib.hid (hbd.out r)
        generalize cntR m ((mE (m : Int) K).take k) = S at *
        have hcell := ((HR3.out.2.resolve_left (fun e => by have := HLEN.out; rw [e] at this; simp at this; omega)))
        obtain ⟨g', eg, _, _, hcs⟩ := hcell
        injection eg with eg
        injection eg with eg
        subst eg
        obtain ⟨e1, e2⟩ := hcs r (by rw [HLEN.out]; omega)
        have hX := HBD.out
        obtain ⟨X, hXe⟩ : ∃ X, X = S.getD r 0 := ⟨_, rfl⟩
        have HXE := Lib.hid hXe
        rw [← hXe] at e1 hX
        clear hXe hcs hb3 hbd hba
        go_wp2_with fail
        go_roundw
        case rel =>
          refine ⟨k + 1, by omega, by go_num, (HBR.out.trans (HB3.out.mono (by omega))).setCell (by omega) _, ?_⟩
          rw [HSC'.out, ← HXE.out]
          exact rd_set HR3.out r (by rw [HLEN.out]; omega) _
        case measure => simp [intOf]; omega
      · obtain rfl : k = K.length := by omega
        have e : (mE (m : Int) K).take K.length = mE (m : Int) K := List.take_of_length_le (by rw [mE_len]; exact Nat.le_refl _)
        rw [e] at HROW
        have HLEN := Lib.hid (cntR_len m (mE (m : Int) K))
        go_wp2_with fail
        go_ret2
        rw [Int.toNat_natCast]
        exact ⟨some ⟨w1.heap.size + 1, 0, none⟩, m, by rw [HLEN.out]; rfl, HROW.out.mono (by omega), HB1.out.trans ((HBA.out.trans (HBR.out.mono (by omega))).mono hs1)⟩
  · have hz := szrL_bad hc
    have HC := Lib.hid hc
    rw [hz]
    have hcb : (elsC L [] != 0) = true := by simpa using hc
    clear hz hi hz0 hz1 hz2
    go_enter Try.func53, Try.ntmps53
    go_wp2_with fail
    refine HS.out.mono ?_
    rintro e w1 ⟨hb, ⟨_, rfl⟩ | ⟨hc0, _⟩⟩
    · have HB := Lib.hid hb
      clear hb
      go_wp2_with fail
      go_ret2
      exact ⟨none, 0, rfl, ⟨by simp, Or.inl rfl⟩, HB.out.alloc HB.out.size _⟩
    · exact absurd hc0 hc

end Go.Proofs.Ytpkapgidpgmdoaa
