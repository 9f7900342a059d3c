/- The contract of spec.IdempotentsOf: the elements that a test keeps. -/
import Derived.Test.YtpkapgidpgmdoaaSzr
import Derived.Test.YtpkapgidpgmdoaaIdem
namespace Go.Proofs.Ytpkapgidpgmdoaa
open Go.RowKit Go.Maps

/-- The elements that a test keeps, or nothing. -/
noncomputable def filL (q : Int → Nat → Bool) (L : List MapN) : List MapN := if elsC L [] = 0 then mE (fst0 L) ((elsK L).filter (q (fst0 L))) else []

theorem filL_bad {q : Int → Nat → Bool} {L : List MapN} (h : elsC L [] ≠ 0) : filL q L = [] := by unfold filL; rw [if_neg h]
theorem filL_good {q : Int → Nat → Bool} {L : List MapN} (h : elsC L [] = 0) : filL q L = mE (fst0 L) ((elsK L).filter (q (fst0 L))) := by unfold filL; rw [if_pos h]

theorem filt_succ (q : Nat → Bool) (K : List Nat) (k : Nat) (hk : k < K.length) : (K.take (k + 1)).filter q = (K.take k).filter q ++ (if q (K.getD k 0) = true then [K.getD k 0] else []) := by
  rw [List.take_add_one, List.getElem?_eq_getElem hk, List.filter_append]
  have e : K.getD k 0 = K[k] := by rw [List.getD_eq_getElem?_getD, List.getElem?_eq_getElem hk]; rfl
  rw [e]
  simp only [Option.toList_some, List.filter_cons, List.filter_nil]

theorem filt_le (q : Nat → Bool) (K : List Nat) (k : Nat) : ((K.take k).filter q).length ≤ K.length := Nat.le_trans (List.length_filter_le _ _) (by rw [List.length_take]; omega)

set_option maxRecDepth 100000 in
set_option maxHeartbeats 1000000 in
theorem sido_any (a : Option Addr) (c : Nat) (L : List MapN) (hl : L.length ≤ 1048576) (w : World) (hr : InRowM w a L) :
    Calls Try.prog 46 #[.slice a L.length c] w (RetRowM w.heap.size (filL (fun p c => idemB p (dcd c)) L) (elsC L []) w) := by
  have HS := Lib.hid (sels_any a none c 0 L [] hl (by simp) w hr (Or.inl rfl))
  clear hr
  by_cases hc : elsC L [] = 0
  · have hg := (chk_good (elsC_good hc)).1
    have hle := elsK_300 hc hg
    have hvl := elsK_vld hg
    have hz := filL_good hc (q := fun p c => idemB p (dcd c))
    have hk := elsL_0 hc (O := [])
    rw [hz]
    have hHS := HS.out
    rw [hc, hk] at hHS
    rw [hc]
    have HS := Lib.hid hHS
    have HVL := Lib.hid hvl
    clear hHS hz hk hg hc hvl
    generalize elsK L = K at *
    generalize fst0 L = p at *
    simp only [List.length_nil] at HS
    go_enter Try.func46, Try.ntmps46
    go_wp2_with fail
    refine HS.out.mono ?_
    rintro e w1 ⟨aK, cK, rfl, hrd, hb⟩
    rw [mE_len]
    have HB1 := Lib.hid hb
    have HRD := Lib.hid hrd
    have hs1 := hb.size
    clear hb hrd HS
    go_wp2_with fail
    go_loopw [6, 7] (fun v i wr => ∃ k : Nat, k ≤ K.length ∧ i = .int .i64 k ∧ Below w1.heap.size w1 wr ∧ OwnM wr w1.heap.size v (mE p ((K.take k).filter fun c => idemB p (dcd c)))) (fun _ i _ => K.length - (intOf i).toNat)
    case atStart => exact ⟨0, by omega, rfl, (Below.refl _ _).alloc (Nat.le_refl _) _, own_emptyM (halloc_at _ _ _ rfl) (Nat.le_refl _)⟩
    case round =>
      obtain ⟨k, hk, rfl, hb, hown⟩ := hrel
      have HBR := Lib.hid hb
      have HOW := Lib.hid hown
      have hsr := hb.size
      clear hb hown
      by_cases hkl : k < K.length
      · have hkl' : (k : Int) < (K.length : Int) := by omega
        obtain ⟨b1, o1, rfl, hl1, hat1⟩ := (HRD.out.below HBR.out).inRow.at6 k (by rw [mE_len]; exact hkl)
        rw [mE_at _ _ _ hkl] at hat1
        have hfl := filt_le (fun c => idemB p (dcd c)) K k
        have HFS := Lib.hid (filt_succ (fun c => idemB p (dcd c)) K k hkl)
        have hv := HVL.out (K.getD k 0) (by rw [List.getD_eq_getElem?_getD, List.getElem?_eq_getElem hkl]; exact List.getElem_mem hkl)
        have hq := fun w => sidem_any p (dcd (K.getD k 0)) hv.2 w
        clear hv
        obtain ⟨x0, x1, x2, x3, x4, x5⟩ := hat1
        simp only [] at x0 x1 x2 x3 x4 x5
        generalize hM : ((K.take k).filter fun c => idemB p (dcd c)) = M at *
        generalize K.getD k 0 = x at *
        simp only [mv, mcells] at hq
        have HQ := Lib.hid hq
        clear hq
        by_cases hi : idemB p (dcd x) = true
        · have hq2 := HQ.out
          rw [hi] at hq2
          have HQ := Lib.hid hq2
          clear hq2
          go_wp2_with fail
          refine (HQ.out _).mono ?_
          rintro e w3 ⟨rfl, hb3⟩
          have HB3 := Lib.hid hb3
          have hs3 := hb3.size
          have HO3 := Lib.hid (ownM_bel HOW.out hb3)
          obtain ⟨hc3, hf3⟩ := bcell hb3
          have y0 := (hb3.cell (p := ⟨b1, _, none⟩) hl1).trans x0
          have y1 := (hb3.cell (p := ⟨b1, _, none⟩) hl1).trans x1
          have y2 := (hb3.cell (p := ⟨b1, _, none⟩) hl1).trans x2
          have y3 := (hb3.cell (p := ⟨b1, _, none⟩) hl1).trans x3
          have y4 := (hb3.cell (p := ⟨b1, _, none⟩) hl1).trans x4
          have y5 := (hb3.cell (p := ⟨b1, _, none⟩) hl1).trans x5
          clear hb3 hc3 hf3 x0 x1 x2 x3 x4 x5
          have HB4 : Hid (Below w1.heap.size w1 (w3.alloc (.cells (mcells p (dcd x)) 39))) := Lib.hid ((HBR.out.trans (HB3.out.mono hsr)).alloc (by omega) _)
          go_wp2_with (at_builtin; refine wpList_appM rfl _ _ rfl w1.heap.size _ (mE p M) rfl (ownM_bel HO3.out ((Below.refl _ _).alloc (Nat.le_refl _) _)) (some ⟨w3.heap.size, 0, none⟩) 1 [(p, dcd x)] (fun e => by cases e) rfl (Or.inr ⟨_, 0, rfl, by simp, at_one (halloc_at _ _ _ rfl)⟩) (by rw [mE_len]; simp; omega) (by simp; omega) ?_; intro v4 w4 hown4 hgrow4; have HO4 := Lib.hid hown4; have HB5 := Lib.hid (HB4.out.grown hgrow4 HB4.out.size (fun q e => (HO3.out.lt q e).1)); clear hown4 hgrow4)
          go_roundw
          case rel => exact ⟨k + 1, by omega, by go_num, HB5.out, by rw [HFS.out, if_pos hi, mE_app]; exact HO4.out⟩
          case measure => simp [intOf]; omega
        · have hi' : idemB p (dcd x) = false := by simpa using hi
          have hq2 := HQ.out
          rw [hi'] at hq2
          have HQ := Lib.hid hq2
          clear hq2
          go_wp2_with fail
          refine (HQ.out _).mono ?_
          rintro e w3 ⟨rfl, hb3⟩
          have HB3 := Lib.hid hb3
          have hs3 := hb3.size
          clear hb3
          go_wp2_with fail
          go_roundw
          case rel => exact ⟨k + 1, by omega, by go_num, HBR.out.trans (HB3.out.mono hsr), by rw [HFS.out, if_neg hi, List.append_nil]; exact ownM_bel HOW.out HB3.out⟩
          case measure => simp [intOf]; omega
      · obtain rfl : k = K.length := by omega
        have hfl := filt_le (fun c => idemB p (dcd c)) K K.length
        rw [List.take_length] at HOW hfl
        obtain ⟨a2, cap2, rfl, hr2⟩ := ownM_rd HOW.out (by rw [mE_len]; omega)
        have HR2 := Lib.hid hr2
        clear hr2
        go_wp2_with fail
        go_ret2
        exact ⟨a2, cap2, rfl, HR2.out.mono hs1, HB1.out.trans (HBR.out.mono hs1)⟩
  · have hz := filL_bad hc (q := fun p c => idemB p (dcd c))
    have hk := elsL_1 hc (O := [])
    rw [hz]
    have hHS := HS.out
    rw [hk] at hHS
    have HS := Lib.hid hHS
    clear hHS hz hk
    generalize elsC L [] = C at *
    have hcb : (C != 0) = true := by simpa using hc
    simp only [List.length_nil] at HS
    go_enter Try.func46, Try.ntmps46
    go_wp2_with fail
    refine HS.out.mono ?_
    rintro e w1 ⟨aK, cK, rfl, _, hb⟩
    have HB := Lib.hid hb
    clear hb
    go_wp2_with fail
    go_ret2
    exact ⟨none, 0, rfl, ⟨by simp, Or.inl rfl⟩, HB.out⟩

end Go.Proofs.Ytpkapgidpgmdoaa
