/- The contracts of RegularElements and IsRegularMonoid, in spec and impl. -/
import Derived.Test.YtiogagaclhjdaaaOn
import Derived.Test.YtiogagaclhjdaaaMono
import Derived.Test.YtiogagaclhjdaaaInvs
import Derived.Test.YtiogagaclhjdaaaReg
namespace Go.Proofs.Ytiogagaclhjdaaa
open Go Go.RowKit Go.Maps

set_option maxRecDepth 100000 in
set_option maxHeartbeats 1000000 in
theorem srgl_any (a : Option Addr) (c : Nat) (L : List MapN) (hl : L.length ≤ 1048576) (w : World) (hr : InRowM w a L) :
    Calls Try.prog 21 #[.slice a L.length c] w (RetRowM w.heap.size (alL rglC L) (elsC L []) w) := by
  have HS := Lib.hid (all_any a none c 0 L [] hl (by simp) w hr (Or.inl rfl))
  simp only [List.length_nil] at HS
  clear hr
  by_cases hc : witC L [] = 0
  · have hmon := mon_els (witC_good hc).1
    have hHS := HS.out
    rw [hc, allL_0 hc] at hHS
    have HS := Lib.hid hHS
    rw [alL_0 hc, ← witC_els, hc]
    have HMON := Lib.hid hmon
    have hle := hmon.le
    clear hHS hc hmon
    generalize elsK L = K at *
    generalize fst0 L = p at *
    (try simp only [mE_len] at HS)
    unfold rglC
    go_enter Try.func21, Try.ntmps21
    go_wp2_with fail
    refine HS.out.mono ?_
    rintro e w1 ⟨aK, cK, rfl, hrd, hb⟩
    rw [mE_len]
    have HB1 := Lib.hid hb
    have hs1 := hb.size
    have HRD := Lib.hid hrd
    clear hb hrd HS
    go_wp2_with fail
    go_loopw [6, 7] (fun v i wr => ∃ k : Nat, k ≤ K.length ∧ i = .int .i64 k ∧ Below w1.heap.size w1 wr ∧ OwnM wr w1.heap.size v (mE p ((K.take k).filter fun x => regC p K x))) (fun _ i _ => K.length - (intOf i).toNat)
    case atStart => exact ⟨0, by omega, rfl, (Below.refl _ _).alloc (Nat.le_refl _) _, own_emptyM (halloc_at _ _ _ rfl) (Nat.le_refl _)⟩
    case round =>
      obtain ⟨k, hk, rfl, hb, hown⟩ := hrel
      have HBR := Lib.hid hb
      have HOW := Lib.hid hown
      have hsr := hb.size
      clear hb hown
      by_cases hkl : k < K.length
      · have hkl' : (k : Int) < (K.length : Int) := by omega
        obtain ⟨b1, o1, rfl, hl1, hat1⟩ := (HRD.out.below HBR.out).inRow.at6 k (by rw [mE_len]; exact hkl)
        rw [mE_at _ _ _ hkl] at hat1
        have hxm := getD_mem hkl
        have hfl := filt_le (fun x => regC p K x) K k
        have HFS := Lib.hid (filt_succ (fun x => regC p K x) K k hkl)
        obtain ⟨CB, hCB⟩ : ∃ CB, CB = regC p K (K.getD k 0) := ⟨_, rfl⟩
        have HCB := Lib.hid hCB
        rw [← hCB] at HFS
        generalize hMM : ((K.take k).filter fun x => regC p K x) = MM at *
        obtain ⟨x0, x1, x2, x3, x4, x5⟩ := hat1
        simp only [] at x0 x1 x2 x3 x4 x5
        generalize K.getD k 0 = x at *
        have HQ := Lib.hid (sreg_any HMON.out hxm (some ⟨b1, o1, none⟩) cK wr (HRD.out.below HBR.out).inRow)
        simp only [mv, mcells] at HQ
        go_wp2_with fail
        refine (HQ.out).mono ?_
        rintro e w3 ⟨rfl, hb3⟩
        have hy : w3.cell? ⟨b1, _, none⟩ = _ ∧ w3.cell? ⟨b1, _, none⟩ = _ ∧ w3.cell? ⟨b1, _, none⟩ = _ ∧ w3.cell? ⟨b1, _, none⟩ = _ ∧ w3.cell? ⟨b1, _, none⟩ = _ ∧ w3.cell? ⟨b1, _, none⟩ = _ := ⟨(hb3.cell (p := ⟨b1, _, none⟩) hl1).trans x0, (hb3.cell (p := ⟨b1, _, none⟩) hl1).trans x1, (hb3.cell (p := ⟨b1, _, none⟩) hl1).trans x2, (hb3.cell (p := ⟨b1, _, none⟩) hl1).trans x3, (hb3.cell (p := ⟨b1, _, none⟩) hl1).trans x4, (hb3.cell (p := ⟨b1, _, none⟩) hl1).trans x5⟩
        obtain ⟨y0, y1, y2, y3, y4, y5⟩ := hy
        have hs3 := hb3.size
        have HO3 := Lib.hid (ownM_bel HOW.out hb3)
        have HBW : Hid (Below w1.heap.size w1 w3) := Lib.hid (HBR.out.trans (hb3.mono hsr))
        have HB4 : Hid (Below w1.heap.size w1 (w3.alloc (.cells (mcells p (dcd x)) 31))) := Lib.hid (HBW.out.alloc (by omega) _)
        clear hb3 x0 x1 x2 x3 x4 x5
        rw [← hCB]
        clear hCB
        cases CB with
        | true =>
          go_wp2_with (at_builtin; refine wpList_appM rfl _ _ rfl w1.heap.size _ (mE p MM) rfl (ownM_bel HO3.out ((Below.refl _ _).alloc (Nat.le_refl _) _)) (some ⟨w3.heap.size, 0, none⟩) 1 [(p, dcd x)] (fun e => by cases e) rfl (Or.inr ⟨_, 0, rfl, by simp, at_one (halloc_at _ _ _ rfl)⟩) (by rw [mE_len]; simp; omega) (by simp; omega) ?_; intro v4 w4 hown4 hgrow4; have HO4 := Lib.hid hown4; have HB5 := Lib.hid (HB4.out.grown hgrow4 HB4.out.size (fun q e => (HO3.out.lt q e).1)); clear hown4 hgrow4)
          go_roundw
          case rel => exact ⟨k + 1, by omega, by go_num, HB5.out, by rw [HFS.out, if_pos (by decide), mE_app]; exact HO4.out⟩
          case measure => simp [intOf]; omega
        | false =>
          go_wp2_with fail
          go_roundw
          case rel => exact ⟨k + 1, by omega, by go_num, HBW.out, by rw [HFS.out, if_neg (by decide), List.append_nil]; exact HO3.out⟩
          case measure => simp [intOf]; omega
      · obtain rfl : k = K.length := by omega
        have hfl := filt_le (fun x => regC p K x) K K.length
        rw [List.take_length] at HOW hfl
        obtain ⟨a2, cap2, rfl, hr2⟩ := ownM_rd HOW.out (by rw [mE_len]; omega)
        have HR2 := Lib.hid hr2
        clear hr2
        go_wp2_with fail
        go_ret2
        exact ⟨a2, cap2, by rw [mE_len]; rfl, HR2.out.mono (by omega), HB1.out.trans (HBR.out.mono (by omega))⟩
  · have hHS := HS.out
    rw [allL_1 hc] at hHS
    have HS := Lib.hid hHS
    rw [alL_1 hc, ← witC_els]
    clear hHS
    generalize witC L [] = C at *
    have hcb : (C != 0) = true := by simpa using hc
    (try simp only [List.length_nil] at HS)
    go_enter Try.func21, Try.ntmps21
    go_wp2_with fail
    refine HS.out.mono ?_
    rintro e w1 ⟨aK, cK, rfl, _, hb⟩
    have HB := Lib.hid hb
    clear hb
    go_wp2_with fail
    go_ret2
    exact ⟨none, 0, rfl, ⟨by simp, Or.inl rfl⟩, HB.out⟩

set_option maxRecDepth 100000 in
set_option maxHeartbeats 1000000 in
theorem irgl_any (a : Option Addr) (c : Nat) (L : List MapN) (h1 : a = none → c = 0) (hl : L.length ≤ 1048576) (w : World) (hr : InRowM w a L) :
    Calls Try.prog 22 #[.slice a L.length c] w (RetRowM w.heap.size (alL rglC L) (elsC L []) w) := by
  have HS := Lib.hid (mono_any a none c 0 L [] h1 (fun _ => rfl) hl (by simp) w hr (Or.inl rfl))
  simp only [List.length_nil] at HS
  clear hr
  by_cases hc : witC L [] = 0
  · have hmon := mon_els (witC_good hc).1
    rw [alL_0 hc, ← witC_els, hc]
    have HQ := Lib.hid (fun (w1 : World) (gE cE b : Nat) (hbm : (w1.alloc (.cells #[.slice (some ⟨gE, 0, none⟩) (elsK L).length cE, .map (some b)] 48)).heap[w1.heap.size]? = some (.cells #[.slice (some ⟨gE, 0, none⟩) (elsK L).length cE, .map (some b)] 48 (0, 0)))
      (hrow : InRowM (w1.alloc (.cells #[.slice (some ⟨gE, 0, none⟩) (elsK L).length cE, .map (some b)] 48)) (some ⟨gE, 0, none⟩) (mE (fst0 L) (elsK L))) => thatR_any hmon w1.heap.size cE (some ⟨gE, 0, none⟩) (some b) _ hbm hrow)
    have HF : Hid (elsC L [] ≠ 0 → False) := Lib.hid fun h => h (by rw [← witC_els]; exact hc)
    have hHS := HS.out
    unfold RetMono at hHS
    have HS := Lib.hid hHS
    have hle := hmon.le
    have HMON := Lib.hid hmon
    clear hmon hc hHS
    generalize elsK L = K at *
    generalize fst0 L = p at *
    generalize rglC p K = NN at *
    go_enter Try.func22, Try.ntmps22
    go_wp2_with fail
    refine HS.out.mono ?_
    rintro e w1 ⟨hb, ⟨hc, rfl⟩ | ⟨_, _, gE, cE, b, l, rfl, hput, _, _, _⟩⟩
    · exact (HF.out hc).elim
    have HB := Lib.hid hb
    have hs1 := hb.size
    have hrow : InRowM (w1.alloc (.cells #[.slice (some ⟨gE, 0, none⟩) K.length cE, .map (some b)] 48)) (some ⟨gE, 0, none⟩) (mE p K) := hput.inRow.below ((Below.refl _ _).alloc (Nat.le_refl _) _)
    have HQ := Lib.hid (HQ.out w1 gE cE b (halloc_at _ _ _ rfl) hrow)
    clear hb hput hrow HS HF
    go_wp2_with fail
    refine HQ.out.mono ?_
    rintro e w3 ⟨a3, c3, rfl, hr3, hb3⟩
    have HB3 := Lib.hid hb3
    have HR3 := Lib.hid hr3
    clear hr3 hb3
    go_wp2_with fail
    go_ret2
    exact ⟨a3, c3, by rw [mE_len]; rfl, HR3.out.mono (by simp; omega), (HB.out.alloc HB.out.size _).trans (HB3.out.mono (by simp; omega))⟩
  · rw [alL_1 hc, ← witC_els]
    have HQ := Lib.hid (fun (w1 : World) => thatR_nil w1.heap.size none (w1.alloc (.cells #[.slice none 0 0, .map none] 48)) (halloc_at _ _ _ rfl))
    have HF : Hid (elsC L [] = 0 → False) := Lib.hid fun h => hc (by rw [witC_els]; exact h)
    have hHS := HS.out
    unfold RetMono at hHS
    rw [← witC_els] at hHS
    have HS := Lib.hid hHS
    generalize witC L [] = C at *
    have hcb : (C != 0) = true := by simpa using hc
    clear hHS
    go_enter Try.func22, Try.ntmps22
    go_wp2_with fail
    refine HS.out.mono ?_
    rintro e w1 ⟨hb, ⟨_, rfl⟩ | ⟨hc2, _, gE, cE, b, l, rfl, hput, _, _, _⟩⟩
    rotate_left
    · exact (hc hc2).elim
    have HB := Lib.hid hb
    have hs1 := hb.size
    have HQ := Lib.hid (HQ.out w1)
    clear hb hc HS HF
    go_wp2_with fail
    refine HQ.out.mono ?_
    rintro e w3 ⟨a3, c3, rfl, _, hb3⟩
    have HB3 := Lib.hid hb3
    clear hb3
    go_wp2_with fail
    go_ret2
    exact ⟨a3, c3, rfl, ⟨by simp, Or.inl rfl⟩, (HB.out.alloc HB.out.size _).trans (HB3.out.mono (by simp; omega))⟩

end Go.Proofs.Ytiogagaclhjdaaa
