/- The contracts of ElementsBelow, in spec and impl. -/
import Derived.Test.YtiogagaclhjdaaaOn
import Derived.Test.YtiogagaclhjdaaaWith
import Derived.Test.YtiogagaclhjdaaaSbl
import Derived.Test.YtiogagaclhjdaaaBlw
import Derived.Deep.DeepCutAuto
import Derived.Deep.RegionHeld3
namespace Go.Proofs.Ytiogagaclhjdaaa
open Go Go.RowKit Go.Maps

set_option maxRecDepth 100000 in
set_option maxHeartbeats 1000000 in
theorem sblwE_any (a : Option Addr) (c : Nat) (L : List MapN) (q : Int) (s : Nat → Int) (_ : (Lit.int .i64 q).wf = true) (_ : ∀ i, i < 5 → (Lit.int .i64 (s i)).wf = true) (hl : L.length ≤ 1048576) (w : World) (hr : InRowM w a L) :
    Calls Try.prog 33 #[.slice a L.length c, mv q s] w (RetRowM w.heap.size (onL blwF L q s) (witC L [(q, s)]) w) := by
  have hb0 : Below w.heap.size w ((w.alloc (.cells (mcells q s) 31)).alloc (.cells (mcells q s) 31)) := ((Below.refl _ _).alloc (Nat.le_refl _) _).alloc (by simp) _
  have hone : InRowM ((w.alloc (.cells (mcells q s) 31)).alloc (.cells (mcells q s) 31)) (some ⟨w.heap.size + 1, 0, none⟩) [(q, s)] := Or.inr ⟨w.heap.size + 1, 0, rfl, by simp, at_one (by have := halloc_at (w.alloc (.cells (mcells q s) 31)) (.cells (mcells q s) 31) _ rfl; simpa using this)⟩
  have HS := Lib.hid (all_any a (some ⟨w.heap.size + 1, 0, none⟩) c 1 L [(q, s)] hl (by simp) _ (hr.below hb0) hone)
  have HX0 : Hid (((w.alloc (.cells (mcells q s) 31)).alloc (.cells (mcells q s) 31)).heap[w.heap.size]? = some (.cells (mcells q s) 31 (0, 0))) := Lib.hid ((halloc_lt _ _ _ (by simp)).trans (halloc_at _ _ _ rfl))
  have HB0 := Lib.hid hb0
  simp only [show [(q, s)].length = 1 from rfl] at HS
  clear hr hb0 hone
  by_cases hc : witC L [(q, s)] = 0
  · obtain ⟨hmon, hq, hs, hm, he⟩ := on_good hc
    have hHS := HS.out
    rw [hc, allL_0 hc, hq] at hHS
    have HS := Lib.hid hHS
    rw [onL_0 hc, hq, hc]
    have HMON := Lib.hid hmon
    have HM := Lib.hid hm
    have hX1 := HX0.out
    have hmc := mcells_ecd hs
    rw [← hmc] at hX1
    have HX0 := Lib.hid hX1
    rw [← he]
    have HB00 := HB0.out
    rw [← hmc] at HB00
    have HB0 := Lib.hid HB00
    rw [← hmc] at HS
    have hle := hmon.le
    clear hHS hc hs hm hmon hq HB00 hX1 hmc he
    generalize elsK L = K at *
    generalize ecd s = c at *
    (try simp only [mE_len] at HS)
    simp only [mv, mcells] at HS HX0 HB0 ⊢
    unfold blwF
    go_enter Try.func33, Try.ntmps33
    go_wp2_with fail
    refine HS.out.mono ?_
    rintro e w1 ⟨aK, cK, rfl, hrd, hb⟩
    rw [mE_len]
    have HB1 := Lib.hid (HB0.out.trans (hb.mono (by simp; omega)))
    have hx := (hb.block w.heap.size (by simp; omega)).trans HX0.out
    have HXB := Lib.hid hx
    have hsx : w.heap.size < w1.heap.size := (Array.getElem?_eq_some_iff.1 hx).1
    have HRD := Lib.hid hrd
    clear hb hrd HS hx
    go_wp2_with fail
    go_loopw [8, 9] (fun v i wr => ∃ k : Nat, k ≤ K.length ∧ i = .int .i64 k ∧ Below w1.heap.size w1 wr ∧ OwnM wr w1.heap.size v (mE q ((K.take k).filter fun x => blwC q K c x))) (fun _ i _ => K.length - (intOf i).toNat)
    case atStart => exact ⟨0, by omega, rfl, (Below.refl _ _).alloc (Nat.le_refl _) _, own_emptyM (halloc_at _ _ _ rfl) (Nat.le_refl _)⟩
    case round =>
      obtain ⟨k, hk, rfl, hb, hown⟩ := hrel
      have HBR := Lib.hid hb
      have HOW := Lib.hid hown
      have hsr := hb.size
      clear hb hown
      by_cases hkl : k < K.length
      · have hkl' : (k : Int) < (K.length : Int) := by omega
        obtain ⟨b1, o1, rfl, hl1, hat1⟩ := (HRD.out.below HBR.out).inRow.at6 k (by rw [mE_len]; exact hkl)
        rw [mE_at _ _ _ hkl] at hat1
        have hfl := filt_le (fun x => blwC q K c x) K k
        have HFS := Lib.hid (filt_succ (fun x => blwC q K c x) K k hkl)
        have hxm := getD_mem hkl
        have vx := HMON.out.vl _ hxm
        have vc := HMON.out.vl _ HM.out
        obtain ⟨CB, hCB⟩ : ∃ CB, CB = blwC q K c (K.getD k 0) := ⟨_, rfl⟩
        rw [← hCB] at HFS
        obtain ⟨x0, x1, x2, x3, x4, x5⟩ := hat1
        simp only [] at x0 x1 x2 x3 x4 x5
        have hxf := bel_at HBR.out HXB.out
        generalize hMM : ((K.take k).filter fun x => blwC q K c x) = MM at *
        generalize K.getD k 0 = x at *
        have HQ := Lib.hid fun (z : World) (hz : Below wr.heap.size wr z) => sblw_any HMON.out.vl vx vc hle (some ⟨b1, o1, none⟩) cK z ((HRD.out.below HBR.out).below hz).inRow
        rw [← hCB] at HQ
        simp only [mv, mcells] at HQ
        obtain ⟨r0, r1, r2, r3, r4, r5⟩ := belN_cells (B := wr.heap.size) (by omega) hxf
        have y0 : ∀ z, Below wr.heap.size wr z → z.cell? ⟨b1, _, none⟩ = _ := fun z hz => (hz.cell (p := ⟨b1, _, none⟩) hl1).trans x0
        have y1 : ∀ z, Below wr.heap.size wr z → z.cell? ⟨b1, _, none⟩ = _ := fun z hz => (hz.cell (p := ⟨b1, _, none⟩) hl1).trans x1
        have y2 : ∀ z, Below wr.heap.size wr z → z.cell? ⟨b1, _, none⟩ = _ := fun z hz => (hz.cell (p := ⟨b1, _, none⟩) hl1).trans x2
        have y3 : ∀ z, Below wr.heap.size wr z → z.cell? ⟨b1, _, none⟩ = _ := fun z hz => (hz.cell (p := ⟨b1, _, none⟩) hl1).trans x3
        have y4 : ∀ z, Below wr.heap.size wr z → z.cell? ⟨b1, _, none⟩ = _ := fun z hz => (hz.cell (p := ⟨b1, _, none⟩) hl1).trans x4
        have y5 : ∀ z, Below wr.heap.size wr z → z.cell? ⟨b1, _, none⟩ = _ := fun z hz => (hz.cell (p := ⟨b1, _, none⟩) hl1).trans x5
        clear hCB x0 x1 x2 x3 x4 x5 hxf vx vc hxm
        go_upto_region 8 with fail
        go_cut [33] from 27 to 33 (fun s33 wx => s33 = .bool CB ∧ Below wr.heap.size wr wx)
        case first =>
          go_region_held3 (fun w' => Below wr.heap.size wr w') (first | (with_reducible assumption) | ((repeat' (first | (with_reducible exact Below.refl _ _) | (with_reducible refine Below.alloc ?_ ?_ _) | (with_reducible refine Below.setCell ?_ ?_ _) | (with_reducible refine Below.drew ?_) | (with_reducible refine below_drewN ?_ _) | (with_reducible refine Below.trans ?_ (Below.mono (Hid.out (by assumption)) ?_)) | omega | (simp; done) | (simp; omega))); done)) (first | (go_at_call 57; (with_reducible refine (HQ.out _ (by assumption)).mono ?_); rintro e w1 ⟨rfl, hb⟩; skip; obtain ⟨hc, hf⟩ := bcell hb; have hz := hb.size; have Hb := Lib.hid hb; (try simp at hz hc hf); (try (have hy := Nat.lt_of_succ_le hz)); have hz0 : wr.heap.size ≤ w1.heap.size := (by omega); (try (have hz1 : wr.heap.size < w1.heap.size := (by omega))); clear hb))
          all_goals (go_wp2_with fail)
          all_goals (go_meet)
          all_goals
            refine ⟨rfl, ?_⟩
            (repeat' (first | (with_reducible exact Below.refl _ _) | (with_reducible refine Below.alloc ?_ ?_ _) | (with_reducible refine Below.setCell ?_ ?_ _) | (with_reducible refine Below.drew ?_) | (with_reducible refine below_drewN ?_ _) | (with_reducible refine Below.trans ?_ (Below.mono (Hid.out (by assumption)) ?_)) | omega | (simp; done) | (simp; omega)))
        obtain ⟨rfl, hbc⟩ := hcut
        obtain ⟨w3, hw3⟩ : ∃ w3, w3 = wc := ⟨_, rfl⟩
        subst hw3
        have hzc := hbc.size
        obtain ⟨z0, z1, z2, z3, z4, z5⟩ := (⟨y0 _ hbc, y1 _ hbc, y2 _ hbc, y3 _ hbc, y4 _ hbc, y5 _ hbc⟩ : _ ∧ _ ∧ _ ∧ _ ∧ _ ∧ _)
        have HO3 := Lib.hid (ownM_bel HOW.out hbc)
        have HBW : Hid (Below w1.heap.size w1 w3) := Lib.hid (HBR.out.trans (hbc.mono hsr))
        have HB4 : Hid (Below w1.heap.size w1 (w3.alloc (.cells (mcells q (dcd x)) 31))) := Lib.hid (HBW.out.alloc (by omega) _)
        clear hbc r0 r1 r2 r3 r4 r5 y0 y1 y2 y3 y4 y5
        cases CB with
        | true =>
          go_wp2_with (at_builtin; refine wpList_appM rfl _ _ rfl w1.heap.size _ (mE q MM) rfl (ownM_bel HO3.out ((Below.refl _ _).alloc (Nat.le_refl _) _)) (some ⟨w3.heap.size, 0, none⟩) 1 [(q, dcd x)] (fun e => by cases e) rfl (Or.inr ⟨_, 0, rfl, by simp, at_one (halloc_at _ _ _ rfl)⟩) (by rw [mE_len]; simp; omega) (by simp; omega) ?_; intro v4 w4 hown4 hgrow4; have HO4 := Lib.hid hown4; have HB5 := Lib.hid (HB4.out.grown hgrow4 HB4.out.size (fun q e => (HO3.out.lt q e).1)); clear hown4 hgrow4)
          go_roundw
          case rel => exact ⟨k + 1, by omega, by go_num, HB5.out, by rw [HFS.out, if_pos (by decide), mE_app]; exact HO4.out⟩
          case measure => simp [intOf]; omega
        | false =>
          go_wp2_with fail
          go_roundw
          case rel => exact ⟨k + 1, by omega, by go_num, HBW.out, by rw [HFS.out, if_neg (by decide), List.append_nil]; exact HO3.out⟩
          case measure => simp [intOf]; omega
      · obtain rfl : k = K.length := by omega
        have hfl := filt_le (fun x => blwC q K c x) K K.length
        rw [List.take_length] at HOW hfl
        obtain ⟨a2, cap2, rfl, hr2⟩ := ownM_rd HOW.out (by rw [mE_len]; omega)
        have HR2 := Lib.hid hr2
        clear hr2
        go_wp2_with fail
        go_ret2
        exact ⟨a2, cap2, by rw [mE_len]; rfl, HR2.out.mono (by omega), HB1.out.trans (HBR.out.mono (by omega))⟩
  · have hHS := HS.out
    rw [allL_1 hc] at hHS
    have HS := Lib.hid hHS
    rw [onL_1 hc]
    clear hHS
    generalize witC L [(q, s)] = C at *
    have hcb : (C != 0) = true := by simpa using hc
    (try simp only [List.length_nil] at HS)
    simp only [mv, mcells] at HS HX0 HB0 ⊢
    go_enter Try.func33, Try.ntmps33
    go_wp2_with fail
    refine HS.out.mono ?_
    rintro e w1 ⟨aK, cK, rfl, _, hb⟩
    have HB := Lib.hid (HB0.out.trans (hb.mono (by simp; omega)))
    clear hb
    go_wp2_with fail
    go_ret2
    exact ⟨none, 0, rfl, ⟨by simp, Or.inl rfl⟩, HB.out⟩

set_option maxRecDepth 100000 in
set_option maxHeartbeats 1000000 in
theorem iblwE_any (a : Option Addr) (c : Nat) (L : List MapN) (q : Int) (s : Nat → Int) (_ : (Lit.int .i64 q).wf = true) (_ : ∀ i, i < 5 → (Lit.int .i64 (s i)).wf = true) (h1 : a = none → c = 0) (hl : L.length ≤ 1048576) (w : World) (hr : InRowM w a L) :
    Calls Try.prog 34 #[.slice a L.length c, mv q s] w (RetRowM w.heap.size (onL blwF L q s) (witC L [(q, s)]) w) := by
  have hb0 : Below w.heap.size w ((w.alloc (.cells (mcells q s) 31)).alloc (.cells (mcells q s) 31)) := ((Below.refl _ _).alloc (Nat.le_refl _) _).alloc (by simp) _
  have hone : InRowM ((w.alloc (.cells (mcells q s) 31)).alloc (.cells (mcells q s) 31)) (some ⟨w.heap.size + 1, 0, none⟩) [(q, s)] := Or.inr ⟨w.heap.size + 1, 0, rfl, by simp, at_one (by have := halloc_at (w.alloc (.cells (mcells q s) 31)) (.cells (mcells q s) 31) _ rfl; simpa using this)⟩
  have HS := Lib.hid (iwith_any a (some ⟨w.heap.size + 1, 0, none⟩) c 1 L [(q, s)] h1 (fun e => by cases e) hl (by simp) _ (hr.below hb0) hone)
  have HX0 : Hid (((w.alloc (.cells (mcells q s) 31)).alloc (.cells (mcells q s) 31)).heap[w.heap.size]? = some (.cells (mcells q s) 31 (0, 0))) := Lib.hid ((halloc_lt _ _ _ (by simp)).trans (halloc_at _ _ _ rfl))
  have HB0 := Lib.hid hb0
  simp only [show [(q, s)].length = 1 from rfl] at HS
  clear hr hb0 hone
  by_cases hc : witC L [(q, s)] = 0
  · obtain ⟨hmon, hq, hs, hm, he⟩ := on_good hc
    rw [onL_0 hc, hq, hc]
    have HQ := Lib.hid (fun (w1 : World) (gE cE b : Nat) (hx : w1.heap[w.heap.size]? = some (.cells (mcells q s) 31 (0, 0))) (hsx : w.heap.size < w1.heap.size) (hbm : (w1.alloc (.cells #[.slice (some ⟨gE, 0, none⟩) (elsK L).length cE, .map (some b)] 48)).heap[w1.heap.size]? = some (.cells #[.slice (some ⟨gE, 0, none⟩) (elsK L).length cE, .map (some b)] 48 (0, 0)))
      (hrow : InRowM (w1.alloc (.cells #[.slice (some ⟨gE, 0, none⟩) (elsK L).length cE, .map (some b)] 48)) (some ⟨gE, 0, none⟩) (mE q (elsK L))) => iblwC_any hmon hs hm w1.heap.size gE cE (some b) _ hbm hrow)
    (try (have hHQ := HQ.out; rw [he] at hHQ; have HQ := Lib.hid hHQ; clear hHQ))
    have HF : Hid (witC L [(q, s)] ≠ 0 → False) := Lib.hid fun h => h hc
    have hHS := HS.out
    unfold RetWith at hHS
    rw [hq] at hHS
    have HS := Lib.hid hHS
    clear hmon hs hm he hc hq hHS
    generalize elsK L = K at *
    generalize hNN : blwF q K (ecd s) = NN at *
    clear hNN
    (try simp only [List.any_nil] at HQ)
    simp only [mv, mcells] at HS HX0 HB0 HQ ⊢
    go_enter Try.func34, Try.ntmps34
    go_wp2_with fail
    refine HS.out.mono ?_
    rintro e w1 ⟨hb, ⟨hc, rfl⟩ | ⟨_, _, _, _, gE, cE, b, l, rfl, hput, _, _, _⟩⟩
    · exact (HF.out hc).elim
    have HB := Lib.hid (HB0.out.trans (hb.mono (by simp; omega)))
    have hx := (hb.block w.heap.size (by simp; omega)).trans HX0.out
    have hsx : w.heap.size < w1.heap.size := (Array.getElem?_eq_some_iff.1 hx).1
    obtain ⟨x0, x1, x2, x3, x4, x5⟩ := blk6 hx
    have hrow : InRowM (w1.alloc (.cells #[.slice (some ⟨gE, 0, none⟩) K.length cE, .map (some b)] 48)) (some ⟨gE, 0, none⟩) (mE q K) := hput.inRow.below ((Below.refl _ _).alloc (Nat.le_refl _) _)
    have HQ := Lib.hid (HQ.out w1 gE cE b hx hsx (halloc_at _ _ _ rfl) hrow)
    clear hb hx hput hrow HS HF
    go_wp2_with fail
    refine HQ.out.mono ?_
    rintro e w3 ⟨a3, c3, rfl, hr3, hb3⟩
    have HB3 := Lib.hid hb3
    have HR3 := Lib.hid hr3
    clear hr3
    clear hb3
    go_wp2_with fail
    go_ret2
    exact ⟨a3, c3, by rw [mE_len]; rfl, HR3.out.mono (by simp; omega), (HB.out.alloc HB.out.size _).trans (HB3.out.mono (by simp; omega))⟩
  · rw [onL_1 hc]
    have HQ := Lib.hid (fun (w1 : World) => iblwN_any q s w1.heap.size none (w1.alloc (.cells #[.slice none 0 0, .map none] 48)) (halloc_at _ _ _ rfl))
    have HF : Hid (witC L [(q, s)] = 0 → False) := Lib.hid fun h => hc h
    have hHS := HS.out
    unfold RetWith at hHS
    have HS := Lib.hid hHS
    clear hc hHS
    generalize witC L [(q, s)] = C at *
    (try simp only [List.any_nil] at HQ)
    simp only [mv, mcells] at HS HX0 HB0 HQ ⊢
    go_enter Try.func34, Try.ntmps34
    go_wp2_with fail
    refine HS.out.mono ?_
    rintro e w1 ⟨hb, ⟨hc, rfl⟩ | ⟨hc, _, _, _, gE, cE, b, l, rfl, hput, _, _, _⟩⟩
    rotate_left
    · exact (HF.out hc).elim
    have HB := Lib.hid (HB0.out.trans (hb.mono (by simp; omega)))
    have hx := (hb.block w.heap.size (by simp; omega)).trans HX0.out
    have hsx : w.heap.size < w1.heap.size := (Array.getElem?_eq_some_iff.1 hx).1
    obtain ⟨x0, x1, x2, x3, x4, x5⟩ := blk6 hx
    have HQ := Lib.hid (HQ.out w1)
    clear hb hc hx HS HF
    go_wp2_with fail
    refine HQ.out.mono ?_
    rintro e w3 ⟨a3, c3, rfl, _, hb3⟩
    have HB3 := Lib.hid hb3
    clear hb3
    go_wp2_with fail
    go_ret2
    exact ⟨a3, c3, rfl, ⟨by simp, Or.inl rfl⟩, (HB.out.alloc HB.out.size _).trans (HB3.out.mono (by simp; omega))⟩

end Go.Proofs.Ytiogagaclhjdaaa
