/- The contract of spec.l07Reached. -/
import Derived.Test.YtiakoplfknkhmaaFac
import Derived.Test.YtiakoplfknkhmaaImage
import Derived.Test.YtiakoplfknkhmaaBitm
import Derived.Deep.RegionHeld3
import Derived.Deep.QuietTactic
import Derived.BigQuiet
namespace Go.Proofs.Ytiakoplfknkhmaa
open Go Go.RowKit Go.Maps

theorem shl_mask (j : Nat) (hj : j < 5) : IntKind.i64.wrap (2 ^ min (IntKind.u64.wrap (j : Int)).toNat 64) = mask (setB (fun _ => false) j) := by
  rcases (by omega : j = 0 ∨ j = 1 ∨ j = 2 ∨ j = 3 ∨ j = 4) with rfl | rfl | rfl | rfl | rfl <;> decide +kernel

theorem and_mask0 (b : Nat → Bool) (j : Nat) (hj : j < 5) : (bits BinOp.and IntKind.i64 (mask b / 2 ^ j) 1 == 0) = !b j := by
  unfold mask
  rcases (by omega : j = 0 ∨ j = 1 ∨ j = 2 ∨ j = 3 ∨ j = 4) with rfl | rfl | rfl | rfl | rfl <;> cases b 0 <;> cases b 1 <;> cases b 2 <;> cases b 3 <;> cases b 4 <;> decide +kernel

/-- The places that are met, as a set. -/
def memS (Q : List (Nat × List Int)) : Nat → Bool := fun x => metB Q x

theorem memS_app (Q : List (Nat × List Int)) (x : Nat) (wd : List Int) : setB (memS Q) x = memS (Q ++ [(x, wd)]) := by
  funext z
  unfold setB memS
  rw [metB_app]
  by_cases h : z = x
  · subst h; simp
  · rw [if_neg h]; simp [Ne.symm h]

theorem memS_one (x : Nat) : memS [(x, [])] = setB (fun _ => false) x := by
  funext z
  unfold memS setB metB
  by_cases h : z = x
  · subst h; simp
  · rw [if_neg h]; simp [Ne.symm h]

theorem natL_at {l : List Nat} {j : Nat} (hj : j < l.length) : (natL l).getD j 0 = ((l.getD j 0 : Nat) : Int) := by
  unfold natL
  rw [List.getD_eq_getElem?_getD, List.getElem?_map, List.getElem?_eq_getElem hj, List.getD_eq_getElem?_getD, List.getElem?_eq_getElem hj]
  rfl

theorem natL_len (l : List Nat) : (natL l).length = l.length := by unfold natL; simp

/-- What a row of its own holds, cell by cell. -/
theorem own_at7 {w : World} {B : Nat} {v : Value} {L : List Int} (h : Own w B v L) (hn : L.length ≤ 2000000) {j : Nat} (hj : j < L.length) : ∃ g cap, v = .slice (some ⟨g, 0, none⟩) L.length cap ∧ B ≤ g ∧ g < w.heap.size ∧ w.cell? ⟨g, j, none⟩ = some (.int .i64 (L.getD j 0)) := by
  obtain ⟨a, cap, e, hr⟩ := own_rd h hn
  obtain ⟨g, ha, hB, hg, hc⟩ := hr.2.resolve_left (fun e => by rw [e] at hj; simp at hj)
  exact ⟨g, cap, by rw [e, ha], hB, hg, (hc j hj).1⟩

/-- The cells of a map, by points. -/
theorem at6_pt {w : World} {b o : Nat} {x : MapN} (h : At6 w b o x) {y : Nat} (hy : y < 5) : w.cell? ⟨b, o + 1 + y, none⟩ = some (.int .i64 (x.2 y)) := by
  obtain ⟨x0, x1, x2, x3, x4, x5⟩ := h
  rcases (by omega : y = 0 ∨ y = 1 ∨ y = 2 ∨ y = 3 ∨ y = 4) with rfl | rfl | rfl | rfl | rfl
  · exact x1
  · exact x2
  · exact x3
  · exact x4
  · exact x5

set_option maxRecDepth 100000 in
set_option maxHeartbeats 8000000 in
theorem srch_any {L : List MapN} {p F : Nat} (hL : Lok L p) (hF : F < p) (S : List Int) (a b : Option Addr) (c d : Nat) (w : World) (h1 : InRowM w a L) :
    Calls Try.prog 44 #[.agg #[.slice a L.length c, .int .i64 (F : Int), .slice b S.length d]] w (RetOwn w.heap.size (natL (ptsP L F)) w) := by
  have hl1 := hL.l1
  have hl6 := hL.l6
  have hp1 := hL.p1
  have hp5 := hL.p5
  have HOK := Lib.hid fun j => rchP_ok hL hF j
  have HLE := Lib.hid fun j => rchP_len hL hF j
  have HNX := Lib.hid fun x i (hx : x < p) (hi : i < L.length) => hL.nx hx hi
  have HR := Lib.hid h1
  have hF5 : F < 5 := by omega
  have HSH := Lib.hid (shl_mask F hF5)
  have HPT : Hid (ptsP L F = (brun (nxP L) L.length F 25).map Prod.fst) := Lib.hid rfl
  obtain ⟨wb, hwb⟩ : ∃ wb, wb = w.alloc (.cells #[.slice a L.length c, .int .i64 (F : Int), .slice b S.length d] 30) := ⟨_, rfl⟩
  have hbx : wb.heap[w.heap.size]? = some (.cells #[.slice a L.length c, .int .i64 (F : Int), .slice b S.length d] 30 (0, 0)) := by rw [hwb]; exact halloc_at _ _ _ rfl
  have hwz : wb.heap.size = w.heap.size + 1 := by rw [hwb]; simp
  have HWB : Hid (Below w.heap.size w wb) := Lib.hid (by rw [hwb]; exact (Below.refl _ _).alloc (Nat.le_refl _) _)
  have HBX := Lib.hid hbx
  have hz1 : w.heap.size < wb.heap.size := by omega
  have bx0 : ∀ x, Below wb.heap.size wb x → x.cell? ⟨w.heap.size, 1, none⟩ = some (.int .i64 (F : Int)) := fun x h => Joins.cell_of_block ((h.block _ hz1).trans HBX.out) 1
  clear h1 hbx hwz
  go_enter Try.func44, Try.ntmps44
  go_wp2_with fail
  rw [← hwb]
  clear hwb
  go_region_held3 (fun w' => Below wb.heap.size wb w') (first | (with_reducible assumption) | ((repeat' (first | (with_reducible exact Below.refl _ _) | (with_reducible refine Below.alloc ?_ ?_ _) | (with_reducible refine Below.setCell ?_ ?_ _) | (with_reducible refine Below.drew ?_) | (with_reducible refine below_drewN ?_ _) | (with_reducible refine Below.trans ?_ (Below.mono (Hid.out (by assumption)) ?_)) | omega | (simp; done) | (simp; omega))); done)) (fail)
  go_wp2_with fail
  have hu : IntKind.u64.wrap (F : Int) = (F : Int) := by rcases (by omega : F = 0 ∨ F = 1 ∨ F = 2 ∨ F = 3 ∨ F = 4) with rfl | rfl | rfl | rfl | rfl <;> decide +kernel
  rw [HSH.out, ← memS_one, hu]
  clear hu
  go_loopw [3, 4, 5, 6, 7] (fun v m z _ _ wr => ∃ j : Nat, j ≤ (brun (nxP L) L.length F j).length ∧ j ≤ 25 ∧ z = .int .i64 j ∧ Own wr wb.heap.size v (natL ((brun (nxP L) L.length F j).map Prod.fst)) ∧ m = .int .i64 (mask (memS (brun (nxP L) L.length F j))) ∧ Below wb.heap.size wb wr) (fun _ _ z _ _ _ => 25 - (intOf z).toNat)
  case atStart =>
    refine ⟨0, by omega, by omega, rfl, ?_, rfl, ((Below.refl _ _).alloc (Nat.le_refl _) _).drew⟩
    exact ⟨rfl, Or.inr ⟨wb.heap.size, 1, #[.int .i64 (F : Int)], rfl, Nat.le_refl _, halloc_at _ _ _ rfl, Nat.le_refl _, by unfold maxLen; omega, rfl, rfl⟩⟩
  case round =>
    obtain ⟨j, hj1, hj25, rfl, hown, rfl, hb⟩ := hrel
    have hle := HLE.out j
    have hbk := HOK.out j
    have hnl : (natL ((brun (nxP L) L.length F j).map Prod.fst)).length = (brun (nxP L) L.length F j).length := by rw [natL_len, List.length_map]
    by_cases hjl : j < (brun (nxP L) L.length F j).length
    · obtain ⟨g, cap, rfl, hg1, hg2, hcell⟩ := own_at7 hown (by omega) (show j < _ by omega)
      rw [natL_at (by rw [List.length_map]; exact hjl)] at hcell
      have hgj := List.getElem?_eq_getElem hjl
      have hmem := List.getElem_mem hjl
      have HSTEP := Lib.hid ((brun_succ (nxP L) L.length F j).trans (bstep_some hgj))
      have hce : ((brun (nxP L) L.length F j).map Prod.fst).getD j 0 = (brun (nxP L) L.length F j)[j].1 := by
        rw [List.getD_eq_getElem?_getD, List.getElem?_map, hgj]; rfl
      rw [hce] at hcell
      have hPc := hbk.all _ hmem
      have hWl := hbk.wl _ hmem
      have HBK : Hid (Bok (fun x => x < p) (j + 1) (brun (nxP L) L.length F j)) := Lib.hid ⟨hbk.all, fun y hy => Nat.le_succ_of_le (hbk.wl y hy), hbk.nd⟩
      have HO := Lib.hid hown
      have HB := Lib.hid hb
      have hsz := hb.size
      obtain ⟨c0, hc0⟩ : ∃ c0, c0 = (brun (nxP L) L.length F j)[j].1 := ⟨_, rfl⟩
      obtain ⟨wd, hwd⟩ : ∃ wd, wd = (brun (nxP L) L.length F j)[j].2 := ⟨_, rfl⟩
      rw [← hc0] at hcell hPc HSTEP
      rw [← hwd] at hWl HSTEP
      have HQJ : Hid ((brun (nxP L) L.length F j)[j]? = some (c0, wd)) := Lib.hid (by rw [hgj, hc0, hwd])
      have HNL : Hid (brun (nxP L) L.length F (j + 1) = bpart (nxP L) c0 wd (brun (nxP L) L.length F j) L.length) := HSTEP
      obtain ⟨Q, hQ⟩ : ∃ Q, Q = brun (nxP L) L.length F j := ⟨_, rfl⟩
      have HCL := Lib.hid hcell
      rw [hnl] at HO ⊢
      rw [← hQ] at HO HBK HNL HQJ hjl hle ⊢
      have hjl' : (j : Int) < (Q.length : Int) := by omega
      have hPc5 : c0 < 5 := Nat.lt_of_lt_of_le hPc hp5
      clear hown hb hnl hbk hgj hmem hce hcell hc0 hwd HSTEP hQ hj1
      obtain ⟨wo, hwo⟩ : ∃ wo, wo = wr := ⟨_, rfl⟩
      subst hwo
      go_wp2_with fail
      go_loopw [3, 4, 6, 7] (fun v m z _ wr => ∃ (i : Nat) (g' cap' : Nat), i ≤ L.length ∧ z = .int .i64 i ∧ v = .slice (some ⟨g', 0, none⟩) (bpart (nxP L) c0 wd Q i).length cap' ∧ Own wr wb.heap.size v (natL ((bpart (nxP L) c0 wd Q i).map Prod.fst)) ∧ m = .int .i64 (mask (memS (bpart (nxP L) c0 wd Q i))) ∧ Below wb.heap.size wb wr) (fun _ _ z _ _ => L.length - (intOf z).toNat)
      case atStart => exact ⟨0, g, cap, by omega, rfl, rfl, HO.out, rfl, HB.out⟩
      case round =>
        obtain ⟨i, g', cap', hik, rfl, rfl, hown, rfl, hb⟩ := hrel
        have hbz := hb.size
        have hbxr := (hb.block _ hz1).trans HBX.out
        have f0 := Joins.cell_of_block hbxr 0
        simp only [List.getElem?_toArray, List.getElem?_cons_zero] at f0
        by_cases hlt : i < L.length
        · have hlt' : (i : Int) < (L.length : Int) := by omega
          obtain ⟨hY, hnx⟩ := HNX.out c0 i hPc hlt
          have hbki := Bok.part (p := c0) (nx := nxP L) HBK.out (fun i hi => (HNX.out c0 i hPc hi).1) hWl i hik
          have hl25 : (bpart (nxP L) c0 wd Q i).length ≤ p := hbki.len id (fun _ h => h) (fun _ _ _ _ e => e)
          have hgo := bpart_goes (nxP L) c0 wd Q i
          have hnl2 : (natL ((bpart (nxP L) c0 wd Q i).map Prod.fst)).length = (bpart (nxP L) c0 wd Q i).length := by rw [natL_len, List.length_map]
          have hgl := hgo.len
          obtain ⟨g2, cap2, e, hg21, hg22, hc2⟩ := own_at7 hown (by omega) (show j < _ by omega)
          injection e with e e2 e3
          injection e with e
          injection e with e
          subst e
          clear e2 e3
          have hce : (natL ((bpart (nxP L) c0 wd Q i).map Prod.fst)).getD j 0 = (c0 : Int) := by
            rw [natL_at (by rw [List.length_map]; omega)]
            have h := hgo.at HQJ.out
            rw [List.getD_eq_getElem?_getD, List.getElem?_map, h]
            rfl
          rw [hce] at hc2
          obtain ⟨b2, off2, rfl, hbl2, hat⟩ := (HR.out.below (HWB.out.trans (hb.mono (by omega)))).at6 i hlt
          have hpt := at6_pt hat hPc5
          rw [hnx] at hpt
          have HSN : Hid (bpart (nxP L) c0 wd Q (i + 1) = bput (nxP L) c0 wd (bpart (nxP L) c0 wd Q i) i) := Lib.hid rfl
          have hMB : memS (bpart (nxP L) c0 wd Q i) (nxP L c0 i) = metB (bpart (nxP L) c0 wd Q i) (nxP L c0 i) := rfl
          have hY5 : nxP L c0 i < 5 := by omega
          have hand := and_mask0 (memS (bpart (nxP L) c0 wd Q i)) (nxP L c0 i) hY5
          have hor := or_mask (memS (bpart (nxP L) c0 wd Q i)) (nxP L c0 i) hY5
          rw [memS_app _ _ (wd ++ [(i : Int)])] at hor
          rw [hMB] at hand
          have HOWN := Lib.hid hown
          have HBR := Lib.hid hb
          have HNL2 := Lib.hid hnl2
          have HJQ : j < (bpart (nxP L) c0 wd Q i).length := by omega
          clear hown hb hbxr hgo hnl2 hce hat hbki hMB
          generalize bpart (nxP L) c0 wd Q i = Qi at *
          generalize hYe : nxP L c0 i = Y at *
          have HY := Lib.hid hYe
          clear hYe
          have HJQ' : (j : Int) < (Qi.length : Int) := by omega
          have hc05 : (c0 : Int) < 5 := by omega
          cases hmet : metB Qi Y
          · have HMT := Lib.hid hmet
            rw [hmet] at hand
            have HOR := Lib.hid hor
            clear hmet hor
            go_wp2_with fail
            go_quiet (fail)
            go_wp2_with (at_builtin; refine wpList_appI7 rfl _ _ rfl wb.heap.size _ (natL (Qi.map Prod.fst)) (by rw [← HNL2.out]; rfl) (own_bel7 HOWN.out (below_drewN ((Below.refl _ _).alloc (Nat.le_refl _) _) _)) wr.heap.size 1 (Y : Int) rfl (halloc_at _ _ _ rfl) (by rw [HNL2.out]; omega) (by simp; omega) ?_; intro v' w2 ho2 hg2 _)
            have hap : natL (Qi.map Prod.fst) ++ [(Y : Int)] = natL ((Qi ++ [(Y, wd ++ [(i : Int)])]).map Prod.fst) := by rw [List.map_append]; exact (natL_snoc _ _).symm
            rw [hap] at ho2
            have hl2 : (natL ((Qi ++ [(Y, wd ++ [(i : Int)])]).map Prod.fst)).length = (Qi ++ [(Y, wd ++ [(i : Int)])]).length := by rw [natL_len, List.length_map]
            obtain ⟨g3, cap3, hv3, _, _, _⟩ := own_at7 ho2 (by rw [hl2, List.length_append]; simp; omega) (show 0 < _ by rw [hl2, List.length_append]; simp)
            rw [hl2] at hv3
            have HV3 := Lib.hid hv3
            have HO2 := Lib.hid ho2
            have HB2 : Hid (Below wb.heap.size wb w2) := Lib.hid ((below_drewN (HBR.out.alloc hbz _) nq).grown hg2 (by simp; omega) (fun r e => (World.ownsRow.lt HOWN.out r e).1))
            have HBP : Hid (bpart (nxP L) c0 wd Q (i + 1) = Qi ++ [(Y, wd ++ [(i : Int)])]) := Lib.hid (by rw [HSN.out]; unfold bput; rw [HY.out, if_neg (by rw [HMT.out]; exact Bool.false_ne_true)])
            clear ho2 hg2 hap hl2 hv3
            rw [HOR.out]
            go_wp2_with fail
            go_roundw
            case rel => exact ⟨i + 1, g3, cap3, by omega, by go_num, by rw [HBP.out]; exact HV3.out, by rw [HBP.out]; exact HO2.out, by rw [HBP.out], HB2.out⟩
            case measure => simp [intOf]; omega
          · have hfalse : (!true) = false := rfl
            rw [hmet] at hand
            have HMT := Lib.hid hmet
            clear hmet hor
            generalize hMM : mask (memS Qi) = M at *
            have HMM := Lib.hid hMM
            clear hMM
            go_wp2_with fail
            go_quiet (fail)
            go_wp2_with fail
            go_roundw
            case rel => exact ⟨i + 1, g', cap', by omega, by go_num, by rw [HSN.out]; unfold bput; rw [HY.out, if_pos HMT.out], by rw [HSN.out]; unfold bput; rw [HY.out, if_pos HMT.out]; exact own_bel7 HOWN.out (below_drewN (Below.refl _ _) _), by rw [HSN.out]; unfold bput; rw [HY.out, if_pos HMT.out, HMM.out], below_drewN HBR.out _⟩
            case measure => simp [intOf]; omega
        · obtain rfl : i = L.length := by omega
          have HOWN := Lib.hid hown
          have HBR := Lib.hid hb
          have hx1 : j + 1 ≤ (brun (nxP L) L.length F (j + 1)).length := by
            rw [HNL.out]
            have := (bpart_goes (nxP L) c0 wd Q L.length).len
            omega
          have HX1 := Lib.hid hx1
          clear hown hb hbxr hx1
          go_wp2_with fail
          go_roundw
          case rel => exact ⟨j + 1, HX1.out, by omega, by go_num, by rw [HNL.out]; exact HOWN.out, by rw [HNL.out], HBR.out⟩
          case measure => simp [intOf]; omega
    · have hle2 : (brun (nxP L) L.length F j).length ≤ j := by omega
      have HEND := Lib.hid (brun_stops (m := 25) hle2 hj25)
      have HOWN := Lib.hid hown
      have HB := Lib.hid hb
      have hsz := hb.size
      obtain ⟨g, cap, hv, _, _, _⟩ := own_at7 hown (by omega) (show 0 < _ by have := (brun_le (nxP L) L.length F (Nat.zero_le j)).len; simp [brun] at this; omega)
      rw [hnl] at hv
      subst hv
      have hjl' : ¬ ((j : Int) < ((brun (nxP L) L.length F j).length : Int)) := by omega
      clear hown hb hnl
      go_wp2_with fail
      go_ret
      refine ⟨_, rfl, ?_, HWB.out.trans (HB.out.mono (by omega))⟩
      rw [HPT.out, HEND.out]
      exact World.ownsRow.mono HOWN.out (by omega)

end Go.Proofs.Ytiakoplfknkhmaa
