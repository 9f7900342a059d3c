/- The contracts of spec.WordFor and impl.WordFor. -/
import Derived.Test.YtpkapgidpgmdoaaWith
import Derived.Test.YtpkapgidpgmdoaaSl
namespace Go.Proofs.Ytpkapgidpgmdoaa
open Go.RowKit Go.Maps

open Classical in
/-- The word of a map: that of the place where it is met. -/
noncomputable def wofL (E : List Nat) (W : List (List Int)) (c : Nat) : List Int := if h : ∃ j, j < E.length ∧ E.getD j 0 = c then W.getD (Classical.choose h) [] else []

theorem nodup_at {E : List Nat} (hn : E.Nodup) {i j : Nat} (hi : i < E.length) (hj : j < E.length) (e : E.getD i 0 = E.getD j 0) : i = j := by
  rw [List.getD_eq_getElem?_getD, List.getElem?_eq_getElem hi, List.getD_eq_getElem?_getD, List.getElem?_eq_getElem hj] at e
  simp only [Option.getD_some] at e
  rcases Nat.lt_trichotomy i j with h | h | h
  · exact absurd e (List.pairwise_iff_getElem.1 hn i j hi hj h)
  · exact h
  · exact absurd e.symm (List.pairwise_iff_getElem.1 hn j i hj hi h)

theorem wofL_at {E : List Nat} {W : List (List Int)} (hn : E.Nodup) {j : Nat} (hj : j < E.length) : wofL E W (E.getD j 0) = W.getD j [] := by
  have hx : ∃ i, i < E.length ∧ E.getD i 0 = E.getD j 0 := ⟨j, hj, rfl⟩
  unfold wofL
  rw [dif_pos hx]
  have hs := Classical.choose_spec hx
  rw [nodup_at hn hs.1 hj hs.2]

/-- The word that WordFor hands back. -/
noncomputable def wfL (L : List MapN) (q : Int) (s : Nat → Int) : List Int := if witC L [(q, s)] = 0 then wofL (cfin (fst0 L) (codes L)).E (cfin (fst0 L) (codes L)).W (ecd s) else []

theorem wfL_bad {L : List MapN} {q : Int} {s : Nat → Int} (h : witC L [(q, s)] ≠ 0) : wfL L q s = [] := by unfold wfL; rw [if_neg h]
theorem wfL_good {L : List MapN} {q : Int} {s : Nat → Int} (h : witC L [(q, s)] = 0) : wfL L q s = wofL (cfin (fst0 L) (codes L)).E (cfin (fst0 L) (codes L)).W (ecd s) := by unfold wfL; rw [if_pos h]

theorem nil_word {w : World} {p : Int} {t : Nat → Int} (hp : (Lit.int .i64 p).wf = true) (h : ∀ i, i < 5 → (Lit.int .i64 (t i)).wf = true) :
    (Instr.lookup 69 (.map none) (mv p t) false).run Try.prog w = .ok (.slice none 0 0) w := by
  have := Maps.look_nil (w := w) false lawM Try.underlying69 (zeroRow w) (keyOf_map hp h)
  simpa using this

theorem one_len (x : MapN) : [x].length = 1 := rfl

set_option maxRecDepth 100000 in
set_option maxHeartbeats 1000000 in
theorem iwfor_any (a : Option Addr) (c : Nat) (L : List MapN) (q : Int) (s : Nat → Int) (wq : (Lit.int .i64 q).wf = true) (ws : ∀ i, i < 5 → (Lit.int .i64 (s i)).wf = true) (h1 : a = none → c = 0) (hl : L.length ≤ 1048576) (w : World) (hr : InRowM w a L) :
    Calls Try.prog 30 #[.slice a L.length c, mv q s] w (RetRow w.heap.size (wfL L q s) (witC L [(q, s)]) w) := by
  have hb0 : Below w.heap.size w ((w.alloc (.cells (mcells q s) 39)).alloc (.cells (mcells q s) 39)) := ((Below.refl _ _).alloc (Nat.le_refl _) _).alloc (by simp) _
  have hone : InRowM ((w.alloc (.cells (mcells q s) 39)).alloc (.cells (mcells q s) 39)) (some ⟨w.heap.size + 1, 0, none⟩) [(q, s)] := Or.inr ⟨w.heap.size + 1, 0, rfl, by simp, at_one (by have := halloc_at (w.alloc (.cells (mcells q s) 39)) (.cells (mcells q s) 39) _ rfl; simpa using this)⟩
  have HS := Lib.hid (iwith_any a (some ⟨w.heap.size + 1, 0, none⟩) c 1 L [(q, s)] h1 (fun e => by cases e) hl (by simp) _ (hr.below hb0) hone)
  have HX0 : Hid (((w.alloc (.cells (mcells q s) 39)).alloc (.cells (mcells q s) 39)).heap[w.heap.size]? = some (.cells (mcells q s) 39 (0, 0))) := Lib.hid ((halloc_lt _ _ _ (by simp)).trans (halloc_at _ _ _ rfl))
  have HB0 := Lib.hid hb0
  have HNIL := Lib.hid fun (z : World) => nil_word (w := z) wq ws
  simp only [one_len] at HS
  clear hr hb0 hone
  simp only [mv, mcells] at HS HX0 HB0 HNIL ⊢
  go_enter Try.func30, Try.ntmps30
  go_wp2_with fail
  refine HS.out.mono ?_
  rintro e w1 ⟨hb, ⟨hc, rfl⟩ | ⟨hc, hc2, hwb, hg, gE, cE, b, l, rfl, hput, hmap, hmws, hI⟩⟩
  · have HB := Lib.hid (HB0.out.trans (hb.mono (by simp; omega)))
    have hx := (hb.block w.heap.size (by simp; omega)).trans HX0.out
    have HX := Lib.hid hx
    have HN := Lib.hid (wfL_bad hc)
    have hsx : w.heap.size < w1.heap.size := (Array.getElem?_eq_some_iff.1 hx).1
    obtain ⟨x0, x1, x2, x3, x4, x5⟩ := blk6 hx
    have hlk := HNIL.out
    clear hb hc hx
    go_wp2_with fail
    go_ret2
    rw [HN.out]
    exact ⟨none, 0, rfl, ⟨by simp, Or.inl rfl⟩, HB.out.alloc HB.out.size _⟩
  · have HB := Lib.hid (HB0.out.trans (hb.mono (by simp; omega)))
    have hx := (hb.block w.heap.size (by simp; omega)).trans HX0.out
    have hsx : w.heap.size < w1.heap.size := (Array.getElem?_eq_some_iff.1 hx).1
    obtain ⟨x0, x1, x2, x3, x4, x5⟩ := blk6 hx
    have hO := (chk_good (chk_good2 hc2)).2 0 (by simp)
    have hq : q = fst0 L := hO.1
    have hs : isB q s = true := hO.2
    have hin : ecd s ∈ (cfin (fst0 L) (codes L)).E := by
      unfold witB at hwb
      simp only [List.all_cons, List.all_nil, Bool.and_true, decide_eq_true_iff] at hwb
      exact (srtE_mem _ _).1 hwb
    obtain ⟨j, hj, ej⟩ := List.mem_iff_getElem.1 hin
    have hje : (cfin (fst0 L) (codes L)).E.getD j 0 = ecd s := by rw [List.getD_eq_getElem?_getD, List.getElem?_eq_getElem hj]; exact ej
    obtain ⟨u, hu, ho⟩ := hmws.row j hj
    have hwl : wfL L q s = (cfin (fst0 L) (codes L)).W.getD j [] := by rw [wfL_good hc, ← hje, wofL_at hI.nd hj]
    rw [hje] at hu
    have hlen : ((cfin (fst0 L) (codes L)).W.getD j []).length ≤ 2000000 := by have := hI.wl j; have := hI.top; omega
    rw [← hwl] at ho hlen
    have hlk := look_word hmap (vld_ecd (by rw [← hq]; exact hs)) hmws.nd hu
    have hlk2 : ∀ x : World, Below w1.heap.size w1 x → (Instr.lookup 69 (.map (some b)) (mv q s) false).run Try.prog x = .ok u x := fun x hx => by
      have := hlk x hx
      rw [← hq] at this
      have e : mv q (dcd (ecd s)) = mv q s := congrArg Value.agg (mcells_ecd hs)
      rw [e] at this
      exact this
    obtain ⟨au, cu, rfl, hrd⟩ := own_rd ho hlen
    have hlk3 := hlk2 _ ((Below.refl _ _).alloc (Nat.le_refl _) (.cells #[.slice (some ⟨gE, 0, none⟩) (elsK L).length cE, .map (some b)] 71))
    have HRD := Lib.hid hrd
    have HC := Lib.hid hc
    clear hb hx hO hq hs hin hj ej hje hu ho hwl hlen hlk hlk2 hput hmap hmws hI hc hc2 hwb hg HNIL
    simp only [mv, mcells] at hlk3
    go_wp2_with fail
    go_ret2
    exact ⟨au, cu, by rw [HC.out]; rfl, (HRD.out.mono (by simp; omega)).below ((Below.refl _ _).alloc (Nat.le_refl _) _), HB.out.alloc HB.out.size _⟩

set_option maxRecDepth 100000 in
set_option maxHeartbeats 2000000 in
theorem swfor_any (a : Option Addr) (c : Nat) (L : List MapN) (q : Int) (s : Nat → Int) (_ : (Lit.int .i64 q).wf = true) (_ : ∀ i, i < 5 → (Lit.int .i64 (s i)).wf = true) (hl : L.length ≤ 1048576) (w : World) (hr : InRowM w a L) :
    Calls Try.prog 28 #[.slice a L.length c, mv q s] w (RetRow w.heap.size (wfL L q s) (witC L [(q, s)]) w) := by
  have hb0 : Below w.heap.size w ((w.alloc (.cells (mcells q s) 39)).alloc (.cells (mcells q s) 39)) := ((Below.refl _ _).alloc (Nat.le_refl _) _).alloc (by simp) _
  have hone : InRowM ((w.alloc (.cells (mcells q s) 39)).alloc (.cells (mcells q s) 39)) (some ⟨w.heap.size + 1, 0, none⟩) [(q, s)] := Or.inr ⟨w.heap.size + 1, 0, rfl, by simp, at_one (by have := halloc_at (w.alloc (.cells (mcells q s) 39)) (.cells (mcells q s) 39) _ rfl; simpa using this)⟩
  have HGV := Lib.hid (given_any a (some ⟨w.heap.size + 1, 0, none⟩) c 1 L [(q, s)] hl (by simp) _ (hr.below hb0) hone)
  have HX0 : Hid (((w.alloc (.cells (mcells q s) 39)).alloc (.cells (mcells q s) 39)).heap[w.heap.size]? = some (.cells (mcells q s) 39 (0, 0))) := Lib.hid ((halloc_lt _ _ _ (by simp)).trans (halloc_at _ _ _ rfl))
  have HR := Lib.hid (hr.below hb0)
  have HB0 := Lib.hid hb0
  simp only [one_len] at HGV
  clear hr hb0 hone
  by_cases hc : chkC L [(q, s)] = 0
  · have hgood := (chk_good hc).1
    have hO := (chk_good hc).2 0 (by simp)
    have hq : q = fst0 L := hO.1
    have hs : isB q s = true := hO.2
    have h1 := hgood.p1
    have h5 := hgood.p5
    have hn1 := hgood.n1
    have hn1' : (0 : Int) < (L.length : Int) := by omega
    have hGV := HGV.out
    rw [hc] at hGV
    have HGV := Lib.hid hGV
    have HRN := Lib.hid (inRow_num hgood HR.out)
    have HVL := Lib.hid hgood.vl
    have HCL := Lib.hid fun (w : World) (h : InRowM w a (mE (fst0 L) (codes L))) => sclo_any h1 h5 hgood.vl (by rw [codes_len]; exact hgood.n6) a c w h
    have hel : elsC L [(q, s)] = if 300 < (cfin (fst0 L) (codes L)).E.length then 3 else 0 := by unfold elsC; rw [if_pos hc]
    have HEL := Lib.hid hel
    have hwv : elsC L [(q, s)] = 0 → witC L [(q, s)] = (if ecd s ∈ (cfin (fst0 L) (codes L)).E then 0 else 4) := fun h => by
      unfold witC witB
      rw [if_pos h]
      simp only [List.all_cons, List.all_nil, Bool.and_true, decide_eq_true_iff]
      have : ecd s ∈ elsK L ↔ ecd s ∈ (cfin (fst0 L) (codes L)).E := srtE_mem _ _
      by_cases hx : ecd s ∈ (cfin (fst0 L) (codes L)).E
      · rw [if_pos hx, if_pos (this.2 hx)]
      · rw [if_neg hx, if_neg (fun h => hx (this.1 h))]
    have HWV := Lib.hid hwv
    have HWB := Lib.hid fun h => witC_bad (L := L) (O := [(q, s)]) h
    have hwf0 : wfL L q s = if witC L [(q, s)] = 0 then wofL (cfin (fst0 L) (codes L)).E (cfin (fst0 L) (codes L)).W (ecd s) else [] := rfl
    have HWF := Lib.hid hwf0
    have hcv := vld_ecd hs
    have HCV := Lib.hid hcv
    have hcells := mcells_ecd hs
    simp only [codes_len] at HCL
    have hl0 : (L.getD 0 z0).1 = fst0 L := rfl
    obtain ⟨b0, o0, rfl, hb0', hat0⟩ := HR.out.at0 (by omega)
    obtain ⟨x0, _, _, _, _, _⟩ := hat0
    rw [hl0] at x0
    simp only [mv, mcells] at HGV HB0 HX0 ⊢
    have HCC : Hid (mcells q s = mcells q (dcd (ecd s))) := Lib.hid hcells.symm
    simp only [mcells] at HCC
    clear hc hgood hel hl0 hO hs hwv hwf0 hcv hcells
    generalize elsC L [(q, s)] = EC at *
    generalize wfL L q s = WF at *
    generalize witC L [(q, s)] = WC at *
    generalize codes L = gs at *
    generalize fst0 L = p at *
    subst hq
    generalize ecd s = x at *
    go_enter Try.func28, Try.ntmps28
    go_wp2_with fail
    refine HGV.out.mono ?_
    rintro e w1 ⟨rfl, hb⟩
    have hx1 := (hb.cell (p := ⟨b0, o0, none⟩) hb0').trans x0
    have hb1 : b0 < w1.heap.size := Nat.lt_of_lt_of_le hb0' hb.size
    have HB1 := Lib.hid (HB0.out.trans (hb.mono (by simp; omega)))
    have hX1 := (hb.block w.heap.size (by simp; omega)).trans HX0.out
    rw [HCC.out] at hX1
    have HX1 := Lib.hid hX1
    clear hX1
    have HR1 := Lib.hid (HRN.out.below hb)
    have hs1 : w.heap.size + 1 < w1.heap.size := by have := hb.size; simp at this; omega
    clear hb x0 HGV
    go_wp2_with fail
    refine (HCL.out _ HR1.out).mono ?_
    rintro e w2 ⟨hb2, hrf, htf, ⟨h300, rfl⟩ | ⟨h300, gO, capO, vW, us, rfl, hown, hwds⟩⟩
    · have HB2 := Lib.hid hb2
      have e1 : EC = 3 := by rw [HEL.out, if_pos h300]
      have e2 : WC = 3 := by rw [HWB.out (by rw [e1]; decide), e1]
      have e3 : WF = [] := by rw [HWF.out, if_neg (by rw [e2]; decide)]
      subst e3 e2
      clear hb2 hrf htf h300
      go_wp2_with fail
      go_ret2
      exact ⟨none, 0, rfl, ⟨by simp, Or.inl rfl⟩, HB1.out.trans (HB2.out.mono (by omega))⟩
    · have hI := hrf.inv h1 h5 HVL.out
      have HOW := Lib.hid hown
      have HWD := Lib.hid hwds
      have HIV := Lib.hid hI.vl
      have HIN := Lib.hid hI.nd
      have HIW := Lib.hid hI.wl
      have HB2 := Lib.hid hb2
      have hlen := hI.len
      have HLEN := Lib.hid hlen
      have htop : (cfin q gs).E.length ≤ 300 := by omega
      have HBX : Hid (Below w.heap.size w w2) := Lib.hid (HB1.out.trans (hb2.mono (by omega)))
      have e1 : EC = 0 := by rw [HEL.out, if_neg (by omega)]
      have HWV2 := Lib.hid (HWV.out e1)
      have hx2 := (hb2.block w.heap.size (by omega)).trans HX1.out
      have HX2 := Lib.hid hx2
      have hs2 : w.heap.size < w2.heap.size := by have := hb2.size; omega
      clear hown hb2 hrf htf hwds hI e1 HEL HWV hx2 hlen
      generalize (cfin q gs).E = E at *
      generalize (cfin q gs).W = W at *
      go_wp2_with fail
      go_loopw [10] (fun i wr => ∃ j : Nat, j ≤ E.length ∧ i = .int .i64 j ∧ Below w2.heap.size w2 wr ∧ ∀ m, m < j → E.getD m 0 ≠ x) (fun i _ => E.length - (intOf i).toNat)
      case atStart => exact ⟨0, by omega, rfl, Below.refl _ _, fun m hm => by omega⟩
      case round =>
        obtain ⟨j, hj, rfl, hbl, hal⟩ := hrel
        have HBL := Lib.hid hbl
        have HAL := Lib.hid hal
        have hsz := hbl.size
        have hxr := (hbl.block w.heap.size hs2).trans HX2.out
        obtain ⟨y0, y1, y2, y3, y4, y5⟩ := blk6 hxr
        clear hbl hal hxr
        by_cases hje : j < E.length
        · have hje' : (j : Int) < (E.length : Int) := by omega
          have hjw : j < W.length := by have := HLEN.out; omega
          obtain ⟨_, hgO, hcO⟩ := ownM_at (ownM_bel HOW.out HBL.out) (by rw [mE_len]; omega)
          have hx := hcO j (by rw [mE_len]; exact hje)
          rw [mE_at q E j hje] at hx
          unfold AtM at hx
          rw [Nat.zero_add] at hx
          have hev := HIV.out (E.getD j 0) (getD_mem hje)
          have heq := fun w => runEqM q (dcd (E.getD j 0)) q (dcd x) w
          simp only [dcd_cells hev HCV.out] at heq
          obtain ⟨gW, capW, rfl, hcW⟩ := wds_open (HWD.out.below HBL.out) (by omega)
          have hcj := hcW j hjw
          obtain ⟨gw, cw, eu, hou⟩ := (HWD.out.below HBL.out).row j hjw
          rw [eu] at hcj
          have hjW' : (j : Int) < (W.length : Int) := by omega
          have hwl := HIW.out j
          obtain ⟨aw, cw2, ew, hrd⟩ := own_rd hou (by omega)
          injection ew with ew1 _ ew2
          subst ew1 ew2
          have HRD := Lib.hid hrd
          obtain ⟨x0, x1, x2, x3, x4, x5⟩ := hx
          simp only [] at x0 x1 x2 x3 x4 x5
          have HWA := Lib.hid (wofL_at (W := W) HIN.out hje)
          have HMEM := Lib.hid (getD_mem hje)
          have HS2 := Lib.hid fun (e : E.getD j 0 ≠ x) (m : Nat) (hm : m < j + 1) => (show E.getD m 0 ≠ x by
            by_cases h : m = j
            · rw [h]; exact e
            · exact HAL.out m (by omega))
          clear hev hcW eu hou hrd hcO
          generalize E.getD j 0 = y at *
          by_cases hyx : y = x
          · rw [decide_eq_true hyx] at heq
            subst hyx
            have e2 : WC = 0 := by rw [HWV2.out, if_pos HMEM.out]
            have e3 : WF = W.getD j [] := by rw [HWF.out, if_pos e2, HWA.out]
            subst e3 e2
            go_wp2_with fail
            go_quiet (fail)
            go_wp2_with fail
            go_ret2
            refine ⟨some ⟨gw, 0, none⟩, cw, ?_, (HRD.out.mono (by omega)).below (by first | exact Below.refl _ _ | exact below_drewN (Below.refl _ _) _), by first | exact HBX.out.trans (HBL.out.mono (by omega)) | exact below_drewN (HBX.out.trans (HBL.out.mono (by omega))) _⟩
            rw [List.getD_eq_getElem?_getD, List.getElem?_eq_getElem hjw]; rfl
          · rw [decide_eq_false hyx] at heq
            go_wp2_with fail
            go_quiet (fail)
            go_wp2_with fail
            go_roundw
            case rel => exact ⟨j + 1, by omega, by go_num, by first | exact HBL.out | exact below_drewN HBL.out _, HS2.out hyx⟩
            case measure => simp [intOf]; omega
        · obtain rfl : j = E.length := by omega
          have hno : x ∉ E := fun h => by
            obtain ⟨i, hi, e⟩ := List.mem_iff_getElem.1 h
            exact HAL.out i hi (by rw [List.getD_eq_getElem?_getD, List.getElem?_eq_getElem hi]; exact e)
          have e2 : WC = 4 := by rw [HWV2.out, if_neg hno]
          have e3 : WF = [] := by rw [HWF.out, if_neg (by rw [e2]; decide)]
          subst e3 e2
          go_wp2_with fail
          go_ret2
          exact ⟨none, 0, rfl, ⟨by simp, Or.inl rfl⟩, HBX.out.trans (HBL.out.mono (by omega))⟩
  · have e1 : elsC L [(q, s)] = chkC L [(q, s)] := elsC_bad hc
    have e2 : witC L [(q, s)] = chkC L [(q, s)] := by rw [witC_bad (by rw [e1]; exact hc), e1]
    have e3 := wfL_bad (L := L) (q := q) (s := s) (by rw [e2]; exact hc)
    rw [e3, e2]
    have hcb : (chkC L [(q, s)] != 0) = true := by simpa using hc
    clear e1 e2 e3
    simp only [mv, mcells] at HGV HB0 ⊢
    generalize chkC L [(q, s)] = C at *
    go_enter Try.func28, Try.ntmps28
    go_wp2_with fail
    refine HGV.out.mono ?_
    rintro e w1 ⟨rfl, hb⟩
    have HB := Lib.hid (HB0.out.trans (hb.mono (by simp; omega)))
    clear hb
    go_wp2_with fail
    go_ret2
    exact ⟨none, 0, rfl, ⟨by simp, Or.inl rfl⟩, HB.out⟩

end Go.Proofs.Ytpkapgidpgmdoaa
