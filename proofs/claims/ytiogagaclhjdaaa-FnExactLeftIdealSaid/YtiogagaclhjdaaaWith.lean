/- The contract of impl.monoidWith: the monoid, where the other maps are elements of it. -/
import Derived.Test.YtiogagaclhjdaaaMono
import Derived.Test.YtiogagaclhjdaaaWord
namespace Go.Proofs.Ytiogagaclhjdaaa
open Go.RowKit Go.Maps

/-- Whether these maps are elements. -/
noncomputable def witB (L O : List MapN) : Bool := O.all fun x => decide (ecd x.2 ∈ elsK L)
/-- The code of a list of maps with maps beside it that have to be elements. -/
noncomputable def witC (L O : List MapN) : Int := if elsC L O = 0 then (if witB L O = true then 0 else 4) else elsC L O

theorem witC_bad {L O : List MapN} (h : elsC L O ≠ 0) : witC L O = elsC L O := by unfold witC; rw [if_neg h]
theorem witC_0 {L O : List MapN} (h : elsC L O = 0) (h2 : witB L O = true) : witC L O = 0 := by unfold witC; rw [if_pos h, if_pos h2]
theorem witC_4 {L O : List MapN} (h : elsC L O = 0) (h2 : witB L O = false) : witC L O = 4 := by unfold witC; rw [if_pos h, if_neg (by rw [h2]; decide)]

theorem inRow_numO {w : World} {a : Option Addr} {p : Int} {O : List MapN} (hO : ∀ k, k < O.length → (O.getD k z0).1 = p ∧ isB (O.getD k z0).1 (O.getD k z0).2 = true) (h : InRowM w a O) : InRowM w a (mE p (codes O)) := by
  rcases h with h0 | ⟨b, off, ha, hlt, hc⟩
  · subst h0; exact Or.inl rfl
  · refine Or.inr ⟨b, off, ha, hlt, fun j hj => ?_⟩
    rw [mE_len, codes_len] at hj
    rw [mE_at _ _ j (by rw [codes_len]; exact hj), codes_at O j hj, ← (hO j hj).1]
    exact at_num (hO j hj).2 (hc j hj)

theorem chk_good2 {L O : List MapN} (h : elsC L O = 0) : chkC L O = 0 := by
  unfold elsC at h
  by_cases hc : chkC L O = 0
  · exact hc
  · rw [if_neg hc] at h; exact absurd h hc

theorem witB_false {L O : List MapN} (k : Nat) (hk : k < O.length) (h : (codes O).getD k 0 ∉ elsK L) : witB L O = false := by
  unfold witB
  rw [List.all_eq_false]
  refine ⟨O[k], List.getElem_mem hk, ?_⟩
  rw [codes_at O k hk, List.getD_eq_getElem?_getD, List.getElem?_eq_getElem hk] at h
  simpa using h

theorem witB_true {L O : List MapN} (h : ∀ k, k < O.length → (codes O).getD k 0 ∈ elsK L) : witB L O = true := by
  unfold witB
  rw [List.all_eq_true]
  intro x hx
  obtain ⟨k, hk, rfl⟩ := List.getElem_of_mem hx
  have := h k hk
  rw [codes_at O k hk, List.getD_eq_getElem?_getD, List.getElem?_eq_getElem hk] at this
  simpa using this

/-- What impl.monoidWith leaves. -/
def RetWith (L O : List MapN) (w : World) (e : Ending) (w' : World) : Prop :=
  Below w.heap.size w w' ∧
    ((witC L O ≠ 0 ∧ e = .returned (.tuple #[.agg #[.slice none 0 0, .map none], .int .i64 (witC L O)])) ∨
     (witC L O = 0 ∧ elsC L O = 0 ∧ witB L O = true ∧ GoodL L ∧ ∃ gE cE b l, e = .returned (.tuple #[.agg #[.slice (some ⟨gE, 0, none⟩) (elsK L).length cE, .map (some b)], .int .i64 0]) ∧
       PutRow w' w.heap.size gE cE (mE (fst0 L) (elsK L)) ∧ MapN2 w' (fst0 L) b (elsK L).length l ∧ Mws w' w.heap.size (cfin (fst0 L) (codes L)).E (cfin (fst0 L) (codes L)).W l ∧ Cinv (fst0 L) (codes L) (cfin (fst0 L) (codes L))))

theorem Mws.below {w w' : World} {B : Nat} {E : List Nat} {W : List (List Int)} {l : List (Nat × Value)} (h : Mws w B E W l) (hb : Below w.heap.size w w') : Mws w' B E W l :=
  ⟨h.mem, h.nd, fun j hj => by obtain ⟨u, hu, ho⟩ := h.row j hj; exact ⟨u, hu, own_bel ho hb⟩⟩

theorem Mws.mono {w : World} {B B' : Nat} {E : List Nat} {W : List (List Int)} {l : List (Nat × Value)} (h : Mws w B E W l) (hb : B' ≤ B) : Mws w B' E W l :=
  ⟨h.mem, h.nd, fun j hj => by obtain ⟨u, hu, ho⟩ := h.row j hj; exact ⟨u, hu, World.ownsRow.mono ho hb⟩⟩

set_option maxRecDepth 100000 in
set_option maxHeartbeats 2000000 in
theorem iwith_any (a1 a2 : Option Addr) (c1 c2 : Nat) (L O : List MapN) (h1 : a1 = none → c1 = 0) (h2 : a2 = none → c2 = 0) (hl1 : L.length ≤ 1048576) (hl2 : O.length ≤ 900000) (w : World) (hr1 : InRowM w a1 L) (hr2 : InRowM w a2 O) :
    Calls Try.prog 48 #[.slice a1 L.length c1, .slice a2 O.length c2] w (RetWith L O w) := by
  have hb0 : Below w.heap.size w (w.alloc (.cells #[.slice none 0 0, .map none] 48)) := (Below.refl _ _).alloc (Nat.le_refl _) _
  have HS := Lib.hid (mono_any a1 a2 c1 c2 L O h1 h2 hl1 hl2 _ (hr1.below hb0) (hr2.below hb0))
  have HR2 := Lib.hid (hr2.below hb0)
  have HB0 := Lib.hid hb0
  clear hr1 hr2 hb0
  go_enter Try.func48, Try.ntmps48
  go_wp2_with fail
  refine HS.out.mono ?_
  rintro e w1 ⟨hb, ⟨hc, rfl⟩ | ⟨hc, hg, gE, cE, b, l, rfl, hput, hmap, hmws, hI⟩⟩
  · have e1 := witC_bad hc
    have hne : witC L O ≠ 0 := by rw [e1]; exact hc
    rw [← e1] at hc ⊢
    have HNE := Lib.hid hne
    have HRES1 : Hid (w1.heap[w.heap.size]? = some (.cells #[.slice none 0 0, .map none] 48 (0, 0))) := Lib.hid ((hb.block _ (by simp)).trans (halloc_at _ _ _ rfl))
    have HB1 := Lib.hid (HB0.out.trans (hb.mono (by simp)))
    have hs1 : w.heap.size < w1.heap.size := by have := hb.size; simp at this; omega
    have hcb : (witC L O != 0) = true := by simpa using hne
    have hr3 : (w1.alloc (.cells #[.slice none 0 0, .map none] 48)).heap[w.heap.size]? = some (.cells #[.slice none 0 0, .map none] 48 (0, 0)) := (halloc_lt _ _ _ hs1).trans HRES1.out
    have hfr := blk_free hr3
    have d0 := Joins.cell_of_block hr3 0
    have d1 := Joins.cell_of_block hr3 1
    simp only [List.getElem?_toArray, List.getElem?_cons_zero, List.getElem?_cons_succ] at d0 d1
    have hbr := Joins.block_setCell (Joins.block_setCell hr3 (i := 0) (.slice none 0 0)) (i := 1) (.map none)
    have b0 := Joins.cell_of_block hbr 0
    have b1 := Joins.cell_of_block hbr 1
    have hbz : Below w.heap.size w (w1.alloc (.cells #[.slice none 0 0, .map none] 48)) := HB1.out.alloc (by omega) _
    clear hb hr3 hne hc e1 hs1
    generalize hC : witC L O = C at *
    have HCE := Lib.hid hC
    clear hC
    go_wp2_with fail
    refine bodyPost_ret (v := .tuple #[.agg #[.slice none 0 0, .map none], .int .i64 C]) (by simp [results, Try.results48, go_sem, b0, b1]) rfl ?_
    exact ⟨(hbz.setCell (Nat.le_refl _) _).setCell (Nat.le_refl _) _, Or.inl ⟨by rw [HCE.out]; exact HNE.out, by rw [HCE.out]⟩⟩
  · have hO := (chk_good (chk_good2 hc)).2
    have hs1 : w.heap.size < w1.heap.size := by have := hb.size; simp at this; omega
    have hba : Below w1.heap.size w1 (w1.alloc (.cells #[.slice (some ⟨gE, 0, none⟩) (elsK L).length cE, .map (some b)] 48)) := (Below.refl _ _).alloc (Nat.le_refl _) _
    have hmx : (w1.alloc (.cells #[.slice (some ⟨gE, 0, none⟩) (elsK L).length cE, .map (some b)] 48)).heap[w1.heap.size]? = some (.cells #[.slice (some ⟨gE, 0, none⟩) (elsK L).length cE, .map (some b)] 48 (0, 0)) := halloc_at _ _ _ rfl
    have hres : (w1.alloc (.cells #[.slice (some ⟨gE, 0, none⟩) (elsK L).length cE, .map (some b)] 48)).heap[w.heap.size]? = some (.cells #[.slice none 0 0, .map none] 48 (0, 0)) := (halloc_lt _ _ _ hs1).trans ((hb.block _ (by simp)).trans (halloc_at _ _ _ rfl))
    have HRN := Lib.hid (inRow_numO hO ((HR2.out.below hb).below hba))
    have HBZ : Hid (Below w.heap.size w (w1.alloc (.cells #[.slice (some ⟨gE, 0, none⟩) (elsK L).length cE, .map (some b)] 48))) := Lib.hid ((HB0.out.trans (hb.mono (by simp))).alloc (by omega) _)
    have HPUT : Hid (PutRow _ _ gE cE _) := Lib.hid ((hput.below hba).mono (by simp : w.heap.size + 1 ≤ _))
    have HMAP := Lib.hid (mapN2_below hmap hba)
    have HMWS := Lib.hid (hmws.below hba)
    have HC := Lib.hid hc
    have HG := Lib.hid hg
    have HI := Lib.hid hI
    have HGI : Hid (gE ≠ w.heap.size ∧ b ≠ w.heap.size) := Lib.hid (by
      have h1 := hput.lo
      simp at h1
      refine ⟨by omega, fun e => ?_⟩
      obtain ⟨es, clock, hbm, _⟩ := (mapN2_below hmap hba).1
      have hx := hres
      rw [← e] at hx
      rw [hx] at hbm
      cases hbm)
    have hOv : ∀ k, k < O.length → vld (fst0 L) ((codes O).getD k 0) := fun k hk => by
      rw [codes_at O k hk, ← (hO k hk).1]
      exact vld_ecd (hO k hk).2
    have HOV := Lib.hid hOv
    have HMX := Lib.hid hmx
    have HRES := Lib.hid hres
    have hmem : ∀ c, c ∈ l.map Prod.fst ↔ c ∈ elsK L := fun c => (hmws.mem c).trans (srtE_mem _ _).symm
    have HMEM := Lib.hid hmem
    clear hb hO hc hg hI hput hmap hmws hOv hmx hres hmem HR2
    go_wp2_with fail
    generalize hwz : w1.alloc (.cells #[.slice (some ⟨gE, 0, none⟩) (elsK L).length cE, .map (some b)] 48) = wz at *
    have hsz : w.heap.size ≤ wz.heap.size := HBZ.out.size
    have hsx : w1.heap.size < wz.heap.size := by rw [← hwz]; simp
    clear hwz hba
    go_loopw [9, 22] (fun _ i wr => ∃ k : Nat, k ≤ O.length ∧ i = .int .i64 k ∧ Below wz.heap.size wz wr ∧ ∀ j, j < k → (codes O).getD j 0 ∈ elsK L) (fun _ i _ => O.length - (intOf i).toNat)
    case atStart => exact ⟨0, by omega, rfl, Below.refl _ _, fun j hj => by omega⟩
    case round =>
      obtain ⟨k, hk, rfl, hbr, hal⟩ := hrel
      have HBR := Lib.hid hbr
      have HAL := Lib.hid hal
      have hsr := hbr.size
      clear hbr hal
      by_cases hkl : k < O.length
      · have hkl' : (k : Int) < (O.length : Int) := by omega
        obtain ⟨b1, o1, rfl, hl1, hat1⟩ := (HRN.out.below HBR.out).at6 k (by rw [mE_len, codes_len]; exact hkl)
        rw [mE_at _ _ _ (by rw [codes_len]; exact hkl)] at hat1
        obtain ⟨x0, x1, x2, x3, x4, x5⟩ := hat1
        simp only [] at x0 x1 x2 x3 x4 x5
        have hv := HOV.out k hkl
        have HQ := Lib.hid fun (z : World) (hz : Below wz.heap.size wz z) => mhas_any z hv (mapN2_below HMAP.out hz) (bel_at hz HMX.out)
        have HM := Lib.hid (HMEM.out ((codes O).getD k 0))
        have HF := Lib.hid fun e => witB_false (L := L) (O := O) k hkl e
        have HS2 := Lib.hid fun (e : (codes O).getD k 0 ∈ elsK L) (j : Nat) (hj : j < k + 1) => (show (codes O).getD j 0 ∈ elsK L by
          by_cases h : j = k
          · rw [h]; exact e
          · exact HAL.out j (by omega))
        clear hv
        generalize (codes O).getD k 0 = x at *
        simp only [mv, mcells] at HQ
        have hbx : Below wz.heap.size wz (wr.alloc (.cells (mcells (fst0 L) (dcd x)) 31)) := HBR.out.alloc hsr _
        have HBX := Lib.hid hbx
        have hmz := bel_at hbx HMX.out
        clear hbx
        go_wp2_with fail
        refine (HQ.out _ HBX.out).mono ?_
        rintro e w3 ⟨rfl, hb3⟩
        have HB3 : Hid (Below wz.heap.size wz w3) := Lib.hid (HBX.out.trans (hb3.mono (by simp; omega)))
        clear hb3 x0 x1 x2 x3 x4 x5 hmz
        by_cases hx : x ∈ l.map Prod.fst
        · have HX := Lib.hid (HM.out.1 hx)
          rw [decide_eq_true hx]
          clear hx
          go_wp2_with fail
          go_roundw
          case rel => exact ⟨k + 1, by omega, by go_num, HB3.out, HS2.out HX.out⟩
          case measure => simp [intOf]; omega
        · have hx2 : x ∉ elsK L := fun h => hx (HM.out.2 h)
          have e4 := witC_4 HC.out (HF.out hx2)
          have E4 := Lib.hid e4
          rw [decide_eq_false hx]
          have hr3 := bel_at HB3.out HRES.out
          have hfr := blk_free hr3
          have d0 := Joins.cell_of_block hr3 0
          have d1 := Joins.cell_of_block hr3 1
          simp only [List.getElem?_toArray, List.getElem?_cons_zero, List.getElem?_cons_succ] at d0 d1
          have hbr := Joins.block_setCell (Joins.block_setCell hr3 (i := 0) (.slice none 0 0)) (i := 1) (.map none)
          have b0 := Joins.cell_of_block hbr 0
          have b1 := Joins.cell_of_block hbr 1
          have hbz : Below w.heap.size w w3 := HBZ.out.trans (HB3.out.mono hsz)
          clear hr3 hx hx2 e4
          go_wp2_with fail
          refine bodyPost_ret (v := .tuple #[.agg #[.slice none 0 0, .map none], .int .i64 4]) (by simp [results, Try.results48, go_sem, b0, b1]) rfl ?_
          exact ⟨(hbz.setCell (Nat.le_refl _) _).setCell (Nat.le_refl _) _, Or.inl ⟨by rw [E4.out]; decide, by rw [E4.out]⟩⟩
      · obtain rfl : k = O.length := by omega
        have e0 := witB_true HAL.out
        have ec := witC_0 HC.out e0
        have E0 := Lib.hid e0
        have EC := Lib.hid ec
        have hr3 := bel_at HBR.out HRES.out
        have hm3 := bel_at HBR.out HMX.out
        have HPUT3 := Lib.hid (HPUT.out.below HBR.out)
        have HMAP3 := Lib.hid (mapN2_below HMAP.out HBR.out)
        have HMWS3 := Lib.hid (HMWS.out.below HBR.out)
        have hfr := blk_free hr3
        have d0 := Joins.cell_of_block hr3 0
        have d1 := Joins.cell_of_block hr3 1
        have m0 := Joins.cell_of_block hm3 0
        have m1 := Joins.cell_of_block hm3 1
        simp only [List.getElem?_toArray, List.getElem?_cons_zero, List.getElem?_cons_succ] at d0 d1 m0 m1
        have hne : w1.heap.size ≠ w.heap.size := by omega
        have HR3 := Lib.hid hr3
        have HB3 : Hid (Below w.heap.size w wr) := Lib.hid (HBZ.out.trans (HBR.out.mono hsz))
        clear hr3 hm3 e0 ec
        generalize hnE : (elsK L).length = nE at *
        have HNE := Lib.hid hnE
        clear hnE
        go_wp2_with fail
        have hbr := Joins.block_setCell (Joins.block_setCell HR3.out (i := 0) (.slice (some ⟨gE, 0, none⟩) nE cE)) (i := 1) (.map (some b))
        have b0 := Joins.cell_of_block hbr 0
        have b1 := Joins.cell_of_block hbr 1
        have ht := turn2 wr w.heap.size (.slice (some ⟨gE, 0, none⟩) nE cE) (.map (some b))
        refine bodyPost_ret (v := .tuple #[.agg #[.slice (some ⟨gE, 0, none⟩) nE cE, .map (some b)], .int .i64 0]) (by simp [results, Try.results48, go_sem, b0, b1]) rfl ?_
        refine ⟨(HB3.out.setCell (Nat.le_refl _) _).setCell (Nat.le_refl _) _, Or.inr ⟨EC.out, HC.out, E0.out, HG.out, gE, cE, b, l, by rw [HNE.out], ?_, ?_, ⟨HMWS3.out.mem, HMWS3.out.nd, fun j hj => ?_⟩, HI.out⟩⟩
        · exact (HPUT3.out.block (ht.block gE HPUT3.out.hi HGI.out.1)).mono (by omega)
        · rw [HNE.out]
          exact ht.map HMAP3.out HGI.out.2
        · obtain ⟨u, hu, ho⟩ := HMWS3.out.row j hj
          exact ⟨u, hu, ht.own (World.ownsRow.mono ho (by simp)) (fun r e => by have := (ho.lt r e).1; simp at this; omega)⟩

end Go.Proofs.Ytiogagaclhjdaaa
