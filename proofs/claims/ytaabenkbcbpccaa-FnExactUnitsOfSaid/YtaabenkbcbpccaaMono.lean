/- The contract of impl.monoidOf: the elements in order, or the code. -/
import Derived.Test.YtaabenkbcbpccaaMeet
import Derived.Test.YtaabenkbcbpccaaSort
import Derived.Shelf.SlSortCmp.NoneTotal
namespace Go.Proofs.Ytaabenkbcbpccaa
open Go.RowKit Go.Maps

theorem sort_none (c : Nat) (fv : Value) (w : World) :
    Calls Try.prog 64 #[.slice none 0 c, fv] w fun e w' => e = .returned (.tuple #[]) ∧ w' = w := by
  have h := AnyF.slices_SortFunc_none sortM none c fv w
  exact h

/-- What impl.monoidOf leaves. -/
def RetMono (L O : List MapN) (w : World) (e : Ending) (w' : World) : Prop :=
  Below w.heap.size w w' ∧
    ((elsC L O ≠ 0 ∧ e = .returned (.tuple #[.agg #[.slice none 0 0, .map none], .int .i64 (elsC L O)])) ∨
     (elsC L O = 0 ∧ GoodL L ∧ ∃ gE cE b l, e = .returned (.tuple #[.agg #[.slice (some ⟨gE, 0, none⟩) (elsK L).length cE, .map (some b)], .int .i64 0]) ∧
       PutRow w' w.heap.size gE cE (mE (fst0 L) (elsK L)) ∧ MapN2 w' (fst0 L) b (elsK L).length l ∧ Mws w' w.heap.size (cfin (fst0 L) (codes L)).E (cfin (fst0 L) (codes L)).W l ∧ Cinv (fst0 L) (codes L) (cfin (fst0 L) (codes L))))

theorem elsC_bad {L O : List MapN} (h : chkC L O ≠ 0) : elsC L O = chkC L O := by unfold elsC; rw [if_neg h]

set_option maxRecDepth 100000 in
set_option maxHeartbeats 2000000 in
theorem mono_any (a1 a2 : Option Addr) (c1 c2 : Nat) (L O : List MapN) (h1 : a1 = none → c1 = 0) (h2 : a2 = none → c2 = 0) (hl1 : L.length ≤ 1048576) (hl2 : O.length ≤ 900000) (w : World) (hr1 : InRowM w a1 L) (hr2 : InRowM w a2 O) :
    Calls Try.prog 51 #[.slice a1 L.length c1, .slice a2 O.length c2] w (RetMono L O w) := by
  have hb0 : Below w.heap.size w (w.alloc (.cells #[.slice none 0 0, .map none] 72)) := (Below.refl _ _).alloc (Nat.le_refl _) _
  have HK := Lib.hid (check_any a1 a2 c1 c2 L O h1 h2 hl1 hl2 _ (hr1.below hb0) (hr2.below hb0))
  have HR := Lib.hid (hr1.below hb0)
  have HB0 := Lib.hid hb0
  clear hr1 hr2 hb0
  by_cases hc : chkC L O = 0
  · have hgood := (chk_good hc).1
    have hel : elsC L O = if 300 < (cfin (fst0 L) (codes L)).E.length then 3 else 0 := by unfold elsC; rw [if_pos hc]
    have hHK := HK.out
    rw [hc] at hHK
    have HK := Lib.hid hHK
    have HGOOD := Lib.hid hgood
    have HEL := Lib.hid hel
    have hn1 := hgood.n1
    have hn1' : (0 : Int) < (L.length : Int) := by omega
    have HMT := Lib.hid fun (z : World) (h : InRowM z a1 (mE (fst0 L) (codes L))) => meet_any hgood.p1 hgood.p5 hgood.vl (by rw [codes_len]; exact hgood.n6) a1 c1 z h
    simp only [codes_len] at HMT
    clear hc hHK hgood hel
    obtain ⟨b0, o0, rfl, hb0, hat0⟩ := HR.out.at0 (by omega)
    obtain ⟨x0, _, _, _, _, _⟩ := hat0
    have hl0 : (L.getD 0 z0).1 = fst0 L := rfl
    rw [hl0] at x0
    clear hl0
    go_enter Try.func51, Try.ntmps51
    go_wp2_with fail
    refine HK.out.mono ?_
    rintro e w1 ⟨rfl, hb⟩
    have hx1 := (hb.cell (p := ⟨b0, o0, none⟩) hb0).trans x0
    have HB1 := Lib.hid (HB0.out.trans (hb.mono (by simp)))
    have HRES1 : Hid (w1.heap[w.heap.size]? = some (.cells #[.slice none 0 0, .map none] 72 (0, 0))) := Lib.hid ((hb.block _ (by simp)).trans (halloc_at _ _ _ rfl))
    have HRN := Lib.hid (inRow_num HGOOD.out (HR.out.below hb))
    have hs1 : w.heap.size < w1.heap.size := by have := hb.size; simp at this; omega
    clear hb x0
    go_wp2_with fail
    refine (HMT.out _ HRN.out).mono ?_
    rintro e w2 ⟨hb2, hrf, htf, ⟨h300, rfl⟩ | ⟨h300, gE, cE, b, l, rfl, hown, hmap, hbm, hmws⟩⟩
    · have HB2 := Lib.hid hb2
      have hs2 := hb2.size
      have e3 : elsC L O = 3 := by rw [HEL.out, if_pos h300]
      have HE3 := Lib.hid e3
      have HRES2 : Hid (w2.heap[w.heap.size]? = some (.cells #[.slice none 0 0, .map none] 72 (0, 0))) := Lib.hid ((hb2.block _ hs1).trans HRES1.out)
      clear hb2 hrf htf h300 e3
      go_wp2_with fail
      refine (sort_none _ _ _).mono ?_
      rintro e w3 ⟨rfl, rfl⟩
      have hr3 : (w2.alloc (.cells #[.slice none 0 0, .map none] 72)).heap[w.heap.size]? = some (.cells #[.slice none 0 0, .map none] 72 (0, 0)) := (halloc_lt _ _ _ (by omega)).trans HRES2.out
      have hfr := blk_free hr3
      have d0 := Joins.cell_of_block hr3 0
      have d1 := Joins.cell_of_block hr3 1
      simp only [List.getElem?_toArray, List.getElem?_cons_zero, List.getElem?_cons_succ] at d0 d1
      have hbr := Joins.block_setCell (Joins.block_setCell hr3 (i := 0) (.slice none 0 0)) (i := 1) (.map none)
      have b0 := Joins.cell_of_block hbr 0
      have b1 := Joins.cell_of_block hbr 1
      have hbz : Below w.heap.size w (w2.alloc (.cells #[.slice none 0 0, .map none] 72)) := (HB1.out.trans (HB2.out.mono (by omega))).alloc (by omega) _
      go_wp2_with fail
      refine bodyPost_ret (v := .tuple #[.agg #[.slice none 0 0, .map none], .int .i64 3]) (by simp [results, Try.results51, go_sem, b0, b1]) rfl ?_
      exact ⟨(hbz.setCell (Nat.le_refl _) _).setCell (Nat.le_refl _) _, Or.inl ⟨by rw [HE3.out]; decide, by rw [HE3.out]⟩⟩
    · have hI := hrf.inv HGOOD.out.p1 HGOOD.out.p5 HGOOD.out.vl
      have HI := Lib.hid hI
      have HB2 := Lib.hid hb2
      have hs2 := hb2.size
      have e0 : elsC L O = 0 := by rw [HEL.out, if_neg (by omega)]
      have HE0 := Lib.hid e0
      have HRES2 : Hid (w2.heap[w.heap.size]? = some (.cells #[.slice none 0 0, .map none] 72 (0, 0))) := Lib.hid ((hb2.block _ hs1).trans HRES1.out)
      have hgl : gE < w2.heap.size := (hown.lt gE rfl).2
      have hgb : w1.heap.size ≤ gE := (hown.lt gE rfl).1
      have hHS := fun z (hz : Below w2.heap.size w2 z) => sort_any hI.vl hI.nd (by omega) (by intro e; have := hI.one; rw [e] at this; simp at this) z (ownM_bel hown hz)
      have HHS := Lib.hid hHS
      have HMAP := Lib.hid hmap
      have HMWS := Lib.hid hmws
      have hlen : (elsK L).length = (cfin (fst0 L) (codes L)).E.length := srtE_len _ hI.nd
      have HLEN := Lib.hid hlen
      have HOWN := Lib.hid hown
      clear hb2 hrf htf hI e0 hHS hmap hmws hlen hown
      go_wp2_with fail
      refine (HHS.out _ ((Below.refl _ _).alloc (Nat.le_refl _) _)).mono ?_
      rintro e w3 ⟨rfl, hput, hturn⟩
      have ha : Below w2.heap.size w2 (w2.alloc (.cells #[.slice (some ⟨gE, 0, none⟩) (cfin (fst0 L) (codes L)).E.length cE, .map (some b)] 72)) := (Below.refl _ _).alloc (Nat.le_refl _) _
      have hr3 := hturn.at_ ((ha.block _ (by omega)).trans HRES2.out) (by omega)
      have hm3 := hturn.at_ (halloc_at w2 (.cells #[.slice (some ⟨gE, 0, none⟩) (cfin (fst0 L) (codes L)).E.length cE, .map (some b)] 72) _ rfl) (by omega)
      have hbg : b ≠ gE := fun e => by
        obtain ⟨es, clock, hbk, _⟩ := HMAP.out.1
        rcases HOWN.out.2 with ⟨e2, _⟩ | ⟨g2, cap, cur, e2, _, hh, _⟩
        · cases e2
        · injection e2 with e2 _ _
          injection e2 with e2
          injection e2 with e2
          rw [← e2, ← e, hbk] at hh
          cases hh
      have hmp3 := hturn.map (mapN2_below HMAP.out ha) hbg
      have hrow3 : ∀ {u : Value} {Wd : List Int}, Own w2 w1.heap.size u Wd → Own w3 w1.heap.size u Wd := fun {u Wd} ho => by
        refine hturn.own (own_bel ho ha) (fun r e h => ?_)
        rcases own_apart (by decide) ho HOWN.out with h2 | h2
        · rw [h2] at e; cases e
        · rw [e] at h2
          exact h2 (by rw [h]; rfl)
      have HR3 := Lib.hid hr3
      have HM3 := Lib.hid hm3
      have HMP3 := Lib.hid hmp3
      have HRW3 : Hid (∀ (u : Value) (Wd : List Int), Own w2 w1.heap.size u Wd → Own w3 w1.heap.size u Wd) := Lib.hid fun u Wd h => hrow3 h
      have HPUT := Lib.hid hput
      have hb3 : Below w.heap.size w w3 := by
        have h2 := HB1.out.trans (HB2.out.mono (by omega))
        exact ⟨hturn.os.trans h2.os, hturn.tape.trans h2.tape, hturn.output.trans h2.output, Nat.le_trans h2.size (Nat.le_trans ha.size hturn.size), fun k hk => (hturn.block k (by have := ha.size; omega) (by omega)).trans ((ha.block k (by omega)).trans (h2.block k hk))⟩
      have HB3 := Lib.hid hb3
      have hfr := blk_free hr3
      have d0 := Joins.cell_of_block hr3 0
      have d1 := Joins.cell_of_block hr3 1
      have m0 := Joins.cell_of_block hm3 0
      have m1 := Joins.cell_of_block hm3 1
      simp only [List.getElem?_toArray, List.getElem?_cons_zero, List.getElem?_cons_succ] at d0 d1 m0 m1
      have hne : w2.heap.size ≠ w.heap.size := by omega
      clear hr3 hm3 hmp3 hrow3 hput hturn hb3 ha
      generalize hEl : (cfin (fst0 L) (codes L)).E.length = nE at *
      go_wp2_with fail
      have hbr := Joins.block_setCell (Joins.block_setCell HR3.out (i := 0) (.slice (some ⟨gE, 0, none⟩) nE cE)) (i := 1) (.map (some b))
      have b0 := Joins.cell_of_block hbr 0
      have b1 := Joins.cell_of_block hbr 1
      have ht := turn2 w3 w.heap.size (.slice (some ⟨gE, 0, none⟩) nE cE) (.map (some b))
      refine bodyPost_ret (v := .tuple #[.agg #[.slice (some ⟨gE, 0, none⟩) nE cE, .map (some b)], .int .i64 0]) (by simp [results, Try.results51, go_sem, b0, b1]) rfl ?_
      refine ⟨(HB3.out.setCell (Nat.le_refl _) _).setCell (Nat.le_refl _) _, Or.inr ⟨HE0.out, HGOOD.out, gE, cE, b, l, by rw [HLEN.out], ?_, ?_, ⟨HMWS.out.mem, HMWS.out.nd, fun j hj => ?_⟩, HI.out⟩⟩
      · exact (HPUT.out.block (ht.block gE HPUT.out.hi (by omega))).mono (by omega)
      · rw [HLEN.out]
        exact ht.map HMP3.out (by omega)
      · obtain ⟨u, hu, ho⟩ := HMWS.out.row j hj
        exact ⟨u, hu, ht.own (World.ownsRow.mono (HRW3.out u _ ho) (by omega)) (fun r e => by have := (ho.lt r e).1; omega)⟩
  · have e1 := elsC_bad hc
    have hHK := HK.out
    rw [← e1] at hHK
    have hne : elsC L O ≠ 0 := by rw [e1]; exact hc
    have HK := Lib.hid hHK
    have HNE := Lib.hid hne
    have hcb : (elsC L O != 0) = true := by simpa using hne
    clear hHK hne e1 hc
    go_enter Try.func51, Try.ntmps51
    go_wp2_with fail
    refine HK.out.mono ?_
    rintro e w1 ⟨rfl, hb⟩
    have HRES1 : Hid (w1.heap[w.heap.size]? = some (.cells #[.slice none 0 0, .map none] 72 (0, 0))) := Lib.hid ((hb.block _ (by simp)).trans (halloc_at _ _ _ rfl))
    have HB1 := Lib.hid (HB0.out.trans (hb.mono (by simp)))
    have d0 := Joins.cell_of_block HRES1.out 0
    have d1 := Joins.cell_of_block HRES1.out 1
    have hfr := blk_free HRES1.out
    simp only [List.getElem?_toArray, List.getElem?_cons_zero, List.getElem?_cons_succ] at d0 d1
    clear hb
    generalize hC : elsC L O = C at *
    have HCE := Lib.hid hC
    clear hC
    go_wp2_with fail
    have hbr := Joins.block_setCell (Joins.block_setCell HRES1.out (i := 0) (.slice none 0 0)) (i := 1) (.map none)
    have b0 := Joins.cell_of_block hbr 0
    have b1 := Joins.cell_of_block hbr 1
    refine bodyPost_ret (v := .tuple #[.agg #[.slice none 0 0, .map none], .int .i64 C]) (by simp [results, Try.results51, go_sem, b0, b1]) rfl ?_
    refine ⟨(HB1.out.setCell (Nat.le_refl _) _).setCell (Nat.le_refl _) _, Or.inl ⟨by rw [HCE.out]; exact HNE.out, by rw [HCE.out]⟩⟩

end Go.Proofs.Ytaabenkbcbpccaa
