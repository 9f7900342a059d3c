/- The contract of spec.l02Elements: the elements in order, or the code. -/
import Derived.Test.YtiogagaclhjdaaaSclo
import Derived.Test.YtiogagaclhjdaaaGiven
namespace Go.Proofs.Ytiogagaclhjdaaa
open Go.RowKit

/-- The numbers of a list of maps. -/
def codes (L : List MapN) : List Nat := L.map fun x => ecd x.2

theorem codes_len (L : List MapN) : (codes L).length = L.length := by unfold codes; rw [List.length_map]

/-- What a list without an error is. -/
structure GoodL (L : List MapN) : Prop where
  p1 : 1 ≤ fst0 L
  p5 : fst0 L ≤ 5
  n1 : 1 ≤ L.length
  n6 : L.length ≤ 6
  vl : ∀ c ∈ codes L, vld (fst0 L) c
  ok : ∀ k, k < L.length → (L.getD k z0).1 = fst0 L ∧ isB (L.getD k z0).1 (L.getD k z0).2 = true

theorem chk_good {L O : List MapN} (h : chkC L O = 0) : GoodL L ∧ ∀ k, k < O.length → (O.getD k z0).1 = fst0 L ∧ isB (O.getD k z0).1 (O.getD k z0).2 = true := by
  unfold chkC at h
  split at h
  · rename_i ha
    split at h
    · rename_i hs
      split at h
      · rename_i hp
        rw [allB_app, Bool.and_eq_true] at ha
        rw [sameB_app, Bool.and_eq_true] at hp
        unfold sizeB at hs
        simp at hs
        have hk : ∀ k, k < L.length → (L.getD k z0).1 = fst0 L ∧ isB (L.getD k z0).1 (L.getD k z0).2 = true := fun k hk => ⟨sameB_at hp.1 k hk, allB_at ha.1 k hk⟩
        have h0 := hk 0 (by omega)
        have hpt := isB_pts h0.2
        rw [h0.1] at hpt
        refine ⟨⟨hpt.1, hpt.2, hs.1, hs.2, fun c hc => ?_, hk⟩, fun k hk => ⟨sameB_at hp.2 k hk, allB_at ha.2 k hk⟩⟩
        unfold codes at hc
        obtain ⟨x, hx, rfl⟩ := List.mem_map.1 hc
        obtain ⟨i, hi, e⟩ := List.mem_iff_getElem.1 hx
        have := hk i hi
        rw [List.getD_eq_getElem?_getD, List.getElem?_eq_getElem hi] at this
        simp only [Option.getD_some, e] at this
        rw [← this.1]
        exact vld_ecd this.2
      · exact absurd h (by decide)
    · exact absurd h (by decide)
  · exact absurd h (by decide)

theorem at_num {w : World} {b off j : Nat} {x : MapN} (hx : isB x.1 x.2 = true) (h : AtM w b off j x) : AtM w b off j (x.1, dcd (ecd x.2)) := by
  unfold AtM at *
  simp only [dcd_ecd hx 0 (by omega), dcd_ecd hx 1 (by omega), dcd_ecd hx 2 (by omega), dcd_ecd hx 3 (by omega), dcd_ecd hx 4 (by omega)]
  exact h

theorem codes_at (L : List MapN) (k : Nat) (hk : k < L.length) : (codes L).getD k 0 = ecd (L.getD k z0).2 := by
  unfold codes
  rw [List.getD_eq_getElem?_getD, List.getElem?_map, List.getElem?_eq_getElem hk, List.getD_eq_getElem?_getD, List.getElem?_eq_getElem hk]
  rfl

theorem inRow_num {w : World} {a : Option Addr} {L : List MapN} (hL : GoodL L) (h : InRowM w a L) : InRowM w a (mE (fst0 L) (codes L)) := by
  rcases h with h0 | ⟨b, off, ha, hlt, hc⟩
  · have := hL.n1; rw [h0] at this; simp at this
  · refine Or.inr ⟨b, off, ha, hlt, fun j hj => ?_⟩
    rw [mE_len, codes_len] at hj
    rw [mE_at _ _ j (by rw [codes_len]; exact hj), codes_at L j hj, ← (hL.ok j hj).1]
    exact at_num (hL.ok j hj).2 (hc j hj)

/-- The code of a list's monoid. -/
noncomputable def elsC (L O : List MapN) : Int := if chkC L O = 0 then (if 300 < (cfin (fst0 L) (codes L)).E.length then 3 else 0) else chkC L O

/-- The numbers of the elements, in order. -/
noncomputable def elsK (L : List MapN) : List Nat := srtE (cfin (fst0 L) (codes L)).E

noncomputable def elsL (L O : List MapN) : List MapN := if elsC L O = 0 then mE (fst0 L) (elsK L) else []

/-- The call returns a list of maps and a code. -/
def RetRowM (B : Nat) (L : List MapN) (c : Int) (w : World) (e : Ending) (w' : World) : Prop :=
  ∃ a cap, e = .returned (.tuple #[.slice a L.length cap, .int .i64 c]) ∧ RdM w' B a L ∧ Below w.heap.size w w'

theorem PutRow.rd {w : World} {B g cap : Nat} {L : List MapN} (h : PutRow w B g cap L) (hL : L.length ≤ 2000000) : RdM w B (some ⟨g, 0, none⟩) L := by
  obtain ⟨cur, hc⟩ := h.ty
  exact ⟨hL, Or.inr ⟨g, rfl, h.lo, h.hi, h.cells, fun x _ => Joins.unfrozen_of_block hc x⟩⟩

theorem put_empty {w : World} {b base : Nat} (h : w.heap[b]? = some (.cells #[] 31 (0, 0))) (hb : base ≤ b) : PutRow w base b 0 [] :=
  ⟨Nat.le_refl _, Nat.zero_le _, hb, (Array.getElem?_eq_some_iff.1 h).1, fun j hj => by simp at hj, _, h⟩

theorem take_app (E : List Nat) (j : Nat) (hj : j < E.length) : E.take (j + 1) = E.take j ++ [E.getD j 0] := by
  rw [List.take_add_one, List.getD_eq_getElem?_getD, List.getElem?_eq_getElem hj]; rfl

set_option maxRecDepth 100000 in
set_option maxHeartbeats 2000000 in
theorem sels_any (a1 a2 : Option Addr) (c1 c2 : Nat) (L O : List MapN) (hl1 : L.length ≤ 1048576) (hl2 : O.length ≤ 900000) (w : World) (hr1 : InRowM w a1 L) (hr2 : InRowM w a2 O) :
    Calls Try.prog 72 #[.slice a1 L.length c1, .slice a2 O.length c2] w (RetRowM w.heap.size (elsL L O) (elsC L O) w) := by
  have HG := given_any a1 a2 c1 c2 L O hl1 hl2 w hr1 hr2
  have HR := Lib.hid hr1
  clear hr1 hr2
  by_cases hc : chkC L O = 0
  · have hgood := (chk_good hc).1
    have h1 := hgood.p1
    have h5 := hgood.p5
    have hn1 := hgood.n1
    have HRN := Lib.hid (inRow_num hgood HR.out)
    have HVL := Lib.hid hgood.vl
    have HCL := Lib.hid fun (w : World) (h : InRowM w a1 (mE (fst0 L) (codes L))) => sclo_any h1 h5 hgood.vl (by rw [codes_len]; exact hgood.n6) a1 c1 w h
    have hel : elsC L O = if 300 < (cfin (fst0 L) (codes L)).E.length then 3 else 0 := by unfold elsC; rw [if_pos hc]
    have hll : elsL L O = if elsC L O = 0 then mE (fst0 L) (srtE (cfin (fst0 L) (codes L)).E) else [] := rfl
    have HEL := Lib.hid hel
    have HLL := Lib.hid hll
    rw [hc] at HG
    simp only [codes_len] at HCL
    have hl0 : (L.getD 0 z0).1 = fst0 L := rfl
    obtain ⟨b0, o0, rfl, hb0, hat0⟩ := HR.out.at0 (by omega)
    obtain ⟨x0, _, _, _, _, _⟩ := hat0
    rw [hl0] at x0
    clear hc hgood hel hll hl0
    generalize codes L = gs at *
    generalize fst0 L = p at *
    go_enter Try.func72, Try.ntmps72
    go_wp2_with fail
    refine HG.mono ?_
    rintro e w1 ⟨rfl, hb⟩
    have hx1 := (hb.cell (p := ⟨b0, o0, none⟩) hb0).trans x0
    have hb1 : b0 < w1.heap.size := Nat.lt_of_lt_of_le hb0 hb.size
    have HB1 := Lib.hid hb
    have hn1' : (0 : Int) < (L.length : Int) := by omega
    clear hb x0 HG
    go_wp2_with fail
    refine (HCL.out _ (HRN.out.below HB1.out)).mono ?_
    rintro e w2 ⟨hb2, hrf, htf, ⟨h300, rfl⟩ | ⟨h300, gO, capO, vW, us, rfl, hown, hwds⟩⟩
    · have HB2 := Lib.hid hb2
      have H3 := Lib.hid h300
      clear hb2 hrf htf h300
      go_wp2_with fail
      go_ret2
      have e1 : elsC L O = 3 := by rw [HEL.out, if_pos H3.out]
      have e2 : elsL L O = [] := by rw [HLL.out, if_neg (by rw [e1]; decide)]
      rw [e1, e2]
      exact ⟨none, 0, rfl, ⟨by simp, Or.inl rfl⟩, HB1.out.trans (HB2.out.mono HB1.out.size)⟩
    · have hI := hrf.inv h1 h5 HVL.out
      have HOW := Lib.hid hown
      have HVE := Lib.hid hI.vl
      have HND := Lib.hid hI.nd
      have HB2 := Lib.hid hb2
      have hlw : w.heap.size ≤ w2.heap.size := Nat.le_trans HB1.out.size hb2.size
      have e1 : elsC L O = 0 := by rw [HEL.out, if_neg (by omega)]
      have e2 : elsL L O = mE p (srtE (cfin p gs).E) := by rw [HLL.out, if_pos e1]
      have E1 := Lib.hid e1
      have E2 := Lib.hid e2
      clear hown hb2 hrf htf hwds hI e1 e2 HEL HLL
      generalize (cfin p gs).E = E at *
      go_wp2_with fail
      go_loopw [10, 11] (fun v i wr => ∃ (j g cap : Nat), j ≤ E.length ∧ i = .int .i64 j ∧ v = .slice (some ⟨g, 0, none⟩) (srtE (E.take j)).length cap ∧ PutRow wr w.heap.size g cap (mE p (srtE (E.take j))) ∧ Below w2.heap.size w2 wr) (fun _ i _ => E.length - (intOf i).toNat)
      case atStart => exact ⟨0, w2.heap.size, 0, by omega, rfl, rfl, put_empty (halloc_at _ _ _ rfl) (by omega), (Below.refl _ _).alloc (Nat.le_refl _) _⟩
      case round =>
        obtain ⟨j, g, cap, hj, rfl, rfl, hput, hbl⟩ := hrel
        have HBL := Lib.hid hbl
        have hsz := hbl.size
        by_cases hje : j < E.length
        · have hje' : (j : Int) < (E.length : Int) := by omega
          obtain ⟨_, hgO, hcO⟩ := ownM_at (ownM_bel HOW.out hbl) (by rw [mE_len]; omega)
          have hx := hcO j (by rw [mE_len]; exact hje)
          rw [mE_at p E j hje] at hx
          unfold AtM at hx
          rw [Nat.zero_add] at hx
          have hsub : ∀ t ∈ srtE (E.take j), vld p t := fun t ht => HVE.out t (List.mem_of_mem_take ((srtE_mem _ t).1 ht))
          have hnd : (E.take j).Nodup := (List.take_sublist _ _).nodup HND.out
          have hkl : (srtE (E.take j)).length ≤ 1000 := by rw [srtE_len _ hnd, List.length_take]; omega
          have hP := put_any (p := p) (K := srtE (E.take j)) (c := E.getD j 0) hsub (srtE_srt _) (HVE.out _ (getD_mem hje)) hkl g cap w.heap.size w.heap.size wr (fun _ => Nat.le_refl _) (by omega) hput
          rw [← srtE_app, ← take_app E j hje] at hP
          have HP := Lib.hid hP
          have HE : Hid ((mE p (srtE (E.take (j + 1)))).length = (srtE (E.take (j + 1))).length) := Lib.hid (mE_len _ _)
          clear hbl hput hcO hsub hnd hP
          simp only [mv, mcells] at HP
          generalize E.getD j 0 = x at *
          generalize hK : srtE (E.take j) = K at *
          generalize hK2 : srtE (E.take (j + 1)) = K2 at *
          have HK2 := Lib.hid hK2
          clear hK hK2
          obtain ⟨x0, x1, x2, x3, x4, x5⟩ := hx
          simp only [] at x0 x1 x2 x3 x4 x5
          go_wp2_with fail
          refine HP.out.mono ?_
          rintro e w3 ⟨g3, cap3, rfl, hput, hb3⟩
          have HPUT := Lib.hid hput
          have HB3 := Lib.hid hb3
          rw [HE.out]
          clear hput hb3
          go_wp2_with fail
          go_roundw
          case rel => exact ⟨j + 1, g3, cap3, by omega, by go_num, by rw [HK2.out], by rw [HK2.out]; exact HPUT.out, HBL.out.trans (HB3.out.mono hsz)⟩
          case measure => simp [intOf]; omega
        · obtain rfl : j = E.length := by omega
          rw [List.take_length] at hput ⊢
          have hnd := HND.out
          have hlen := srtE_len E hnd
          have HPUT := Lib.hid hput
          have HLEN := Lib.hid hlen
          have hlt : ¬ ((E.length : Int) < (E.length : Int)) := by omega
          clear hput hbl hlen hnd hje
          generalize srtE E = K at *
          go_wp2_with fail
          go_ret2
          rw [E1.out, E2.out]
          exact ⟨some ⟨g, 0, none⟩, cap, by rw [mE_len]; rfl, HPUT.out.rd (by rw [mE_len, HLEN.out]; omega), HB1.out.trans ((HB2.out.trans (HBL.out.mono (by have := HB2.out.size; omega))).mono HB1.out.size)⟩
  · have e1 : elsC L O = chkC L O := by unfold elsC; rw [if_neg hc]
    have e2 : elsL L O = [] := by unfold elsL; rw [if_neg (by rw [e1]; exact hc)]
    rw [e1, e2]
    clear e1 e2
    generalize chkC L O = C at *
    have hcb : (C != 0) = true := by simpa using hc
    go_enter Try.func72, Try.ntmps72
    go_wp2_with fail
    refine HG.mono ?_
    rintro e w1 ⟨rfl, hb⟩
    have HB1 := Lib.hid hb
    clear hb HG
    go_wp2_with fail
    go_ret2
    exact ⟨none, 0, rfl, ⟨by simp, Or.inl rfl⟩, HB1.out⟩

end Go.Proofs.Ytiogagaclhjdaaa
