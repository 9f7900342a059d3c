/- The contracts of Accepts, on both sides. -/
import Derived.Test.YthdjajelbpccpaaDoorAcm
import Derived.Test.YthdjajelbpccpaaDoorLeads
import Derived.Test.YthdjajelbpccpaaDoorBits
import Derived.Test.YthdjajelbpccpaaDoorBitm
import Derived.Test.YthdjajelbpccpaaDoorPoints
import Derived.Test.YthdjajelbpccpaaDoorHas
import Derived.StillTailTactics
import Derived.Deep.DeepCutAuto
import Derived.BigQuiet
namespace Go.Proofs.YthdjajelbpccpaaDoor
open Go Go.RowKit Go.Maps

/-- The cells of a map, by points. -/
theorem at6_pa {w : World} {b o : Nat} {x : MapN} (h : At6 w b o x) {y : Nat} (hy : y < 5) : w.cell? ⟨b, o + 1 + y, none⟩ = some (.int .i64 (x.2 y)) := by
  obtain ⟨x0, x1, x2, x3, x4, x5⟩ := h
  rcases (by omega : y = 0 ∨ y = 1 ∨ y = 2 ∨ y = 3 ∨ y = 4) with rfl | rfl | rfl | rfl | rfl
  · exact x1
  · exact x2
  · exact x3
  · exact x4
  · exact x5

theorem memB_lastA (S : List Int) (x : Nat) : memB S x = lastB S x := by
  have h := memB_contains (L := S) (x : Int) (by omega)
  rw [Int.toNat_natCast] at h
  exact h

set_option maxHeartbeats 1000000 in
theorem slaA_any (n c : Nat) (F : Int) (S : List Int) (hs : S.length ≤ 1048576) (p : Int) (h5 : p ≤ 5) (hp : ptsB p S = true) (a b : Option Addr) (d x : Nat) (hx : x < 5) (w : World) (h : InRow w b S) :
    Calls Tryd.prog 46 #[.agg #[.slice a n c, .int .i64 F, .slice b S.length d], .int .i64 (x : Int)] w fun e w' => e = .returned (.bool (lastB S x)) ∧ Below w.heap.size w w' := by
  have HB := Lib.hid fun wx (hb : Below w.heap.size w wx) => sbits_any p h5 S hp hs b d wx (h.below hb)
  have hand := and_mask (memB S) x hx
  rw [memB_lastA] at hand
  clear h hp
  generalize mask (memB S) = M at *
  go_enter Tryd.func46, Tryd.ntmps46
  go_wp2_with fail
  refine (HB.out _ (by (repeat' (first | (with_reducible exact Below.refl _ _) | (with_reducible refine Below.alloc ?_ ?_ _) | (with_reducible refine Below.setCell ?_ ?_ _) | (with_reducible refine Below.drew ?_) | (with_reducible refine below_drewN ?_ _) | (with_reducible refine Below.trans ?_ (Below.mono (Hid.out (by assumption)) ?_)) | omega | (simp; done) | (simp; omega))))).mono ?_
  rintro e w1 ⟨rfl, rfl⟩
  go_wp2_with fail
  go_ret
  exact ⟨rfl, (Below.refl _ _).alloc (Nat.le_refl _) _⟩

/-- The point to which the first k letters of a word lead the first point. -/
def acpK (L : List MapN) (F : Int) (W : List Int) (k : Nat) : Nat := (wrdK L W k F.toNat).toNat
def acpC (L : List MapN) (F : Int) (S W : List Int) : Int := if accB L F S = true then w5C L W else 1
def acpB (L : List MapN) (F : Int) (S W : List Int) : Bool := if accB L F S = true then (if w5C L W = 0 then lastB S (acpK L F W W.length) else false) else false
def acpV (L : List MapN) (F : Int) (S W : List Int) : Value := .tuple #[.bool (acpB L F S W), .int .i64 (acpC L F S W)]

theorem acpV_no {L : List MapN} {F : Int} {S W : List Int} (h : accB L F S = false) : acpV L F S W = .tuple #[.bool false, .int .i64 1] := by unfold acpV acpB acpC; rw [h]; rfl
theorem acpV_bad {L : List MapN} {F : Int} {S W : List Int} (h : accB L F S = true) (h2 : w5C L W ≠ 0) : acpV L F S W = .tuple #[.bool false, .int .i64 (w5C L W)] := by unfold acpV acpB acpC; rw [if_pos h, if_pos h, if_neg h2]
theorem acpV_good {L : List MapN} {F : Int} {S W : List Int} (h : accB L F S = true) (h2 : w5C L W = 0) : acpV L F S W = .tuple #[.bool (lastB S (acpK L F W W.length)), .int .i64 0] := by unfold acpV acpB acpC; rw [if_pos h, if_pos h, if_pos h2, h2]

theorem w5C_acc {L : List MapN} {F : Int} {S W : List Int} (h : accB L F S = true) : w5C L W = if w5B L W = true then 0 else 2 := by
  obtain ⟨_, _, _, _, hc⟩ := accB_true h
  unfold w5C
  rw [if_pos hc]

theorem acpK_bd {L : List MapN} {F : Int} {S W : List Int} (h : accB L F S = true) (h2 : w5C L W = 0) : ∀ k, k ≤ W.length → acpK L F W k < (fst0 L).toNat ∧ wrdK L W k F.toNat = (acpK L F W k : Int) := fun k hk => by
  obtain ⟨hl, hf0, hf1, _, hc⟩ := accB_true h
  obtain ⟨hck, hbel, _⟩ := w5C_zero h2
  obtain ⟨hgood, _, _⟩ := good_of hck
  have hok := wrdK_ok (W := W) hgood k (fun j hj => belB_at hbel j (by omega))
  have := ok_at hok F.toNat (by omega)
  unfold acpK
  omega

theorem acpK_succ {L : List MapN} {F : Int} {S W : List Int} (h : accB L F S = true) (h2 : w5C L W = 0) (k : Nat) (hk : k < W.length) : (L.getD (W.getD k 0).toNat z0).2 (acpK L F W k) = (acpK L F W (k + 1) : Int) := by
  obtain ⟨hl, hf0, hf1, _, hc⟩ := accB_true h
  have h1 := (acpK_bd h h2 (k + 1) hk).2
  rw [wrd_succ L W F.toNat k (by omega)] at h1
  exact h1

theorem acpK_zero {L : List MapN} {F : Int} {S W : List Int} (h : accB L F S = true) : F = (acpK L F W 0 : Int) := by
  obtain ⟨hl, hf0, hf1, _, hc⟩ := accB_true h
  unfold acpK
  rw [wrd_zero L W F.toNat (by omega)]
  omega

set_option maxRecDepth 100000 in
set_option maxHeartbeats 4000000 in
theorem sAcp_any (L : List MapN) (hl : L.length ≤ 1048576) (F : Int) (S : List Int) (hs : S.length ≤ 1048576) (W : List Int) (hw : W.length ≤ 1048576) (a b : Option Addr) (c d : Nat) (_ : a = none → c = 0) (ax : Option Addr) (cx : Nat) (w : World) (h1 : InRowM w a L) (h2 : InRow w b S) (h3 : InRow w ax W) :
    Calls Tryd.prog 25 #[.agg #[.slice a L.length c, .int .i64 F, .slice b S.length d], .slice ax W.length cx] w fun e w' => e = .returned (acpV L F S W) ∧ Below w.heap.size w w' := by
  obtain ⟨wb, hwb⟩ : ∃ wb, wb = w.alloc (.cells #[.slice a L.length c, .int .i64 F, .slice b S.length d] 47) := ⟨_, rfl⟩
  have HWB : Hid (Below w.heap.size w wb) := Lib.hid (by rw [hwb]; exact (Below.refl _ _).alloc (Nat.le_refl _) _)
  have hbx : wb.heap[w.heap.size]? = some (.cells #[.slice a L.length c, .int .i64 F, .slice b S.length d] 47 (0, 0)) := by rw [hwb]; exact halloc_at _ _ _ rfl
  have hwz : w.heap.size < wb.heap.size := (Array.getElem?_eq_some_iff.1 hbx).1
  have HBX := Lib.hid hbx
  have f0 := Joins.cell_of_block hbx 0
  have f1 := Joins.cell_of_block hbx 1
  have f2 := Joins.cell_of_block hbx 2
  simp only [List.getElem?_toArray, List.getElem?_cons_zero, List.getElem?_cons_succ] at f0 f1 f2
  have HA := Lib.hid (sacc_any L hl F S hs a b c d wb (h1.below HWB.out) (h2.below HWB.out))
  have HM := Lib.hid h1
  have HS := Lib.hid h2
  have HW := Lib.hid h3
  clear hbx h1 h2 h3
  cases hacc : accB L F S
  · rw [hacc] at HA
    rw [acpV_no hacc]
    clear hacc
    go_enter Tryd.func25, Tryd.ntmps25
    go_wp2_with fail
    rw [← hwb]
    clear hwb
    refine HA.out.mono ?_
    rintro e w1 ⟨rfl, hb⟩
    have HB := Lib.hid (HWB.out.trans (hb.mono (by omega)))
    clear hb
    go_wp2_with fail
    go_ret2
    exact ⟨rfl, HB.out⟩
  · rw [hacc] at HA
    have hpp := accB_true hacc
    have HSW := Lib.hid fun w h => sword_any L hl W hw a c ax cx w h
    by_cases hw5 : w5C L W = 0
    · have hwB : w5B L W = true := by
        rw [w5C_acc hacc] at hw5
        cases e : w5B L W
        · rw [e] at hw5; cases hw5
        · rfl
      rw [hwB] at HSW
      rw [acpV_good hacc hw5]
      have hfp : (fst0 L).toNat ≤ 5 := hpp.1.p5
      have HLA := Lib.hid fun n c a b d x hx w h => slaA_any n c F S hs (fst0 L) (by have := hpp.2.1; have := hpp.2.2.1; omega) hpp.2.2.2.1 a b d x hx w h
      have HBD := Lib.hid (acpK_bd (W := W) hacc hw5)
      have HSC := Lib.hid (acpK_succ hacc hw5)
      have HF0 := Lib.hid (acpK_zero (W := W) hacc)
      have HBE := Lib.hid fun k hk => belB_at (w5C_zero hw5).2.1 k hk
      clear hacc hw5 hwB hpp
      generalize (fst0 L).toNat = P at *
      go_enter Tryd.func25, Tryd.ntmps25
      go_wp2_with fail
      rw [← hwb]
      clear hwb
      refine HA.out.mono ?_
      rintro e w1 ⟨rfl, hb⟩
      have HB := Lib.hid (HWB.out.trans (hb.mono (by omega)))
      have HBX1 := Lib.hid ((hb.block _ hwz).trans HBX.out)
      have g0 := (hb.cell (p := ⟨w.heap.size, 0, none⟩) hwz).trans f0
      have g1 := (hb.cell (p := ⟨w.heap.size, 1, none⟩) hwz).trans f1
      have g2 := (hb.cell (p := ⟨w.heap.size, 2, none⟩) hwz).trans f2
      have hz1 := hb.size
      have HW1 := Lib.hid (HW.out.below HB.out)
      clear hb f0 f1 f2
      go_wp2_with fail
      refine (HSW.out _ HW1.out).mono ?_
      rintro e w1 ⟨rfl, rfl⟩
      go_wp2_with fail
      go_loopw [6, 7] (fun x i wr => ∃ k : Nat, k ≤ W.length ∧ x = .int .i64 (acpK L F W k : Nat) ∧ i = .int .i64 k ∧ Below w1.heap.size w1 wr) (fun _ i _ => W.length - (intOf i).toNat)
      case atStart => exact ⟨0, by omega, congrArg (Value.int .i64) HF0.out, rfl, Below.refl _ _⟩
      case round =>
        obtain ⟨k, hk, rfl, rfl, hb⟩ := hrel
        have HBR := Lib.hid hb
        have c0 := (hb.cell (p := ⟨w.heap.size, 0, none⟩) (show w.heap.size < _ by omega)).trans g0
        have hzr := hb.size
        obtain ⟨kb, _⟩ := HBD.out k hk
        by_cases hkm : k < W.length
        · have hkm' : (k : Int) < (W.length : Int) := by omega
          obtain ⟨q0, q1⟩ := HBE.out k hkm
          obtain ⟨bW, oW, rfl, _, hcW⟩ := (HW1.out.below hb).resolve_left (fun e => by rw [e] at hkm; simp at hkm)
          have cw := hcW k hkm
          have hsc := HSC.out k hkm
          obtain ⟨Q, hQ⟩ : ∃ Q : Nat, W.getD k 0 = (Q : Int) := ⟨(W.getD k 0).toNat, by omega⟩
          rw [hQ] at cw q0 q1 hsc
          rw [Int.toNat_natCast] at hsc
          have hQl : Q < L.length := by omega
          obtain ⟨bM, oM, rfl, _, hat⟩ := (HM.out.below (HB.out.trans (hb.mono (by omega)))).at6 Q hQl
          have cm := at6_pa hat (y := acpK L F W k) (by omega)
          rw [hsc] at cm
          have HSX := Lib.hid hsc
          clear hcW hat hb hQ hsc
          generalize hX : acpK L F W k = X at *
          generalize hY : acpK L F W (k + 1) = Y at *
          have HY := Lib.hid hY
          have hX5 : (X : Int) < 5 := by omega
          have hQl' : (Q : Int) < (L.length : Int) := by omega
          clear hX hY
          go_wp2_with fail
          go_quiet (fail)
          go_wp2_with fail
          go_roundw
          case rel => exact ⟨k + 1, by omega, by rw [HY.out], by go_num, below_drewN HBR.out _⟩
          case measure => simp [intOf]; omega
        · obtain rfl : k = W.length := by omega
          have HX2 := Lib.hid (HS.out.below (HB.out.trans (hb.mono (by omega))))
          have c1 := (hb.cell (p := ⟨w.heap.size, 1, none⟩) (show w.heap.size < _ by omega)).trans g1
          have c2 := (hb.cell (p := ⟨w.heap.size, 2, none⟩) (show w.heap.size < _ by omega)).trans g2
          have HBZ : Hid (Below w.heap.size w wr) := Lib.hid (HB.out.trans (hb.mono (by omega)))
          have hX5 : acpK L F W W.length < 5 := by omega
          clear hb
          go_wp2_with fail
          refine (HLA.out _ _ _ _ _ _ hX5 _ HX2.out).mono ?_
          rintro e w5 ⟨rfl, hb5⟩
          have HB5 : Hid (Below w.heap.size w w5) := Lib.hid (HBZ.out.trans (hb5.mono HBZ.out.size))
          clear hb5
          go_wp2_with fail
          go_ret2
          exact ⟨rfl, HB5.out⟩
    · have hwB : w5B L W = false := by
        rw [w5C_acc hacc] at hw5
        cases e : w5B L W
        · rfl
        · rw [e] at hw5; exact absurd rfl hw5
      have hv : w5C L W = 2 := by rw [w5C_acc hacc, hwB]; rfl
      rw [hwB] at HSW
      rw [acpV_bad hacc hw5, hv]
      clear hacc hw5 hwB hpp hv
      go_enter Tryd.func25, Tryd.ntmps25
      go_wp2_with fail
      rw [← hwb]
      clear hwb
      refine HA.out.mono ?_
      rintro e w1 ⟨rfl, hb⟩
      have HB := Lib.hid (HWB.out.trans (hb.mono (by omega)))
      have g0 := (hb.cell (p := ⟨w.heap.size, 0, none⟩) hwz).trans f0
      have HW1 := Lib.hid (HW.out.below HB.out)
      clear hb f0 f1 f2
      go_wp2_with fail
      refine (HSW.out _ HW1.out).mono ?_
      rintro e w1 ⟨rfl, rfl⟩
      go_wp2_with fail
      go_ret2
      exact ⟨rfl, HB.out⟩

set_option maxRecDepth 100000 in
set_option maxHeartbeats 4000000 in
theorem iAcp_any (L : List MapN) (hl : L.length ≤ 1048576) (F : Int) (S : List Int) (hs : S.length ≤ 1048576) (W : List Int) (hw : W.length ≤ 1048576) (a b : Option Addr) (c d : Nat) (hc0 : a = none → c = 0) (ax : Option Addr) (cx : Nat) (w : World) (he : Er w) (h1 : InRowM w a L) (h2 : InRow w b S) (h3 : InRow w ax W) :
    Calls Tryd.prog 27 #[.agg #[.slice a L.length c, .int .i64 F, .slice b S.length d], .slice ax W.length cx] w fun e w' => e = .returned (acpV L F S W) ∧ Below w.heap.size w w' := by
  obtain ⟨wb, hwb⟩ : ∃ wb, wb = w.alloc (.cells #[.slice a L.length c, .int .i64 F, .slice b S.length d] 47) := ⟨_, rfl⟩
  have HWB : Hid (Below w.heap.size w wb) := Lib.hid (by rw [hwb]; exact (Below.refl _ _).alloc (Nat.le_refl _) _)
  have hbx : wb.heap[w.heap.size]? = some (.cells #[.slice a L.length c, .int .i64 F, .slice b S.length d] 47 (0, 0)) := by rw [hwb]; exact halloc_at _ _ _ rfl
  have hwz : w.heap.size < wb.heap.size := (Array.getElem?_eq_some_iff.1 hbx).1
  have HBX := Lib.hid hbx
  have f0 := Joins.cell_of_block hbx 0
  have f1 := Joins.cell_of_block hbx 1
  have f2 := Joins.cell_of_block hbx 2
  simp only [List.getElem?_toArray, List.getElem?_cons_zero, List.getElem?_cons_succ] at f0 f1 f2
  have HA := Lib.hid (iacc_any L hl F S hs a b c d hc0 wb (h1.below HWB.out) (h2.below HWB.out))
  have HS := Lib.hid h2
  have HMW := Lib.hid fun wx (hb : Below w.heap.size w wx) => imow5_any L hl W hw a c hc0 ax cx wx (h1.below hb) (h3.below hb) (he.bel hb)
  clear hbx h1 h2 h3 he
  cases hacc : accB L F S
  · rw [hacc] at HA
    rw [acpV_no hacc]
    clear hacc
    go_enter Tryd.func27, Tryd.ntmps27
    go_wp2_with fail
    rw [← hwb]
    clear hwb
    refine HA.out.mono ?_
    rintro e w1 ⟨rfl, hb⟩
    have HB := Lib.hid (HWB.out.trans (hb.mono (by omega)))
    clear hb
    go_wp2_with fail
    go_ret2
    exact ⟨rfl, HB.out⟩
  · rw [hacc] at HA
    by_cases hw5 : w5C L W = 0
    · have hV : mow5V L W = .tuple #[mv (fst0 L) (wrdK L W W.length), .int .i64 0] := by unfold mow5V resP resT; rw [hw5]; rfl
      rw [hV] at HMW
      rw [acpV_good hacc hw5]
      have hpp := accB_true hacc
      have hfp : (fst0 L).toNat ≤ 5 := hpp.1.p5
      obtain ⟨kb, kv⟩ := acpK_bd (W := W) hacc hw5 W.length (Nat.le_refl _)
      have hF0 := hpp.2.1
      have hF1 := hpp.2.2.1
      obtain ⟨Fn, hFn⟩ : ∃ Fn : Nat, F = (Fn : Int) := ⟨F.toNat, by omega⟩
      subst hFn
      have hF5 : Fn < 5 := by omega
      have hF5' : (Fn : Int) < 5 := by omega
      rw [Int.toNat_natCast] at kv
      have HCN := Lib.hid fun a c w h => contains_any S (acpK L (Fn : Int) W W.length : Nat) (by omega) a c w h
      have HLB : Hid (S.contains ((acpK L (Fn : Int) W W.length : Nat) : Int) = lastB S (acpK L (Fn : Int) W W.length)) := Lib.hid rfl
      rw [HLB.out] at HCN
      clear hacc hw5 hpp hV HLB hF0 hF1
      generalize wrdK L W W.length = t at *
      go_enter Tryd.func27, Tryd.ntmps27
      go_wp2_with fail
      rw [← hwb]
      clear hwb
      refine HA.out.mono ?_
      rintro e w1 ⟨rfl, hb⟩
      have HB := Lib.hid (HWB.out.trans (hb.mono (by omega)))
      have HBX1 := Lib.hid ((hb.block _ hwz).trans HBX.out)
      have g0 := (hb.cell (p := ⟨w.heap.size, 0, none⟩) hwz).trans f0
      have hz1 := hb.size
      clear hb f0 f1 f2
      go_wp2_with fail
      refine (HMW.out _ HB.out).mono ?_
      rintro e w2 ⟨rfl, hb⟩
      have hz2 := hb.size
      have hx2 := (hb.block w.heap.size (by omega)).trans HBX1.out
      have HX2 := Lib.hid hx2
      have HB2 := Lib.hid (HB.out.trans (hb.mono HB.out.size))
      have hs2 := HB2.out.size
      obtain ⟨wm, hwm⟩ : ∃ wm, wm = w2.alloc (.cells (mcells (fst0 L) t) 54) := ⟨_, rfl⟩
      have HMX : Hid (wm.heap[w2.heap.size]? = some (.cells (mcells (fst0 L) t) 54 (0, 0))) := Lib.hid (by rw [hwm]; exact halloc_at _ _ _ rfl)
      have HBM : Hid (Below w.heap.size w wm) := Lib.hid (by rw [hwm]; exact HB2.out.alloc hs2 _)
      have hxm : wm.heap[w.heap.size]? = some (.cells #[.slice a L.length c, .int .i64 (Fn : Int), .slice b S.length d] 47 (0, 0)) := by rw [hwm]; exact (halloc_lt _ _ _ (by omega)).trans hx2
      have m0 := Joins.cell_of_block hxm 0
      have m1 := Joins.cell_of_block hxm 1
      have m2 := Joins.cell_of_block hxm 2
      simp only [List.getElem?_toArray, List.getElem?_cons_zero, List.getElem?_cons_succ] at m0 m1 m2
      have hpt : wm.cell? ⟨w2.heap.size, 1 + Fn, none⟩ = some (.int .i64 (t Fn)) := by
        obtain ⟨y0, y1, y2, y3, y4, y5⟩ := blk6 HMX.out
        rcases (by omega : Fn = 0 ∨ Fn = 1 ∨ Fn = 2 ∨ Fn = 3 ∨ Fn = 4) with e | e | e | e | e <;> rw [e] <;> assumption
      rw [kv] at hpt
      have HSM := Lib.hid (HS.out.below HBM.out)
      clear hb hx2 hxm
      simp only [mv, mcells] at hwm ⊢
      go_upto_region 4 with fail
      rw [← hwm]
      clear hwm
      go_wp2_with fail
      go_still_tail 7, (by kernel_rfl)
      go_wp2_with fail
      refine (HCN.out _ _ _ (HSM.out.below (below_drewN (Below.refl _ _) _))).mono ?_
      rintro e w4 ⟨rfl, rfl⟩
      go_wp2_with fail
      go_ret2
      exact ⟨rfl, below_drewN HBM.out _⟩
    · have hV : mow5V L W = .tuple #[mv 0 fun _ => 0, .int .i64 (w5C L W)] := by unfold mow5V resP resT; rw [if_neg hw5]; simp only [if_neg hw5]
      rw [hV] at HMW
      rw [acpV_bad hacc hw5]
      have hne : (w5C L W != 0) = true := by simpa using hw5
      clear hacc hw5 hV
      generalize w5C L W = C at *
      go_enter Tryd.func27, Tryd.ntmps27
      go_wp2_with fail
      rw [← hwb]
      clear hwb
      refine HA.out.mono ?_
      rintro e w1 ⟨rfl, hb⟩
      have HB := Lib.hid (HWB.out.trans (hb.mono (by omega)))
      have g0 := (hb.cell (p := ⟨w.heap.size, 0, none⟩) hwz).trans f0
      clear hb f0 f1 f2
      go_wp2_with fail
      refine (HMW.out _ HB.out).mono ?_
      rintro e w2 ⟨rfl, hb⟩
      have HB2 := Lib.hid (HB.out.trans (hb.mono HB.out.size))
      have hs2 := HB2.out.size
      clear hb
      simp only [mv, mcells]
      go_wp2_with fail
      go_ret2
      exact ⟨rfl, HB2.out.alloc hs2 _⟩

end Go.Proofs.YthdjajelbpccpaaDoor
