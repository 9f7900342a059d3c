/- The contract of impl.mapsOfBeginnings: a machine with a goto that walks a word. -/
import Derived.Test.YthdjajelbpccpaaDoorLab
import Derived.Test.YthdjajelbpccpaaDoorWv
import Derived.Test.YthdjajelbpccpaaDoorConc
import Derived.Test.YthdjajelbpccpaaDoorTurn
import Derived.StillTailTactics
import Derived.Deep.DeepCutAuto
namespace Go.Proofs.YthdjajelbpccpaaDoor
open Go Go.RowKit

/-- The maps of the beginnings of a word, the first k and the empty one. -/
def begL (L : List MapN) (W : List Int) (k : Nat) : List MapN := (List.range (k + 1)).map fun j => (fst0 L, wrdK L W j)

theorem begL_len (L : List MapN) (W : List Int) (k : Nat) : (begL L W k).length = k + 1 := by simp [begL]
theorem begL_succ (L : List MapN) (W : List Int) (k : Nat) : begL L W k ++ [(fst0 L, wrdK L W (k + 1))] = begL L W (k + 1) := by
  unfold begL
  rw [List.range_succ (n := k + 1), List.map_append]
  rfl
theorem begL_at (L : List MapN) (W : List Int) (k j : Nat) (h : j < k + 1) : (begL L W k).getD j z0 = (fst0 L, wrdK L W j) := by simp [begL, h]

noncomputable def rest5 : Code := tailOf <| ((Tryd.f55.body.bind scopeIn).bind fun c => findLabel c 0).getD .skip

/-- What holds of the memory ahead of the label: k maps have been walked. -/
structure Mo5 (w wr : World) (L : List MapN) (W : List Int) (k g5 : Nat) (v : Value) : Prop where
  own : OwnM wr (g5 + 1) v (begL L W k)
  bel : Below w.heap.size w wr
  low : w.heap.size ≤ g5
  lt : g5 < wr.heap.size
  box : wr.heap[g5]? = some (.cells (mcells (fst0 L) (wrdK L W k)) 54 (0, 0))

def M5 (w : World) (L : List MapN) (W : List Int) (a1 a2 : Option Addr) (c1 c2 k : Nat) (a' : Act) (wr : World) : Prop :=
  ∃ (g5 : Nat) (v : Value), k ≤ W.length ∧ Mo5 w wr L W k g5 v ∧ ∃ u8 u9 u10 u11 u12 u13 u14 u15 u16 u17 u18 u19 u20 u21 u22 u23 u24 u25 u26 u27 u28 u29 u30 u31 u32 u33 u34 u35 u36 u37 u38 u39 u40 u41 u42 u43 u44 u45 : Value, a' = { tmps := #[.slice a1 L.length c1, .slice a2 W.length c2, undef, undef, .slice none 0 0, .pointer (some ⟨g5, 0, none⟩), v, .int .i64 k, u8, u9, u10, u11, u12, u13, u14, u15, u16, u17, u18, u19, u20, u21, u22, u23, u24, u25, u26, u27, u28, u29, u30, u31, u32, u33, u34, u35, u36, u37, u38, u39, u40, u41, u42, u43, u44, u45], defers := [] }

def slot7 (a : Act) : Nat := match a.tmps.getD 7 undef with
  | .int _ i => i.toNat
  | _ => 0

theorem m5_slot {w : World} {L : List MapN} {W : List Int} {a1 a2 : Option Addr} {c1 c2 k : Nat} {a' : Act} {wr : World} (h : M5 w L W a1 a2 c1 c2 k a' wr) : slot7 a' = k ∧ k ≤ W.length := by
  obtain ⟨g5, v, hk, _, hf⟩ := h
  obtain ⟨u8, hf⟩ := hf
  obtain ⟨u9, hf⟩ := hf
  obtain ⟨u10, hf⟩ := hf
  obtain ⟨u11, hf⟩ := hf
  obtain ⟨u12, hf⟩ := hf
  obtain ⟨u13, hf⟩ := hf
  obtain ⟨u14, hf⟩ := hf
  obtain ⟨u15, hf⟩ := hf
  obtain ⟨u16, hf⟩ := hf
  obtain ⟨u17, hf⟩ := hf
  obtain ⟨u18, hf⟩ := hf
  obtain ⟨u19, hf⟩ := hf
  obtain ⟨u20, hf⟩ := hf
  obtain ⟨u21, hf⟩ := hf
  obtain ⟨u22, hf⟩ := hf
  obtain ⟨u23, hf⟩ := hf
  obtain ⟨u24, hf⟩ := hf
  obtain ⟨u25, hf⟩ := hf
  obtain ⟨u26, hf⟩ := hf
  obtain ⟨u27, hf⟩ := hf
  obtain ⟨u28, hf⟩ := hf
  obtain ⟨u29, hf⟩ := hf
  obtain ⟨u30, hf⟩ := hf
  obtain ⟨u31, hf⟩ := hf
  obtain ⟨u32, hf⟩ := hf
  obtain ⟨u33, hf⟩ := hf
  obtain ⟨u34, hf⟩ := hf
  obtain ⟨u35, hf⟩ := hf
  obtain ⟨u36, hf⟩ := hf
  obtain ⟨u37, hf⟩ := hf
  obtain ⟨u38, hf⟩ := hf
  obtain ⟨u39, hf⟩ := hf
  obtain ⟨u40, hf⟩ := hf
  obtain ⟨u41, hf⟩ := hf
  obtain ⟨u42, hf⟩ := hf
  obtain ⟨u43, hf⟩ := hf
  obtain ⟨u44, hf⟩ := hf
  obtain ⟨u45, hf⟩ := hf
  subst hf
  exact ⟨Int.toNat_natCast k, hk⟩

theorem grown_at {w w' : World} {v : Value} {b : Nat} {o : Obj} (hg : w.grownBy w' v.ownBlock) (h : w.heap[b]? = some o) (hne : v.ownBlock ≠ some b) : w'.heap[b]? = some o :=
  (hg.block b (Array.getElem?_eq_some_iff.1 h).1 (fun e => hne e.symm)).trans h

/-- A map stored into a box of its own. -/
theorem box_set {w wr : World} {B g T : Nat} {q p : Int} {s t : Nat → Int} (h : wr.heap[g]? = some (.cells (mcells q s) T (0, 0))) (hb : Below B w wr) (hg : B ≤ g) :
    ∀ wz, wz = (((((wr.setCell ⟨g, 0, none⟩ (.int .i64 p)).setCell ⟨g, 1, none⟩ (.int .i64 (t 0))).setCell ⟨g, 2, none⟩ (.int .i64 (t 1))).setCell ⟨g, 3, none⟩ (.int .i64 (t 2))).setCell ⟨g, 4, none⟩ (.int .i64 (t 3))).setCell ⟨g, 5, none⟩ (.int .i64 (t 4)) →
      wz.heap[g]? = some (.cells (mcells p t) T (0, 0)) ∧ Below B w wz ∧ Turn wr wz (fun r => r = g) ∧ wz.heap.size = wr.heap.size := by
  rintro wz rfl
  refine ⟨chainM h, ?_, ?_, by simp [World.setCell]⟩
  rotate_left
  · with_reducible refine Turn.setCell ?_ rfl
    with_reducible refine Turn.setCell ?_ rfl
    with_reducible refine Turn.setCell ?_ rfl
    with_reducible refine Turn.setCell ?_ rfl
    with_reducible refine Turn.setCell ?_ rfl
    with_reducible refine Turn.setCell ?_ rfl
    exact Turn.of_below (Below.refl _ _)
  with_reducible refine Below.setCell ?_ hg _
  with_reducible refine Below.setCell ?_ hg _
  with_reducible refine Below.setCell ?_ hg _
  with_reducible refine Below.setCell ?_ hg _
  with_reducible refine Below.setCell ?_ hg _
  with_reducible refine Below.setCell ?_ hg _
  exact hb

set_option maxRecDepth 1000000 in
set_option maxHeartbeats 4000000 in
theorem body5_any (L : List MapN) (W : List Int) (hC : w5C L W = 0) (a1 : Option Addr) (c1 : Nat) (a2 : Option Addr) (c2 : Nat) (w : World) (hr1 : InRowM w a1 L) (hr2 : InRow w a2 W) (k : Nat) (X : Nat → Act → World → Prop)
    (hX : k < W.length → ∀ a' w', M5 w L W a1 a2 c1 c2 (k + 1) a' w' → X 0 a' w') (g5 : Nat) (v : Value) (wr : World) (hk : k ≤ W.length) (hM : Mo5 w wr L W k g5 v) (u8 u9 u10 u11 u12 u13 u14 u15 u16 u17 u18 u19 u20 u21 u22 u23 u24 u25 u26 u27 u28 u29 u30 u31 u32 u33 u34 u35 u36 u37 u38 u39 u40 u41 u42 u43 u44 u45 : Value) :
    Code.wp Tryd.prog rest5 (jumpTo X (bodyPost Tryd.prog Tryd.f55 (RetOwnM w.heap.size (begL L W W.length) w))) { tmps := #[.slice a1 L.length c1, .slice a2 W.length c2, undef, undef, .slice none 0 0, .pointer (some ⟨g5, 0, none⟩), v, .int .i64 k, u8, u9, u10, u11, u12, u13, u14, u15, u16, u17, u18, u19, u20, u21, u22, u23, u24, u25, u26, u27, u28, u29, u30, u31, u32, u33, u34, u35, u36, u37, u38, u39, u40, u41, u42, u43, u44, u45], defers := [] } wr := by
  conv => arg 2; whnf
  have HR1 := Lib.hid hr1
  have HR2 := Lib.hid hr2
  have HX := Lib.hid hX
  have HM := Lib.hid hM
  obtain ⟨hck, hbel, hw40⟩ := w5C_zero hC
  obtain ⟨hgood, hs1, hs6⟩ := good_of hck
  obtain ⟨hp1, hp5, hgk⟩ := hgood
  have hlt := hM.lt
  have hlow := hM.low
  clear hr1 hr2 hX
  by_cases hkm : k < W.length
  · have hkm' : ¬ ((k : Int) = (W.length : Int)) := by omega
    have hkm2 : ((k : Int) == (W.length : Int)) = false := by simpa using hkm'
    have hkm3 : (k : Int) < (W.length : Int) := by omega
    obtain ⟨b2, off2, rfl, hbl2, hin⟩ := (HR2.out.below hM.bel).resolve_left (fun e => by rw [e] at hkm; simp at hkm)
    have e1 := hin k hkm
    obtain ⟨f0, f1⟩ := belB_at hbel k hkm
    have f1' : (W.getD k 0).toNat < L.length := by omega
    obtain ⟨b', off', rfl, hbl', hat⟩ := (HR1.out.below hM.bel).at6 (W.getD k 0).toNat f1'
    obtain ⟨x0, x1, x2, x3, x4, x5⟩ := hat
    obtain ⟨y0, y1, y2, y3, y4, y5⟩ := blk6 hM.box
    have hfr := blk_free hM.box
    have HG := hgk _ f1'
    rw [HG.1] at x0
    have HP := Lib.hid fun w => product_any (fst0 L) (wrdK L W k) (L.getD (W.getD k 0).toNat z0).2 (wrdK_ok ⟨hp1, hp5, hgk⟩ k (fun j hj => belB_at hbel j (by omega))) HG.2 w
    have HST : Hid (mul (fst0 L) (wrdK L W k) (L.getD (W.getD k 0).toNat z0).2 = wrdK L W (k + 1)) := Lib.hid rfl
    have HBS := Lib.hid (begL_succ L W k)
    clear hin HG hck hbel hgk hC hM
    generalize (L.getD (W.getD k 0).toNat z0).2 = T at *
    generalize W.getD k 0 = Y at *
    simp only [mv, mcells] at HP
    go_wp2_with fail
    go_still_tail 8, (by kernel_rfl)
    go_wp2_with fail
    refine (HP.out _).mono ?_
    rintro e w3 ⟨rfl, hb3⟩
    have hbd : Below wr.heap.size wr w3 := ⟨hb3.os, hb3.tape, hb3.output, hb3.size, fun x hx => hb3.block x hx⟩
    have HB3 := Lib.hid hbd
    have hz3 := hbd.size
    have B1' := (hbd.block g5 hlt).trans HM.out.box
    obtain ⟨u0', u1', u2', u3', u4', u5'⟩ := blk6 B1'
    have hfr3 := blk_free B1'
    have HB1' := Lib.hid B1'
    have HOW := Lib.hid (ownM_bel HM.out.own hbd)
    rw [HST.out]
    have HBX := Lib.hid (box_set (p := fst0 L) (t := wrdK L W (k + 1)) B1' (HM.out.bel.trans (hbd.mono HM.out.bel.size)) hlow)
    clear hb3 hbd B1'
    simp only []
    generalize hTN : wrdK L W (k + 1) = TN at *
    have HTN := Lib.hid hTN
    clear hTN
    go_upto_region 9 with fail
    obtain ⟨wz, hwz⟩ : ∃ wz, wz = (((((w3.setCell ⟨g5, 0, none⟩ (.int .i64 (fst0 L))).setCell ⟨g5, 1, none⟩ (.int .i64 (TN 0))).setCell ⟨g5, 2, none⟩ (.int .i64 (TN 1))).setCell ⟨g5, 3, none⟩ (.int .i64 (TN 2))).setCell ⟨g5, 4, none⟩ (.int .i64 (TN 3))).setCell ⟨g5, 5, none⟩ (.int .i64 (TN 4)) := ⟨_, rfl⟩
    obtain ⟨hz1, hz2, hz3', hz4⟩ := HBX.out wz hwz
    obtain ⟨t0, t1, t2, t3, t4, t5⟩ := blk6 hz1
    replace hz4 := Nat.le_of_eq hz4.symm
    have HZ1 := Lib.hid hz1
    have HZ2 := Lib.hid hz2
    have HOW2 := Lib.hid (hz3'.own HOW.out (fun r e => by have := (HOW.out.lt r e).1; omega))
    rw [← hwz]
    clear hz1 hz2 hz3' HBX hwz HOW
    have HIX : Hid (InRowM (wz.alloc (.cells (mcells (fst0 L) TN) 54)) (some ⟨wz.heap.size, 0, none⟩) [(fst0 L, TN)]) := Lib.hid (Or.inr ⟨_, _, rfl, (by simp), fun j hj => by
      obtain rfl : j = 0 := by simpa using hj
      exact blk6 (halloc_at _ _ _ rfl)⟩)
    have HOX : Hid (OwnM (wz.alloc (.cells (mcells (fst0 L) TN) 54)) (g5 + 1) v (begL L W k)) := Lib.hid (ownM_bel HOW2.out ((Below.refl _ _).alloc (Nat.le_refl _) _))
    have HBXX : Hid (Below w.heap.size w (wz.alloc (.cells (mcells (fst0 L) TN) 54))) := Lib.hid (HZ2.out.alloc HZ2.out.size _)
    have HBOX : Hid ((wz.alloc (.cells (mcells (fst0 L) TN) 54)).heap[g5]? = some (.cells (mcells (fst0 L) TN) 54 (0, 0))) := Lib.hid ((halloc_lt _ _ _ (by omega)).trans HZ1.out)
    have hq1 : g5 + 1 ≤ (wz.alloc (.cells (mcells (fst0 L) TN) 54)).heap.size := by rw [World.size_alloc]; omega
    have hq2 : w.heap.size ≤ (wz.alloc (.cells (mcells (fst0 L) TN) 54)).heap.size := by omega
    have hq3 : (begL L W k).length + 1 ≤ 2000000 := by rw [begL_len]; omega
    have HQ := Lib.hid (And.intro hq1 (And.intro hq2 hq3))
    clear hq1 hq2 hq3
    clear u0' u1' u2' u3' u4' u5' hfr3 y0 y1 y2 y3 y4 y5 hfr x0 x1 x2 x3 x4 x5 e1
    go_wp2_with (at_builtin; go_loud (refine wpList_appM rfl _ _ rfl (g5 + 1) _ (begL L W k) rfl HOX.out _ _ [(fst0 L, TN)] (fun e => by cases e) rfl HIX.out HQ.out.2.2 HQ.out.1 ?_; intro v1 w4 hown1 hgrow1; have HO1 := Lib.hid hown1; have HB4 := Lib.hid (HBXX.out.grown hgrow1 HQ.out.2.1 (fun q e => by have := (HOX.out.lt q e).1; omega)); have HX4 := Lib.hid (grown_at hgrow1 HBOX.out (fun e => by have := (HOX.out.lt _ e).1; omega)); clear hown1 hgrow1))
    refine wp_goto ?_
    refine HX.out hkm _ _ ⟨g5, v1, by omega, ⟨by rw [← HBS.out]; exact HO1.out, HB4.out, hlow, (Array.getElem?_eq_some_iff.1 HX4.out).1, ?_⟩, ?_⟩
    · rw [HTN.out]; exact HX4.out
    · rw [show ((k + 1 : Nat) : Int) = (k : Int) + 1 by omega]
      exact ⟨_, _, _, _, _, _, _, _, _, _, _, _, _, _, _, _, _, _, _, _, _, _, _, _, _, _, _, _, _, _, _, _, _, _, _, _, _, _, rfl⟩
  · obtain rfl : k = W.length := by omega
    have hkm2 : (((W.length : Nat) : Int) == (W.length : Int)) = true := by simp
    clear hck hbel hgk hC hM
    go_wp2_with fail
    refine (show bodyPost _ _ _ _ _ _ from bodyPost_ret (v := v) (by simp [results, Tryd.results55, go_sem]) rfl ?_)
    exact ⟨_, rfl, Joins.ownsRow_le HM.out.own (by omega), HM.out.bel⟩

set_option maxRecDepth 1000000 in
set_option maxHeartbeats 4000000 in
theorem mob_good (L : List MapN) (W : List Int) (hl2 : W.length ≤ 1048576) (hC : w5C L W = 0) (a1 : Option Addr) (c1 : Nat) (a2 : Option Addr) (c2 : Nat) (w : World) (hr1 : InRowM w a1 L) (hr2 : InRow w a2 W) :
    Calls Tryd.prog 55 #[.slice a1 L.length c1, .slice a2 W.length c2] w (RetOwnM w.heap.size (begL L W W.length) w) := by
  obtain ⟨hck, hbel, hw40⟩ := w5C_zero hC
  obtain ⟨hgood, hs1, hs6⟩ := good_of hck
  obtain ⟨hp1, hp5, hgk⟩ := hgood
  have HBL := below_any L.length W hl2 a2 c2 w hr2
  rw [hbel] at HBL
  have HBL := Lib.hid HBL
  have HID := Lib.hid fun w => iid_any (fst0 L) hp1 hp5 w
  have hlo : ¬ (40 < (W.length : Int)) := by omega
  have hpos : 0 < L.length := by omega
  have hf0 : (L.getD 0 z0).1 = fst0 L := rfl
  obtain ⟨b, off, rfl, hbl, hat0⟩ := hr1.at0 hpos
  obtain ⟨y0, y1, y2, y3, y4, y5⟩ := hat0
  rw [hf0] at y0
  have HR1 := Lib.hid hr1
  have HR2 := Lib.hid hr2
  have HC := Lib.hid hC
  clear hr1 hr2 hck hbel hgk hf0 hC y1 y2 y3 y4 y5
  simp only [mv, mcells] at HID
  go_enter Tryd.func55, Tryd.ntmps55
  go_wp2_with fail
  refine scope_labels (fun l => if l = 0 then some (.seq .skip rest5) else none) ?hat (fun l a' w' => l = 0 ∧ ∃ k, M5 w L W (some ⟨b, off, none⟩) a2 c1 c2 k a' w') ?hJ (fun l a' _ => W.length - slot7 a') ?first ?pass
  case hat =>
    intro l r h
    by_cases e0 : l = 0
    · subst e0; rw [if_pos rfl] at h; injection h with h; subst h; kernel_rfl
    · rw [if_neg e0] at h; cases h
  case hJ =>
    rintro l a' w' ⟨rfl, _⟩
    exact ⟨_, rfl⟩
  case pass =>
    rintro l r a' w' hl ⟨rfl, k, hM⟩
    rw [if_pos rfl] at hl
    injection hl with hl
    subst hl
    have hs := m5_slot hM
    rw [hs.1]
    obtain ⟨g5, v, hk, hMo, hf⟩ := hM
    obtain ⟨u8, hf⟩ := hf
    obtain ⟨u9, hf⟩ := hf
    obtain ⟨u10, hf⟩ := hf
    obtain ⟨u11, hf⟩ := hf
    obtain ⟨u12, hf⟩ := hf
    obtain ⟨u13, hf⟩ := hf
    obtain ⟨u14, hf⟩ := hf
    obtain ⟨u15, hf⟩ := hf
    obtain ⟨u16, hf⟩ := hf
    obtain ⟨u17, hf⟩ := hf
    obtain ⟨u18, hf⟩ := hf
    obtain ⟨u19, hf⟩ := hf
    obtain ⟨u20, hf⟩ := hf
    obtain ⟨u21, hf⟩ := hf
    obtain ⟨u22, hf⟩ := hf
    obtain ⟨u23, hf⟩ := hf
    obtain ⟨u24, hf⟩ := hf
    obtain ⟨u25, hf⟩ := hf
    obtain ⟨u26, hf⟩ := hf
    obtain ⟨u27, hf⟩ := hf
    obtain ⟨u28, hf⟩ := hf
    obtain ⟨u29, hf⟩ := hf
    obtain ⟨u30, hf⟩ := hf
    obtain ⟨u31, hf⟩ := hf
    obtain ⟨u32, hf⟩ := hf
    obtain ⟨u33, hf⟩ := hf
    obtain ⟨u34, hf⟩ := hf
    obtain ⟨u35, hf⟩ := hf
    obtain ⟨u36, hf⟩ := hf
    obtain ⟨u37, hf⟩ := hf
    obtain ⟨u38, hf⟩ := hf
    obtain ⟨u39, hf⟩ := hf
    obtain ⟨u40, hf⟩ := hf
    obtain ⟨u41, hf⟩ := hf
    obtain ⟨u42, hf⟩ := hf
    obtain ⟨u43, hf⟩ := hf
    obtain ⟨u44, hf⟩ := hf
    obtain ⟨u45, hf⟩ := hf
    subst hf
    refine skip_seq (body5_any L W HC.out _ c1 a2 c2 w HR1.out HR2.out k _ (fun hkl a' w' h => ?_) g5 v w' hk hMo _ _ _ _ _ _ _ _ _ _ _ _ _ _ _ _ _ _ _ _ _ _ _ _ _ _ _ _ _ _ _ _ _ _ _ _ _ _)
    have := m5_slot h
    exact ⟨⟨rfl, _, h⟩, by rw [this.1]; omega⟩
  case first =>
    go_wp2_with fail
    refine HBL.out.mono ?_
    rintro e w ⟨rfl, rfl⟩
    go_wp2_with fail
    refine (HID.out _).mono ?_
    rintro e w2 ⟨rfl, hb⟩
    have HB := Lib.hid hb
    have hz := hb.size
    clear hb
    have hMo : Mo5 w ((w2.alloc (.cells (mcells (fst0 L) (idn (fst0 L))) 54)).alloc (.cells (mcells (fst0 L) (idn (fst0 L))) 54)) L W 0 w2.heap.size (.slice (some ⟨w2.heap.size + 1, 0, none⟩) 1 1) := by
      refine ⟨⟨rfl, Or.inr ⟨w2.heap.size + 1, 1, mcells (fst0 L) (idn (fst0 L)), rfl, Nat.le_refl _, halloc_at _ _ _ (by simp), Nat.le_refl _, by unfold maxLen; omega, rfl, rfl⟩⟩, (HB.out.alloc hz _).alloc (by rw [World.size_alloc]; omega) _, hz, by simp; omega, ?_⟩
      exact (halloc_lt _ _ _ (by simp)).trans (halloc_at _ _ _ rfl)
    have HMo := Lib.hid hMo
    clear hMo
    go_wp2_with fail
    go_step3
    rename_i Kx hKx
    refine hKx _ _ (code_swap (c := rest5) (by kernel_rfl) ?_)
    exact body5_any L W HC.out _ c1 a2 c2 w HR1.out HR2.out 0 _ (fun hkl a' w' h => ⟨rfl, _, h⟩) w2.heap.size _ _ (Nat.zero_le _) HMo.out _ _ _ _ _ _ _ _ _ _ _ _ _ _ _ _ _ _ _ _ _ _ _ _ _ _ _ _ _ _ _ _ _ _ _ _ _ _

set_option maxRecDepth 1000000 in
set_option maxHeartbeats 4000000 in
theorem mob_bad (L : List MapN) (W : List Int) (hl2 : W.length ≤ 1048576) (hB : w5B L W = false) (a1 : Option Addr) (c1 : Nat) (a2 : Option Addr) (c2 : Nat) (w : World) (hr2 : InRow w a2 W) (E : Addr) (hE : w.cell? ⟨0, 0, none⟩ = some (.iface 100 (.pointer (some E)))) :
    Calls Tryd.prog 55 #[.slice a1 L.length c1, .slice a2 W.length c2] w fun e w' => e = .panicked [{ v := .iface 100 (.pointer (some E)), recovered := false }] ∧ w' = w := by
  have HBL := below_any L.length W hl2 a2 c2 w hr2
  clear hr2
  by_cases h40 : W.length ≤ 40
  · have hb : belB L.length W = false := by unfold w5B at hB; simpa [h40] using hB
    rw [hb] at HBL
    have HBL := Lib.hid HBL
    have hlo : ¬ (40 < (W.length : Int)) := by omega
    clear hB hb h40
    go_enter Tryd.func55, Tryd.ntmps55
    go_wp2_with fail
    go_step3
    go_wp2_with fail
    refine HBL.out.mono ?_
    rintro e w ⟨rfl, rfl⟩
    go_wp2_with fail
    exact ⟨rfl, rfl, rfl⟩
  · have hlo : 40 < (W.length : Int) := by omega
    clear hB HBL h40
    go_enter Tryd.func55, Tryd.ntmps55
    go_wp2_with fail
    go_step3
    go_wp2_with fail
    exact ⟨rfl, rfl, rfl⟩

end Go.Proofs.YthdjajelbpccpaaDoor
