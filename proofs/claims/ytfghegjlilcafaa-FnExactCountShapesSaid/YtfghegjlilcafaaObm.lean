/- The contract of impl.orbitOf at maps. -/
import Derived.Test.YtfghegjlilcafaaOrt
import Derived.Test.YtfghegjlilcafaaSmp
import Derived.Test.YtfghegjlilcafaaAll
import Derived.Test.YtfghegjlilcafaaChk
namespace Go.Proofs.Ytfghegjlilcafaa
open Go Go.RowKit Go.Maps

/-- The maps with these numbers. -/
def moL (p : Int) (E : List Nat) : List MapN := E.map fun c => (p, dcd c)
theorem moL_len (p : Int) (E : List Nat) : (moL p E).length = E.length := by simp [moL]
theorem moL_app (p : Int) (E : List Nat) (y : Nat) : moL p (E ++ [y]) = moL p E ++ [(p, dcd y)] := by simp [moL]
theorem moL_at (p : Int) (E : List Nat) (k : Nat) (h : k < E.length) : (moL p E).getD k z0 = (p, dcd (E.getD k 0)) := by
  unfold moL
  rw [List.getD_eq_getElem?_getD, List.getElem?_map, List.getD_eq_getElem?_getD, List.getElem?_eq_getElem h]
  rfl

/-- The call returns the maps that the steps lead to. -/
def RetOrbM (p : Int) (act : Nat → Nat → Nat) (m c : Nat) (B : Nat) (w : World) (e : Ending) (w' : World) : Prop :=
  ∃ a cap E, e = .returned (.agg #[.slice a E.length cap]) ∧ RdM w' B a (moL p E) ∧ Orbt act m (vld p) c E ∧ Below w.heap.size w w'

theorem RdM.setLow9 {w : World} {B g o : Nat} {v : Value} {a : Option Addr} {L : List MapN} (h : RdM w B a L) (hg : g < B) : RdM (w.setCell ⟨g, o, none⟩ v) B a L := by
  refine ⟨h.1, ?_⟩
  rcases h.2 with h0 | ⟨k, ha, hB, hk, hc, hf⟩
  · exact Or.inl h0
  · refine Or.inr ⟨k, ha, hB, by simpa using hk, fun i hi => (hc i hi).block (hset_ne _ _ _ _ (show k ≠ g by omega)), fun i hi => ?_⟩
    rw [World.frozen?_setCell]
    exact hf i hi

set_option maxRecDepth 100000 in
set_option maxHeartbeats 4000000 in
theorem iobm_any (p : Int) (act : Nat → Nat → Nat) (m c : Nat) (hm : m ≤ 4) (hc : vld p c) (hact : ∀ j, j < m → ∀ x, vld p x → vld p (act j x)) (ast : Option Addr) (cs : Nat) (sb : Nat → Nat) (w : World)
    (hs : m = 0 ∨ ∃ gs, ast = some ⟨gs, 0, none⟩ ∧ gs < w.heap.size ∧ ∀ j, j < m → w.cell? ⟨gs, j, none⟩ = some (.func (.func 103) #[] #[.pointer (some ⟨sb j, 0, none⟩)]))
    (HF : ∀ j, j < m → ∀ x, vld p x → ∀ W, Below w.heap.size w W → Calls Try.prog 103 #[mv p (dcd x), .pointer (some ⟨sb j, 0, none⟩)] W fun e w' => e = .returned (mv p (dcd (act j x))) ∧ Below W.heap.size W w') :
    Calls Try.prog 104 #[mv p (dcd c), .slice ast m cs] w (RetOrbM p act m c w.heap.size w) := by
  have HS := Lib.hid hs
  have HF := Lib.hid HF
  have HAC := Lib.hid hact
  have hmm := @run_makeMap Try.prog
  have HKY := Lib.hid (kyMap p)
  have HCV := Lib.hid hc
  obtain ⟨wm, hwm⟩ : ∃ wm, wm = ((w.alloc (.cells (mcells p (dcd c)) 28)).alloc (.cells #[.slice none 0 0] 70)).alloc (.cells (mcells p (dcd c)) 28) := ⟨_, rfl⟩
  have hsm : wm.heap.size = w.heap.size + 1 + 1 + 1 := by rw [hwm]; simp
  have HM0 : Hid (SetM 28 (fun c => kyL p (dcd c)) (vld p) (wm.alloc (.map #[] 0)) (w.heap.size + 1 + 1 + 1) []) := Lib.hid (by
    have h := setM_made (T := 28) (ky := fun c => kyL p (dcd c)) (P := vld p) wm
    rw [hsm] at h
    exact h)
  have HBM : Hid (Below w.heap.size w wm) := Lib.hid (by rw [hwm]; (repeat' (first | (with_reducible exact Below.refl _ _) | (with_reducible refine Below.alloc ?_ ?_ _) | (with_reducible refine Below.setCell ?_ ?_ _) | (with_reducible refine Below.drew ?_) | (with_reducible refine below_drewN ?_ _) | (with_reducible refine Below.trans ?_ (Below.mono (Hid.out (by assumption)) ?_)) | omega | (simp; done) | (simp; omega))))
  have HR0 : Hid (wm.heap[w.heap.size + 1]? = some (.cells #[.slice none 0 0] 70 (0, 0))) := Lib.hid (by rw [hwm]; exact (halloc_lt _ _ _ (by simp)).trans (halloc_at _ _ _ (by simp)))
  have HV0 : Hid (wm.heap[w.heap.size + 1 + 1]? = some (.cells (mcells p (dcd c)) 28 (0, 0))) := Lib.hid (by rw [hwm]; exact halloc_at _ _ _ (by simp))
  have HX0 : Hid (wm.heap[w.heap.size]? = some (.cells (mcells p (dcd c)) 28 (0, 0))) := Lib.hid (by rw [hwm]; exact (halloc_lt _ _ _ (by simp; omega)).trans ((halloc_lt _ _ _ (by simp)).trans (halloc_at _ _ _ rfl)))
  have HSM := Lib.hid hsm
  clear hs hact hc hsm
  simp only [mv] at HF
  simp only [mv, mcells]
  go_enter Try.func104, Try.ntmps104
  simp only [mcells] at hwm
  go_wp2_with (refine wpList_insert_own9 _ rfl _ _ _ 66 rfl 28 4 HKY.out.law Try.underlying66 selR (w.heap.size + 1 + 1 + 1) 0 _ rfl (by rw [hwm] at HM0; exact HM0.out.1) (by unfold maxLen; omega) _ _ _ rfl rfl (HKY.out.key c HCV.out) (.held (.bool true)) [] rfl ?_; intro w1 hmap1 hg1)
  clear hmm
  rw [← hwm] at hg1
  clear hwm
  have HM1 : Hid (SetM 28 (fun c => kyL p (dcd c)) (vld p) w1 (w.heap.size + 1 + 1 + 1) [c]) := Lib.hid (SetM.put (F := []) (fun x hx => by cases hx) HCV.out hmap1)
  have hs1 := hg1.size
  have hsm := HSM.out
  simp only [World.size_alloc] at hs1
  have HB1 : Hid (Below w.heap.size w w1) := Lib.hid ((HBM.out.alloc HBM.out.size _).grown hg1 (by simp; omega) (fun r e => by cases e; omega))
  have HR1 : Hid (w1.heap[w.heap.size + 1]? = some (.cells #[.slice none 0 0] 70 (0, 0))) := Lib.hid ((hg1.block _ (by simp; omega) (fun e => by injection e with e; omega)).trans ((halloc_lt _ _ _ (by omega)).trans HR0.out))
  have HOW : Hid (OwnM w1 (w.heap.size + 1 + 1) (.slice (some ⟨w.heap.size + 1 + 1, 0, none⟩) 1 1) (moL p [c])) := Lib.hid
    ⟨rfl, Or.inr ⟨w.heap.size + 1 + 1, 1, mcells p (dcd c), rfl, Nat.le_refl _, (hg1.block _ (by simp; omega) (fun e => by injection e with e; omega)).trans ((halloc_lt _ _ _ (by omega)).trans HV0.out), Nat.le_refl _, by unfold maxLen; omega, rfl, rfl⟩⟩
  clear hmap1 hg1
  go_wp2_with fail
  go_loopw [5, 7, 9, 10] (fun v i _ _ wr => ∃ (pos : Nat) (E : List Nat), i = .int .i64 (pos : Int) ∧ Obw act m (vld p) c pos 0 E ∧ OwnM wr (w.heap.size + 1 + 1) v (moL p E) ∧ SetM 28 (fun c => kyL p (dcd c)) (vld p) wr (w.heap.size + 1 + 1 + 1) E ∧ Below w.heap.size w wr ∧
      wr.heap[w.heap.size + 1]? = some (.cells #[.slice none 0 0] 70 (0, 0)) ∧ w.heap.size + 1 + 1 + 1 < wr.heap.size) (fun _ i _ _ _ => 3125 - (intOf i).toNat)
  case atStart => exact ⟨0, [c], rfl, Obw.start _ _ HCV.out, HOW.out, HM1.out, HB1.out, HR1.out, by omega⟩
  case round =>
    obtain ⟨pos, E, rfl, hob, hown, hmap, hb, hres, hszr⟩ := hrel
    have hEn := nodup_bound 3125 E hob.nd (fun x hx => (hob.vl x hx).1)
    have hpl := hob.pos
    have HOB := Lib.hid hob
    have HM := Lib.hid hmap
    have HB := Lib.hid hb
    have HR := Lib.hid hres
    have HO := Lib.hid hown
    clear hob hmap hb hres hown
    obtain ⟨wo, hwo⟩ : ∃ wo, wo = wr := ⟨_, rfl⟩
    subst hwo
    by_cases hpE : pos < E.length
    · have hpE' : (pos : Int) < (E.length : Int) := by omega
      obtain ⟨a0, c0, hv0, hrd0⟩ := ownM_rd HO.out (by rw [moL_len]; omega)
      rw [moL_len] at hv0
      have HV0' := Lib.hid hv0
      clear hrd0
      rw [hv0]
      clear hv0
      go_wp2_with fail
      go_loopw [5, 9, 10, 24] (fun v _ _ i wx => ∃ (j : Nat) (E : List Nat), j ≤ m ∧ i = .int .i64 (j : Int) ∧ pos < E.length ∧ Obw act m (vld p) c pos j E ∧ OwnM wx (w.heap.size + 1 + 1) v (moL p E) ∧ SetM 28 (fun c => kyL p (dcd c)) (vld p) wx (w.heap.size + 1 + 1 + 1) E ∧ Below w.heap.size w wx ∧
        wx.heap[w.heap.size + 1]? = some (.cells #[.slice none 0 0] 70 (0, 0)) ∧ w.heap.size + 1 + 1 + 1 < wx.heap.size) (fun _ _ _ i _ => m - (intOf i).toNat)
      case atStart => exact ⟨0, E, by omega, rfl, hpE, HOB.out, by rw [← HV0'.out]; exact HO.out, HM.out, HB.out, HR.out, hszr⟩
      case round =>
        clear hpE hpE' hEn hpl HOB HM HB HR HO HV0' hszr
        obtain ⟨j, E2, hj, rfl, hpE, hob, hown, hmap, hb, hres, hszr⟩ := hrel
        have hEn := nodup_bound 3125 E2 hob.nd (fun x hx => (hob.vl x hx).1)
        have HOB := Lib.hid hob
        have HM := Lib.hid hmap
        have HB := Lib.hid hb
        have HR := Lib.hid hres
        obtain ⟨a, cap, rfl, hrd⟩ := ownM_rd hown (by rw [moL_len]; omega)
        rw [moL_len] at hown
        have HO := Lib.hid hown
        have HRD := Lib.hid hrd
        have HIL := Lib.hid (moL_len p E2)
        have HAP : Hid (some (w.heap.size + 1 + 1 + 1) ≠ (Value.slice a E2.length cap).ownBlock) := Lib.hid (hmap.apart hown)
        clear hob hown hmap hb hres hrd
        rw [HIL.out]
        by_cases hjm : j < m
        · have hjm' : (j : Int) < (m : Int) := by omega
          have hpE' : (pos : Int) < (E2.length : Int) := by omega
          obtain ⟨gE, rfl, hat⟩ := HRD.out.at6 pos (by rw [HIL.out]; exact hpE)
          rw [moL_at p E2 pos hpE] at hat
          obtain ⟨x0, x1, x2, x3, x4, x5⟩ := hat
          have hxv : vld p (E2.getD pos 0) := HOB.out.vl _ (getD_in pos hpE)
          have hyv := HAC.out j hjm _ hxv
          have HFX := Lib.hid fun W h => HF.out j hjm (E2.getD pos 0) hxv W h
          obtain ⟨gs, rfl, hgl, hst⟩ := HS.out.resolve_left (by omega)
          have f0 := (HB.out.cell (p := ⟨gs, j, none⟩) hgl).trans (hst j hjm)
          have HIN := Lib.hid fun h => HOB.out.old (i := j) h
          have HNW := Lib.hid fun h => HOB.out.new (i := j) hjm hpE hyv h
          have HKK := Lib.hid (HKY.out.key _ hyv)
          have HYV := Lib.hid hyv
          have HST := Lib.hid hst
          clear hst hyv hxv
          generalize hx : E2.getD pos 0 = x at *
          generalize hy : act j x = y at *
          simp only [mcells] at HFX
          go_wp2_with fail
          refine (HFX.out _ HB.out).mono ?_
          rintro e w3 ⟨rfl, hb⟩
          have hs3 := hb.size
          have hb4 : Below wr.heap.size wr (w3.alloc (.cells (mcells p (dcd y)) 28)) := hb.alloc hs3 _
          have hx4 : (w3.alloc (.cells (mcells p (dcd y)) 28)).heap[w3.heap.size]? = some (.cells (mcells p (dcd y)) 28 (0, 0)) := halloc_at _ _ _ rfl
          have hlk := (HM.out.below hb4).look (MT := 66) Try.underlying66 HKY.out HYV.out
          have HB4 := Lib.hid hb4
          have HX4 := Lib.hid hx4
          have HBW4 : Hid (Below w.heap.size w (w3.alloc (.cells (mcells p (dcd y)) 28))) := Lib.hid (HB.out.trans (hb4.mono HB.out.size))
          have HM4 := Lib.hid (HM.out.below hb4)
          have HO4 := Lib.hid (OwnM.bel HO.out hb4)
          have HR4 := Lib.hid ((hb4.block _ (by omega)).trans HR.out)
          clear hb hb4 hx4
          simp only [mcells, mv] at hlk HB4 HX4 HM4 HO4 HR4 HBW4
          by_cases hm : y ∈ E2
          · rw [decide_eq_true hm] at hlk
            have HOB2 := Lib.hid (HIN.out hm)
            clear hm
            go_wp2_with fail
            go_roundw
            case rel => exact ⟨j + 1, E2, by omega, by go_num, hpE, HOB2.out, HO4.out, HM4.out, HBW4.out, HR4.out, by simp; omega⟩
            case measure => simp [intOf]; omega
          · rw [decide_eq_false hm] at hlk
            have HOB2 := Lib.hid (HNW.out hm)
            have HAPP := Lib.hid (moL_app p E2 y)
            have hE1 : E2.length < 3126 := by omega
            have hne3 : w.heap.size + 1 + 1 + 1 < w3.heap.size := by omega
            simp only [mv, mcells] at HKK
            clear hm
            go_wp2_with (first
              | (at_mapUpdate; refine wpList_mapUpdate_own _ rfl _ _ _ 66 rfl 28 4 HKY.out.law Try.underlying66 selR (w.heap.size + 1 + 1 + 1) E2.length _ rfl HM4.out.1 (by unfold maxLen; omega) _ _ _ rfl rfl HKK.out (.held (.bool true)) [] rfl ?_; intro w5 hmap5 hg5; have hx5 := (hg5.block w3.heap.size (by simp) (fun e => by injection e with e; omega)).trans HX4.out; obtain ⟨y0, y1, y2, y3, y4, y5⟩ := blk6 hx5; have HG5 := Lib.hid hg5; have HMP5 := Lib.hid hmap5; have hs5 := hg5.size; (try simp only [World.size_alloc] at hs5); clear hg5 hmap5 hx5)
              | (at_builtin; refine wpList_app6 rfl _ _ rfl (w.heap.size + 1 + 1) _ (moL p E2) rfl (World.ownsRow.alloc (World.ownsRow.kept HO4.out HG5.out (Or.inr fun e => HAP.out e.symm)) _) w5.heap.size 1 (p, dcd y) rfl (halloc_at _ _ _ rfl) (by rw [HIL.out]; omega) (by simp; omega) ?_; intro v' w6 ho hg6 _))
            have hs6 := hg6.size
            simp only [World.size_alloc] at hs6
            have hne5 : some (w.heap.size + 1) ≠ (Value.slice (some ⟨gE, 0, none⟩) E2.length cap).ownBlock := fun e => by have := (HO4.out.lt _ e.symm).1; omega
            have hb5 : Below w.heap.size w w5 := HBW4.out.grown HG5.out HBW4.out.size (fun r e => by cases e; omega)
            have hm5 := SetM.put HM4.out.2 HYV.out HMP5.out
            have hr5 := (HG5.out.block (w.heap.size + 1) (by simp; omega) (fun e => by injection e with e; omega)).trans HR4.out
            have hb6 : Below w.heap.size w w6 := (hb5.alloc hb5.size _).grown hg6 (by simp; omega) (fun r e => by have := (HO4.out.lt r e).1; omega)
            rw [← HAPP.out] at ho
            refine ⟨⟨j + 1, E2 ++ [y], by omega, by go_num, by simp; omega, HOB2.out, ho, ?_, hb6, ?_, by omega⟩, by simp [intOf]; omega⟩
            · exact (hm5.below ((Below.refl _ _).alloc (Nat.le_refl _) _)).kept hg6 HAP.out
            · exact (hg6.block _ (by simp; omega) hne5).trans ((halloc_lt _ _ _ (by omega)).trans hr5)
        · obtain rfl : j = m := by omega
          have HOB2 := Lib.hid (HOB.out.next hpE)
          go_wp2_with fail
          go_roundw
          case rel => exact ⟨pos + 1, E2, by go_num, HOB2.out, HO.out, HM.out, HB.out, HR.out, hszr⟩
          case measure => simp [intOf]; omega
    · have hpE' : ¬ ((pos : Int) < (E.length : Int)) := by omega
      obtain rfl : pos = E.length := by omega
      obtain ⟨a, cap, hv0, hrd⟩ := ownM_rd HO.out (by rw [moL_len]; omega)
      rw [moL_len] at hv0
      rw [hv0]
      have HRD := Lib.hid hrd
      have HFI := Lib.hid HOB.out.fin
      have e0 := Joins.cell_of_block HR.out 0
      have hfr := Joins.unfrozen_of_block HR.out 0
      simp only [List.getElem?_toArray, List.getElem?_cons_zero] at e0
      have hszz : w.heap.size + 1 < wo.heap.size := by omega
      clear hv0 hrd
      go_wp2_with fail
      refine bodyPost_ret (v := .agg #[.slice a E.length cap]) (by simp [results, Try.results104, go_sem, *]) rfl ⟨a, cap, E, rfl, ?_, HFI.out, HB.out.setCell (by simp) _⟩
      have h2 := RdM.setLow9 (o := 0) (v := .slice a E.length cap) HRD.out (show w.heap.size + 1 < w.heap.size + 1 + 1 by omega)
      exact h2.mono (by omega)

end Go.Proofs.Ytfghegjlilcafaa
