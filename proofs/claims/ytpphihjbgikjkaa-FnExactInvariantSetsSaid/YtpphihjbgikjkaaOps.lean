/- The contract of impl.orbitOf at sets of points; that of impl.union and of the closure of impl.InvariantSets. -/
import Derived.Test.YtpphihjbgikjkaaNsi
import Derived.Test.YtpphihjbgikjkaaOio
import Derived.Test.YtpphihjbgikjkaaIvk
namespace Go.Proofs.Ytpphihjbgikjkaa
open Go Go.RowKit Go.Maps

/-- Keys that are sets. -/
theorem kySet : KyLaw 60 (fun c => .agg (cells5 (btF c))) (fun c => k5L (btF c)) (fun c => c < 32) :=
  ⟨law5, fun c _ => keyOf_5 (btF c), fun a b ha hb e => by
    have h := k5L_inj.1 e
    have h2 : mask (btF a) = mask (btF b) := by unfold mask; rw [h 0 (by omega), h 1 (by omega), h 2 (by omega), h 3 (by omega), h 4 (by omega)]
    rw [bt_mask a ha, bt_mask b hb] at h2
    omega⟩

/-- The sets of numbers. -/
def seL (E : List Nat) : List (Nat → Bool) := E.map btF
theorem seL_len (E : List Nat) : (seL E).length = E.length := by simp [seL]
theorem seL_app (E : List Nat) (y : Nat) : seL (E ++ [y]) = seL E ++ [btF y] := by simp [seL]
theorem seL_at (E : List Nat) (k : Nat) (h : k < E.length) : (seL E).getD k (fun _ => false) = btF (E.getD k 0) := by
  unfold seL
  rw [List.getD_eq_getElem?_getD, List.getElem?_map, List.getD_eq_getElem?_getD, List.getElem?_eq_getElem h]
  rfl

theorem OwnP.bel {w w' : World} {B : Nat} {v : Value} {M : List (Nat → Bool)} (h : OwnP w B v M) (hb : Below w.heap.size w w') : OwnP w' B v M :=
  (Turn.of_below (S := fun _ => False) hb).own h (fun _ _ h => h)

/-- The cells of a list of sets of one's own. -/
theorem ownP_cell {w : World} {B : Nat} {v : Value} {P : List (Nat → Bool)} (h : OwnP w B v P) {j : Nat} (hj : j < P.length) :
    ∃ g cap, v = .slice (some ⟨g, 0, none⟩) P.length cap ∧ B ≤ g ∧ g < w.heap.size ∧ ∀ i, i < 5 → w.cell? ⟨g, j * 5 + i, none⟩ = some (.bool ((P.getD j (fun _ => false)) i)) := by
  rcases h.2 with ⟨_, h0⟩ | ⟨g, cap, cur, h1, hB, hg, hn, hcap, hsz, htk⟩
  · omega
  · refine ⟨g, cap, h1, hB, (Array.getElem?_eq_some_iff.1 hg).1, fun i hi => ?_⟩
    rw [Joins.cell_of_block hg, ← Array.getElem?_toList]
    have e : (cur.toList.take (P.length * 5))[j * 5 + i]? = (pcl P)[j * 5 + i]? := by rw [htk]
    rw [List.getElem?_take, if_pos (by omega)] at e
    rw [e]
    exact pcl_at P j i hi hj

theorem ownP_form {w : World} {B : Nat} {v : Value} {P : List (Nat → Bool)} (h : OwnP w B v P) : ∃ a cap, v = .slice a P.length cap := by
  rcases h.2 with ⟨h1, h0⟩ | ⟨g, cap, cur, h1, _⟩
  · exact ⟨none, 0, by rw [h1, h0]⟩
  · exact ⟨_, cap, h1⟩

theorem ownP_setLow {w : World} {B g o : Nat} {v u : Value} {P : List (Nat → Bool)} (h : OwnP w B v P) (hg : g < B) : OwnP (w.setCell ⟨g, o, none⟩ u) B v P :=
  ((Turn.of_below (S := fun r => r = g) (Below.refl _ _)).setCell rfl).own h (fun r e => by have := (h.lt r e).1; omega)

/-- The call returns the sets that the steps lead to, the first one ahead. -/
def RetOrbS (act : Nat → Nat → Nat) (m c : Nat) (B : Nat) (w : World) (e : Ending) (w' : World) : Prop :=
  ∃ v E, e = .returned (.agg #[v]) ∧ OwnP w' B v (seL E) ∧ Orbt act m (fun x => x < 32) c E ∧ E.getD 0 0 = c ∧ Below w.heap.size w w'

set_option maxRecDepth 100000 in
set_option maxHeartbeats 4000000 in
theorem iobs_any (act : Nat → Nat → Nat) (m c : Nat) (hm : m ≤ 5) (hc : c < 32) (hact : ∀ j, j < m → ∀ x, x < 32 → act j x < 32) (ast : Option Addr) (cs : Nat) (sb : Nat → Nat) (w : World)
    (hs : m = 0 ∨ ∃ gs, ast = some ⟨gs, 0, none⟩ ∧ gs < w.heap.size ∧ ∀ j, j < m → w.cell? ⟨gs, j, none⟩ = some (.func (.func 45) #[] #[.pointer (some ⟨sb j, 0, none⟩)]))
    (HF : ∀ j, j < m → ∀ x, x < 32 → ∀ W, Below w.heap.size w W → Calls Try.prog 45 #[.agg (cells5 (btF x)), .pointer (some ⟨sb j, 0, none⟩)] W fun e w' => e = .returned (.agg (cells5 (btF (act j x)))) ∧ Below W.heap.size W w') :
    Calls Try.prog 47 #[.agg (cells5 (btF c)), .slice ast m cs] w (RetOrbS act m c w.heap.size w) := by
  have HS := Lib.hid hs
  have HF := Lib.hid HF
  have HAC := Lib.hid hact
  have hmm := @run_makeMap Try.prog
  have HKY := Lib.hid kySet
  have HCV := Lib.hid hc
  obtain ⟨wm, hwm⟩ : ∃ wm, wm = ((w.alloc (.cells (cells5 (btF c)) 60)).alloc (.cells #[.slice none 0 0] 74)).alloc (.cells (cells5 (btF c)) 60) := ⟨_, rfl⟩
  have hsm : wm.heap.size = w.heap.size + 1 + 1 + 1 := by rw [hwm]; simp
  have HM0 : Hid (SetM 60 (fun c => k5L (btF c)) (fun x => x < 32) (wm.alloc (.map #[] 0)) (w.heap.size + 1 + 1 + 1) []) := Lib.hid (by
    have h := setM_made (T := 60) (ky := fun c => k5L (btF c)) (P := fun x => x < 32) wm
    rw [hsm] at h
    exact h)
  have HBM : Hid (Below w.heap.size w wm) := Lib.hid (by rw [hwm]; (repeat' (first | (with_reducible exact Below.refl _ _) | (with_reducible refine Below.alloc ?_ ?_ _) | (with_reducible refine Below.setCell ?_ ?_ _) | (with_reducible refine Below.drew ?_) | (with_reducible refine below_drewN ?_ _) | (with_reducible refine Below.trans ?_ (Below.mono (Hid.out (by assumption)) ?_)) | omega | (simp; done) | (simp; omega))))
  have HR0 : Hid (wm.heap[w.heap.size + 1]? = some (.cells #[.slice none 0 0] 74 (0, 0))) := Lib.hid (by rw [hwm]; exact (halloc_lt _ _ _ (by simp)).trans (halloc_at _ _ _ (by simp)))
  have HV0 : Hid (wm.heap[w.heap.size + 1 + 1]? = some (.cells (cells5 (btF c)) 60 (0, 0))) := Lib.hid (by rw [hwm]; exact halloc_at _ _ _ (by simp))
  have HSM := Lib.hid hsm
  clear hs hact hc hsm
  simp only [cells5] at HF hwm
  simp only [cells5]
  go_enter Try.func47, Try.ntmps47
  go_wp2_with (refine wpList_insert_own9 _ rfl _ _ _ 95 rfl 60 4 HKY.out.law Try.underlying95 selR (w.heap.size + 1 + 1 + 1) 0 _ rfl (by rw [hwm] at HM0; exact HM0.out.1) (by unfold maxLen; omega) _ _ _ rfl rfl (HKY.out.key c HCV.out) (.held (.bool true)) [] rfl ?_; intro w1 hmap1 hg1)
  clear hmm
  rw [← hwm] at hg1
  clear hwm
  have HM1 : Hid (SetM 60 (fun c => k5L (btF c)) (fun x => x < 32) w1 (w.heap.size + 1 + 1 + 1) [c]) := Lib.hid (SetM.put (F := []) (fun x hx => by cases hx) HCV.out hmap1)
  have hs1 := hg1.size
  have hsm := HSM.out
  simp only [World.size_alloc] at hs1
  have HB1 : Hid (Below w.heap.size w w1) := Lib.hid ((HBM.out.alloc HBM.out.size _).grown hg1 (by simp; omega) (fun r e => by cases e; omega))
  have HR1 : Hid (w1.heap[w.heap.size + 1]? = some (.cells #[.slice none 0 0] 74 (0, 0))) := Lib.hid ((hg1.block _ (by simp; omega) (fun e => by injection e with e; omega)).trans ((halloc_lt _ _ _ (by omega)).trans HR0.out))
  have HOW : Hid (OwnP w1 (w.heap.size + 1 + 1) (.slice (some ⟨w.heap.size + 1 + 1, 0, none⟩) 1 1) (seL [c])) := Lib.hid
    ⟨rfl, Or.inr ⟨w.heap.size + 1 + 1, 1, cells5 (btF c), rfl, Nat.le_refl _, (hg1.block _ (by simp; omega) (fun e => by injection e with e; omega)).trans ((halloc_lt _ _ _ (by omega)).trans HV0.out), Nat.le_refl _, by unfold maxLen; omega, rfl, rfl⟩⟩
  clear hmap1 hg1
  go_wp2_with fail
  go_loopw [5, 7, 9, 10] (fun v i _ _ wr => ∃ (pos : Nat) (E : List Nat), i = .int .i64 (pos : Int) ∧ Obw act m (fun x => x < 32) c pos 0 E ∧ E.getD 0 0 = c ∧ OwnP wr (w.heap.size + 1 + 1) v (seL E) ∧ SetM 60 (fun c => k5L (btF c)) (fun x => x < 32) wr (w.heap.size + 1 + 1 + 1) E ∧ Below w.heap.size w wr ∧
      wr.heap[w.heap.size + 1]? = some (.cells #[.slice none 0 0] 74 (0, 0)) ∧ w.heap.size + 1 + 1 + 1 < wr.heap.size) (fun _ i _ _ _ => 32 - (intOf i).toNat)
  case atStart => exact ⟨0, [c], rfl, Obw.start _ _ HCV.out, rfl, HOW.out, HM1.out, HB1.out, HR1.out, by omega⟩
  case round =>
    obtain ⟨pos, E, rfl, hob, hhd, hown, hmap, hb, hres, hszr⟩ := hrel
    have hEn := nodup_bound 32 E hob.nd (fun x hx => hob.vl x hx)
    have hpl := hob.pos
    have HOB := Lib.hid hob
    have HHD := Lib.hid hhd
    have HM := Lib.hid hmap
    have HB := Lib.hid hb
    have HR := Lib.hid hres
    have HO := Lib.hid hown
    clear hob hhd hmap hb hres hown
    obtain ⟨wo, hwo⟩ : ∃ wo, wo = wr := ⟨_, rfl⟩
    subst hwo
    by_cases hpE : pos < E.length
    · have hpE' : (pos : Int) < (E.length : Int) := by omega
      obtain ⟨a0, c0, hv0⟩ := ownP_form HO.out
      rw [seL_len] at hv0
      have HV0' := Lib.hid hv0
      rw [hv0]
      clear hv0
      go_wp2_with fail
      go_loopw [5, 9, 10, 24] (fun v _ _ i wx => ∃ (j : Nat) (E : List Nat), j ≤ m ∧ i = .int .i64 (j : Int) ∧ pos < E.length ∧ Obw act m (fun x => x < 32) c pos j E ∧ E.getD 0 0 = c ∧ OwnP wx (w.heap.size + 1 + 1) v (seL E) ∧ SetM 60 (fun c => k5L (btF c)) (fun x => x < 32) wx (w.heap.size + 1 + 1 + 1) E ∧ Below w.heap.size w wx ∧
        wx.heap[w.heap.size + 1]? = some (.cells #[.slice none 0 0] 74 (0, 0)) ∧ w.heap.size + 1 + 1 + 1 < wx.heap.size) (fun _ _ _ i _ => m - (intOf i).toNat)
      case atStart => exact ⟨0, E, by omega, rfl, hpE, HOB.out, HHD.out, by rw [← HV0'.out]; exact HO.out, HM.out, HB.out, HR.out, hszr⟩
      case round =>
        clear hpE hpE' hEn hpl HOB HHD HM HB HR HO HV0' hszr
        obtain ⟨j, E2, hj, rfl, hpE, hob, hhd, hown, hmap, hb, hres, hszr⟩ := hrel
        have hEn := nodup_bound 32 E2 hob.nd (fun x hx => hob.vl x hx)
        have HOB := Lib.hid hob
        have HHD := Lib.hid hhd
        have HM := Lib.hid hmap
        have HB := Lib.hid hb
        have HR := Lib.hid hres
        have HIL := Lib.hid (seL_len E2)
        have HO := Lib.hid hown
        obtain ⟨gE, cap, rfl, hgE1, hgE2, hcl⟩ := ownP_cell hown (j := pos) (by rw [HIL.out]; exact hpE)
        rw [HIL.out] at hown
        have HAP : Hid (some (w.heap.size + 1 + 1 + 1) ≠ (Value.slice (some ⟨gE, 0, none⟩) E2.length cap).ownBlock) := Lib.hid (hmap.apart hown)
        rw [HIL.out] at HO
        clear hob hhd hown hmap hb hres
        rw [HIL.out]
        by_cases hjm : j < m
        · have hjm' : (j : Int) < (m : Int) := by omega
          have hpE' : (pos : Int) < (E2.length : Int) := by omega
          rw [seL_at E2 pos hpE] at hcl
          have x0 := hcl 0 (by omega)
          have x1 := hcl 1 (by omega)
          have x2 := hcl 2 (by omega)
          have x3 := hcl 3 (by omega)
          have x4 := hcl 4 (by omega)
          rw [Nat.add_zero] at x0
          have hxv : E2.getD pos 0 < 32 := HOB.out.vl _ (getD_in pos hpE)
          have hyv := HAC.out j hjm _ hxv
          have HFX := Lib.hid fun W h => HF.out j hjm (E2.getD pos 0) hxv W h
          obtain ⟨gs, rfl, hgl, hst⟩ := HS.out.resolve_left (by omega)
          have f0 := (HB.out.cell (p := ⟨gs, j, none⟩) hgl).trans (hst j hjm)
          have HIN := Lib.hid fun h => HOB.out.old (i := j) h
          have HNW := Lib.hid fun h => HOB.out.new (i := j) hjm hpE hyv h
          have HKK := Lib.hid (HKY.out.key _ hyv)
          have HYV := Lib.hid hyv
          have HST := Lib.hid hst
          clear hst hyv hxv hcl
          generalize hx : E2.getD pos 0 = x at *
          generalize hy : act j x = y at *
          go_wp2_with fail
          refine (HFX.out _ HB.out).mono ?_
          rintro e w3 ⟨rfl, hb⟩
          have hs3 := hb.size
          have hb4 : Below wr.heap.size wr (w3.alloc (.cells (cells5 (btF y)) 60)) := hb.alloc hs3 _
          have hx4 : (w3.alloc (.cells (cells5 (btF y)) 60)).heap[w3.heap.size]? = some (.cells (cells5 (btF y)) 60 (0, 0)) := halloc_at _ _ _ rfl
          have hlk := (HM.out.below hb4).look (MT := 95) Try.underlying95 HKY.out HYV.out
          have HB4 := Lib.hid hb4
          have HX4 := Lib.hid hx4
          have HBW4 : Hid (Below w.heap.size w (w3.alloc (.cells (cells5 (btF y)) 60))) := Lib.hid (HB.out.trans (hb4.mono HB.out.size))
          have HM4 := Lib.hid (HM.out.below hb4)
          have HO4 := Lib.hid (OwnP.bel HO.out hb4)
          have HR4 := Lib.hid ((hb4.block _ (by omega)).trans HR.out)
          clear hb hb4 hx4
          simp only [cells5] at hlk HB4 HX4 HM4 HO4 HR4 HBW4
          by_cases hm : y ∈ E2
          · rw [decide_eq_true hm] at hlk
            have HOB2 := Lib.hid (HIN.out hm)
            clear hm
            go_wp2_with fail
            go_roundw
            case rel => exact ⟨j + 1, E2, by omega, by go_num, hpE, HOB2.out, HHD.out, HO4.out, HM4.out, HBW4.out, HR4.out, by simp; omega⟩
            case measure => simp [intOf]; omega
          · rw [decide_eq_false hm] at hlk
            have HOB2 := Lib.hid (HNW.out hm)
            have HAPP := Lib.hid (seL_app E2 y)
            have hE1 : E2.length < 33 := by omega
            have hne3 : w.heap.size + 1 + 1 + 1 < w3.heap.size := by omega
            simp only [cells5] at HKK
            clear hm
            go_wp2_with (first
              | (at_mapUpdate; refine wpList_mapUpdate_own _ rfl _ _ _ 95 rfl 60 4 HKY.out.law Try.underlying95 selR (w.heap.size + 1 + 1 + 1) E2.length _ rfl HM4.out.1 (by unfold maxLen; omega) _ _ _ rfl rfl HKK.out (.held (.bool true)) [] rfl ?_; intro w5 hmap5 hg5; have hx5 := (hg5.block w3.heap.size (by simp) (fun e => by injection e with e; omega)).trans HX4.out; obtain ⟨y0, y1, y2, y3, y4⟩ := blk5 hx5; have HG5 := Lib.hid hg5; have HMP5 := Lib.hid hmap5; have hs5 := hg5.size; (try simp only [World.size_alloc] at hs5); clear hg5 hmap5 hx5)
              | (at_builtin; refine wpList_appP rfl _ _ rfl (w.heap.size + 1 + 1) _ (seL E2) rfl (World.ownsRow.alloc (World.ownsRow.kept HO4.out HG5.out (Or.inr fun e => HAP.out e.symm)) _) w5.heap.size 1 (btF y) rfl (by simpa [cells5] using halloc_at w5 (.cells #[.bool (btF y 0), .bool (btF y 1), .bool (btF y 2), .bool (btF y 3), .bool (btF y 4)] 60) _ rfl) (by rw [HIL.out]; omega) (by simp; omega) ?_; intro v' w6 ho hg6))
            have hs6 := hg6.size
            simp only [World.size_alloc] at hs6
            have hne5 : some (w.heap.size + 1) ≠ (Value.slice (some ⟨gE, 0, none⟩) E2.length cap).ownBlock := fun e => by have := (HO4.out.lt _ e.symm).1; omega
            have hb5 : Below w.heap.size w w5 := HBW4.out.grown HG5.out HBW4.out.size (fun r e => by cases e; omega)
            have hm5 := SetM.put HM4.out.2 HYV.out HMP5.out
            have hr5 := (HG5.out.block (w.heap.size + 1) (by simp; omega) (fun e => by injection e with e; omega)).trans HR4.out
            have hb6 : Below w.heap.size w w6 := (hb5.alloc hb5.size _).grown hg6 (by simp; omega) (fun r e => by have := (HO4.out.lt r e).1; omega)
            have hhd2 : (E2 ++ [y]).getD 0 0 = c := by rw [getD_app 0 y (by omega)]; exact HHD.out
            rw [← HAPP.out] at ho
            refine ⟨⟨j + 1, E2 ++ [y], by omega, by go_num, by simp; omega, HOB2.out, hhd2, ho, ?_, hb6, ?_, by omega⟩, by simp [intOf]; omega⟩
            · exact (hm5.below ((Below.refl _ _).alloc (Nat.le_refl _) _)).kept hg6 HAP.out
            · exact (hg6.block _ (by simp; omega) hne5).trans ((halloc_lt _ _ _ (by omega)).trans hr5)
        · obtain rfl : j = m := by omega
          have HOB2 := Lib.hid (HOB.out.next hpE)
          go_wp2_with fail
          go_roundw
          case rel => exact ⟨pos + 1, E2, by go_num, HOB2.out, HHD.out, HO.out, HM.out, HB.out, HR.out, hszr⟩
          case measure => simp [intOf]; omega
    · have hpE' : ¬ ((pos : Int) < (E.length : Int)) := by omega
      obtain rfl : pos = E.length := by omega
      obtain ⟨a, cap, hv0⟩ := ownP_form HO.out
      rw [seL_len] at hv0
      have HO9 := HO.out
      rw [hv0] at HO9
      have HO9 := Lib.hid HO9
      rw [hv0]
      have HFI := Lib.hid HOB.out.fin
      have e0 := Joins.cell_of_block HR.out 0
      have hfr := Joins.unfrozen_of_block HR.out 0
      simp only [List.getElem?_toArray, List.getElem?_cons_zero] at e0
      have hszz : w.heap.size + 1 < wo.heap.size := by omega
      clear hv0
      go_wp2_with fail
      refine bodyPost_ret (v := .agg #[.slice a E.length cap]) (by simp [results, Try.results47, go_sem, *]) rfl ⟨_, E, rfl, ?_, HFI.out, HHD.out, HB.out.setCell (by simp) _⟩
      have h2 := ownP_setLow (o := 0) (u := .slice a E.length cap) HO9.out (show w.heap.size + 1 < w.heap.size + 1 + 1 by omega)
      exact World.ownsRow.mono h2 (by omega)

end Go.Proofs.Ytpphihjbgikjkaa
