/- The contract of impl.orbitOf at numbers with some steps. -/
import Derived.Test.YtpphihjbgikjkaaDoorOrt
import Derived.Test.YtpphihjbgikjkaaDoorSmp
import Derived.Test.YtpphihjbgikjkaaDoorCni
namespace Go.Proofs.YtpphihjbgikjkaaDoor
open Go Go.RowKit Go.Maps

/-- Numbers as integers. -/
def inJ (E : List Nat) : List Int := E.map fun (x : Nat) => (x : Int)
theorem inJ_len (E : List Nat) : (inJ E).length = E.length := by simp [inJ]
theorem inJ_app (E : List Nat) (y : Nat) : inJ (E ++ [y]) = inJ E ++ [(y : Int)] := by simp [inJ]
theorem inJ_at (E : List Nat) (k : Nat) (h : k < E.length) : (inJ E).getD k 0 = (E.getD k 0 : Int) := by
  unfold inJ
  rw [List.getD_eq_getElem?_getD, List.getElem?_map, List.getD_eq_getElem?_getD, List.getElem?_eq_getElem h]
  rfl

theorem Rd.setLowJ {w : World} {B g o : Nat} {v : Value} {a : Option Addr} {L : List Int} (h : Rd w B a L) (hg : g < B) : Rd (w.setCell ⟨g, o, none⟩ v) B a L := by
  refine ⟨h.1, ?_⟩
  rcases h.2 with h0 | ⟨k, ha, hB, hk, hc⟩
  · exact Or.inl h0
  · refine Or.inr ⟨k, ha, hB, by simpa using hk, fun i hi => ?_⟩
    rw [World.cell?_setCell_other _ _ _ _ (by intro e; injection e with e _; omega), World.frozen?_setCell]
    exact hc i hi

/-- The call returns the numbers that the steps lead to. -/
def RetOrbJ (n : Nat) (act : Nat → Nat → Nat) (m c : Nat) (B : Nat) (w : World) (e : Ending) (w' : World) : Prop :=
  ∃ a cap E, e = .returned (.agg #[.slice a E.length cap]) ∧ Rd w' B a (inJ E) ∧ Orbt act m (fun x => x < n) c E ∧ Below w.heap.size w w'

set_option maxRecDepth 100000 in
set_option maxHeartbeats 4000000 in
theorem iobj_any (n : Nat) (act : Nat → Nat → Nat) (m c : Nat) (hm : m ≤ 6) (hc : c < n) (hn : n ≤ 5) (hact : ∀ j, j < m → ∀ x, x < n → act j x < n) (ast : Option Addr) (cs : Nat) (sb : Nat → Nat) (w : World)
    (hs : m = 0 ∨ ∃ gs, ast = some ⟨gs, 0, none⟩ ∧ gs < w.heap.size ∧ ∀ j, j < m → w.cell? ⟨gs, j, none⟩ = some (.func (.func 67) #[] #[.pointer (some ⟨sb j, 0, none⟩)]))
    (HF : ∀ j, j < m → ∀ x, x < n → ∀ W, Below w.heap.size w W → Calls Tryd.prog 67 #[.int .i64 (x : Int), .pointer (some ⟨sb j, 0, none⟩)] W fun e w' => e = .returned (.int .i64 (act j x : Int)) ∧ w' = W) :
    Calls Tryd.prog 69 #[.int .i64 (c : Int), .slice ast m cs] w (RetOrbJ n act m c w.heap.size w) := by
  have HS := Lib.hid hs
  have HF := Lib.hid HF
  have HAC := Lib.hid hact
  have hmm := @run_makeMap Tryd.prog
  have HKY := Lib.hid (kyInt n (by omega))
  clear hs hact
  go_enter Tryd.func69, Tryd.ntmps69
  have HM0 : Hid (SetM 2 (fun c => .int .i64 (c : Int)) (fun x => x < n) (((w.alloc (.cells #[.slice none 0 0] 92)).alloc (.cells #[.int .i64 (c : Int)] 2)).alloc (.map #[] 0)) (w.heap.size + 1 + 1) []) := Lib.hid (by
    have h := setM_made (T := 2) (ky := fun c => .int .i64 (c : Int)) (P := fun x => x < n) ((w.alloc (.cells #[.slice none 0 0] 92)).alloc (.cells #[.int .i64 (c : Int)] 2))
    simpa using h)
  go_wp2_with (refine wpList_insert_own9 _ rfl _ _ _ 95 rfl 2 4 HKY.out.law Tryd.underlying95 selR (w.heap.size + 1 + 1) 0 _ rfl HM0.out.1 (by unfold maxLen; omega) _ _ _ rfl rfl (HKY.out.key c hc) (.held (.bool true)) [] rfl ?_; intro w1 hmap1 hg1)
  clear hmm
  have HM1 : Hid (SetM 2 (fun c => .int .i64 (c : Int)) (fun x => x < n) w1 (w.heap.size + 1 + 1) [c]) := Lib.hid (SetM.put (F := []) (fun x hx => by cases hx) hc hmap1)
  have hs1 := hg1.size
  simp only [World.size_alloc] at hs1
  have HB1 : Hid (Below w.heap.size w w1) := Lib.hid (Below.grown (by (repeat' (first | (with_reducible exact Below.refl _ _) | (with_reducible refine Below.alloc ?_ ?_ _) | (with_reducible refine Below.setCell ?_ ?_ _) | (with_reducible refine Below.drew ?_) | (with_reducible refine below_drewN ?_ _) | (with_reducible refine Below.trans ?_ (Below.mono (Hid.out (by assumption)) ?_)) | omega | (simp; done) | (simp; omega)))) hg1 (by simp <;> omega) (fun r e => by cases e; omega))
  have HRS : Hid (w1.heap[w.heap.size]? = some (.cells #[.slice none 0 0] 92 (0, 0))) := Lib.hid ((hg1.block _ (by simp; omega) (fun e => by injection e with e; omega)).trans ((halloc_lt _ _ _ (by simp; omega)).trans ((halloc_lt _ _ _ (by simp)).trans (halloc_at _ _ _ rfl))))
  have HOW : Hid (Own w1 (w.heap.size + 1) (.slice (some ⟨w.heap.size + 1, 0, none⟩) 1 1) (inJ [c])) := Lib.hid
    ⟨rfl, Or.inr ⟨w.heap.size + 1, 1, #[.int .i64 (c : Int)], rfl, Nat.le_refl _, (hg1.block _ (by simp) (fun e => by injection e with e; omega)).trans ((halloc_lt _ _ _ (by simp)).trans (halloc_at _ _ _ (by simp))), Nat.le_refl _, by unfold maxLen; omega, rfl, rfl⟩⟩
  clear hmap1 hg1
  go_wp2_with fail
  go_loopw [5, 7, 9, 10] (fun v i _ _ wr => ∃ (pos : Nat) (E : List Nat), i = .int .i64 (pos : Int) ∧ Obw act m (fun x => x < n) c pos 0 E ∧ Own wr (w.heap.size + 1) v (inJ E) ∧ SetM 2 (fun c => .int .i64 (c : Int)) (fun x => x < n) wr (w.heap.size + 1 + 1) E ∧ Below w.heap.size w wr ∧
      wr.heap[w.heap.size]? = some (.cells #[.slice none 0 0] 92 (0, 0)) ∧ w.heap.size + 1 + 1 < wr.heap.size) (fun _ i _ _ _ => n - (intOf i).toNat)
  case atStart => exact ⟨0, [c], rfl, Obw.start _ _ hc, HOW.out, HM1.out, HB1.out, HRS.out, by omega⟩
  case round =>
    obtain ⟨pos, E, rfl, hob, hown, hmap, hb, hres, hszr⟩ := hrel
    have hEn := nodup_bound n E hob.nd (fun x hx => hob.vl x hx)
    have hpl := hob.pos
    have HOB := Lib.hid hob
    have HM := Lib.hid hmap
    have HB := Lib.hid hb
    have HR := Lib.hid hres
    have HO := Lib.hid hown
    clear hob hmap hb hres hown
    obtain ⟨wo, hwo⟩ : ∃ wo, wo = wr := ⟨_, rfl⟩
    subst hwo
    by_cases hpE : pos < E.length
    · have hpE' : (pos : Int) < (E.length : Int) := by omega
      obtain ⟨a0, c0, hv0, hrd0⟩ := own_rd HO.out (by rw [inJ_len]; omega)
      rw [inJ_len] at hv0
      have HV0' := Lib.hid hv0
      clear hrd0
      rw [hv0]
      clear hv0
      go_wp2_with fail
      go_loopw [5, 9, 10, 24] (fun v _ _ i wx => ∃ (j : Nat) (E : List Nat), j ≤ m ∧ i = .int .i64 (j : Int) ∧ pos < E.length ∧ Obw act m (fun x => x < n) c pos j E ∧ Own wx (w.heap.size + 1) v (inJ E) ∧ SetM 2 (fun c => .int .i64 (c : Int)) (fun x => x < n) wx (w.heap.size + 1 + 1) E ∧ Below w.heap.size w wx ∧
        wx.heap[w.heap.size]? = some (.cells #[.slice none 0 0] 92 (0, 0)) ∧ w.heap.size + 1 + 1 < wx.heap.size) (fun _ _ _ i _ => m - (intOf i).toNat)
      case atStart => exact ⟨0, E, by omega, rfl, hpE, HOB.out, by rw [← HV0'.out]; exact HO.out, HM.out, HB.out, HR.out, hszr⟩
      case round =>
        clear hpE hpE' hEn hpl HOB HM HB HR HO HV0' hszr
        obtain ⟨j, E2, hj, rfl, hpE, hob, hown, hmap, hb, hres, hszr⟩ := hrel
        have hEn := nodup_bound n E2 hob.nd (fun x hx => hob.vl x hx)
        have HOB := Lib.hid hob
        have HM := Lib.hid hmap
        have HB := Lib.hid hb
        have HR := Lib.hid hres
        obtain ⟨a, cap, rfl, hrd⟩ := own_rd hown (by rw [inJ_len]; omega)
        rw [inJ_len] at hown
        have HO := Lib.hid hown
        have HRD := Lib.hid hrd
        have HIL := Lib.hid (inJ_len E2)
        have HAP : Hid (some (w.heap.size + 1 + 1) ≠ (Value.slice a E2.length cap).ownBlock) := Lib.hid (hmap.apart hown)
        clear hob hown hmap hb hres hrd
        rw [HIL.out]
        by_cases hjm : j < m
        · have hjm' : (j : Int) < (m : Int) := by omega
          have hpE' : (pos : Int) < (E2.length : Int) := by omega
          obtain ⟨gE, rfl, hg1, hg2, hg3⟩ := HRD.out.2.resolve_left (fun e => by have := HIL.out; rw [e] at this; simp at this; omega)
          have hcl := (hg3 pos (by rw [HIL.out]; exact hpE)).1
          rw [inJ_at E2 pos hpE] at hcl
          have hxn : E2.getD pos 0 < n := HOB.out.vl _ (getD_in pos hpE)
          have hyn := HAC.out j hjm _ hxn
          have HFX := Lib.hid fun W h => HF.out j hjm (E2.getD pos 0) hxn W h
          obtain ⟨gs, rfl, hgl, hst⟩ := HS.out.resolve_left (by omega)
          have f0 := (HB.out.cell (p := ⟨gs, j, none⟩) hgl).trans (hst j hjm)
          have hlk := HM.out.look (MT := 95) Tryd.underlying95 HKY.out hyn
          have HIN := Lib.hid fun h => HOB.out.old (i := j) h
          have HNW := Lib.hid fun h => HOB.out.new (i := j) hjm hpE hyn h
          have HKK := Lib.hid (HKY.out.key _ hyn)
          have HYN := Lib.hid hyn
          clear hst hg3 hyn hxn
          generalize hx : E2.getD pos 0 = x at *
          generalize hy : act j x = y at *
          by_cases hm : y ∈ E2
          · rw [decide_eq_true hm] at hlk
            have HOB2 := Lib.hid (HIN.out hm)
            clear hm
            go_wp2_with fail
            refine (HFX.out _ HB.out).mono ?_
            rintro e wr ⟨rfl, rfl⟩
            go_wp2_with fail
            go_roundw
            case rel => exact ⟨j + 1, E2, by omega, by go_num, hpE, HOB2.out, HO.out, HM.out, HB.out, HR.out, hszr⟩
            case measure => simp [intOf]; omega
          · rw [decide_eq_false hm] at hlk
            have HOB2 := Lib.hid (HNW.out hm)
            have HAPP := Lib.hid (inJ_app E2 y)
            have hE1 : E2.length < 6 := by omega
            clear hm
            go_wp2_with fail
            refine (HFX.out _ HB.out).mono ?_
            rintro e wr ⟨rfl, rfl⟩
            go_wp2_with (first
              | (at_mapUpdate; refine wpList_mapUpdate_own _ rfl _ _ _ 95 rfl 2 4 HKY.out.law Tryd.underlying95 selR (w.heap.size + 1 + 1) E2.length _ rfl HM.out.1 (by unfold maxLen; omega) _ _ _ rfl rfl HKK.out (.held (.bool true)) [] rfl ?_; intro w5 hmap5 hg5; have HG5 := Lib.hid hg5; have HMP5 := Lib.hid hmap5; have hs5 := hg5.size; clear hg5 hmap5)
              | (at_builtin; refine wpList_app9 rfl _ _ rfl (w.heap.size + 1) _ (inJ E2) rfl (World.ownsRow.alloc (World.ownsRow.kept HO.out HG5.out (Or.inr fun e => HAP.out e.symm)) _) w5.heap.size 1 (y : Int) rfl (halloc_at _ _ _ rfl) (by rw [HIL.out]; omega) (by simp; omega) ?_; intro v' w6 ho hg6 _))
            have hs6 := hg6.size
            simp only [World.size_alloc] at hs6
            have hne5 : some (w.heap.size) ≠ (Value.slice (some ⟨gE, 0, none⟩) E2.length cap).ownBlock := fun e => by have := (HO.out.lt _ e.symm).1; omega
            have hb5 : Below w.heap.size w w5 := HB.out.grown HG5.out HB.out.size (fun r e => by cases e; omega)
            have hm5 := SetM.put HM.out.2 HYN.out HMP5.out
            have hr5 := (HG5.out.block (w.heap.size) (by omega) (fun e => by injection e with e; omega)).trans HR.out
            have hb6 : Below w.heap.size w w6 := (hb5.alloc hb5.size _).grown hg6 (by simp; omega) (fun r e => by have := (HO.out.lt r e).1; omega)
            rw [← HAPP.out] at ho
            refine ⟨⟨j + 1, E2 ++ [y], by omega, by go_num, by simp; omega, HOB2.out, ho, ?_, hb6, ?_, by omega⟩, by simp [intOf]; omega⟩
            · exact (hm5.below ((Below.refl _ _).alloc (Nat.le_refl _) _)).kept hg6 HAP.out
            · exact (hg6.block _ (by simp; omega) hne5).trans ((halloc_lt _ _ _ (by omega)).trans hr5)
        · obtain rfl : j = m := by omega
          have HOB2 := Lib.hid (HOB.out.next hpE)
          go_wp2_with fail
          go_roundw
          case rel => exact ⟨pos + 1, E2, by go_num, HOB2.out, HO.out, HM.out, HB.out, HR.out, hszr⟩
          case measure => simp [intOf]; omega
    · have hpE' : ¬ ((pos : Int) < (E.length : Int)) := by omega
      obtain rfl : pos = E.length := by omega
      obtain ⟨a, cap, hv0, hrd⟩ := own_rd HO.out (by rw [inJ_len]; omega)
      rw [inJ_len] at hv0
      rw [hv0]
      have HRD := Lib.hid hrd
      have HFI := Lib.hid HOB.out.fin
      have e0 := Joins.cell_of_block HR.out 0
      have hfr := Joins.unfrozen_of_block HR.out 0
      simp only [List.getElem?_toArray, List.getElem?_cons_zero] at e0
      have hszz : w.heap.size < wo.heap.size := by omega
      clear hv0 hrd
      go_wp2_with fail
      refine bodyPost_ret (v := .agg #[.slice a E.length cap]) (by simp [results, Tryd.results69, go_sem, *]) rfl ⟨a, cap, E, rfl, ?_, HFI.out, HB.out.setCell (Nat.le_refl _) _⟩
      exact (Rd.setLowJ HRD.out (by omega)).mono (by omega)

end Go.Proofs.YtpphihjbgikjkaaDoor
