/- The contract of impl.orbitOf at numbers with some steps. The contracts of impl.orbitOfPoint and impl.OrbitOf. -/
import Derived.Test.YtpphihjbgikjkaaOrt
import Derived.Test.YtpphihjbgikjkaaSmp
import Derived.Test.YtpphihjbgikjkaaCni
import Derived.Test.YtpphihjbgikjkaaRso
import Derived.Deep.RegionHeld3
import Derived.StillTailTactics
import Derived.Laws.EntriesVeiled
namespace Go.Proofs.Ytpphihjbgikjkaa
open Go Go.RowKit Go.Maps

/-- Numbers as integers. -/
def inJ (E : List Nat) : List Int := E.map fun (x : Nat) => (x : Int)
theorem inJ_len (E : List Nat) : (inJ E).length = E.length := by simp [inJ]
theorem inJ_app (E : List Nat) (y : Nat) : inJ (E ++ [y]) = inJ E ++ [(y : Int)] := by simp [inJ]
theorem inJ_at (E : List Nat) (k : Nat) (h : k < E.length) : (inJ E).getD k 0 = (E.getD k 0 : Int) := by
  unfold inJ
  rw [List.getD_eq_getElem?_getD, List.getElem?_map, List.getD_eq_getElem?_getD, List.getElem?_eq_getElem h]
  rfl

theorem Rd.setLowJ {w : World} {B g o : Nat} {v : Value} {a : Option Addr} {L : List Int} (h : Rd w B a L) (hg : g < B) : Rd (w.setCell ⟨g, o, none⟩ v) B a L := by
  refine ⟨h.1, ?_⟩
  rcases h.2 with h0 | ⟨k, ha, hB, hk, hc⟩
  · exact Or.inl h0
  · refine Or.inr ⟨k, ha, hB, by simpa using hk, fun i hi => ?_⟩
    rw [World.cell?_setCell_other _ _ _ _ (by intro e; injection e with e _; omega), World.frozen?_setCell]
    exact hc i hi

/-- The call returns the numbers that the steps lead to. -/
def RetOrbJ (n : Nat) (act : Nat → Nat → Nat) (m c : Nat) (B : Nat) (w : World) (e : Ending) (w' : World) : Prop :=
  ∃ a cap E, e = .returned (.agg #[.slice a E.length cap]) ∧ Rd w' B a (inJ E) ∧ Orbt act m (fun x => x < n) c E ∧ Below w.heap.size w w'

set_option maxRecDepth 100000 in
set_option maxHeartbeats 4000000 in
theorem iobj_any (n : Nat) (act : Nat → Nat → Nat) (m c : Nat) (hm : m ≤ 6) (hc : c < n) (hn : n ≤ 5) (hact : ∀ j, j < m → ∀ x, x < n → act j x < n) (ast : Option Addr) (cs : Nat) (sb : Nat → Nat) (w : World)
    (hs : m = 0 ∨ ∃ gs, ast = some ⟨gs, 0, none⟩ ∧ gs < w.heap.size ∧ ∀ j, j < m → w.cell? ⟨gs, j, none⟩ = some (.func (.func 60) #[] #[.pointer (some ⟨sb j, 0, none⟩)]))
    (HF : ∀ j, j < m → ∀ x, x < n → ∀ W, Below w.heap.size w W → Calls Try.prog 60 #[.int .i64 (x : Int), .pointer (some ⟨sb j, 0, none⟩)] W fun e w' => e = .returned (.int .i64 (act j x : Int)) ∧ w' = W) :
    Calls Try.prog 53 #[.int .i64 (c : Int), .slice ast m cs] w (RetOrbJ n act m c w.heap.size w) := by
  have HS := Lib.hid hs
  have HF := Lib.hid HF
  have HAC := Lib.hid hact
  have hmm := @run_makeMap Try.prog
  have HKY := Lib.hid (kyInt n (by omega))
  clear hs hact
  go_enter Try.func53, Try.ntmps53
  have HM0 : Hid (SetM 2 (fun c => .int .i64 (c : Int)) (fun x => x < n) (((w.alloc (.cells #[.slice none 0 0] 51)).alloc (.cells #[.int .i64 (c : Int)] 2)).alloc (.map #[] 0)) (w.heap.size + 1 + 1) []) := Lib.hid (by
    have h := setM_made (T := 2) (ky := fun c => .int .i64 (c : Int)) (P := fun x => x < n) ((w.alloc (.cells #[.slice none 0 0] 51)).alloc (.cells #[.int .i64 (c : Int)] 2))
    simpa using h)
  go_wp2_with (refine wpList_insert_own9 _ rfl _ _ _ 105 rfl 2 4 HKY.out.law Try.underlying105 selR (w.heap.size + 1 + 1) 0 _ rfl HM0.out.1 (by unfold maxLen; omega) _ _ _ rfl rfl (HKY.out.key c hc) (.held (.bool true)) [] rfl ?_; intro w1 hmap1 hg1)
  clear hmm
  have HM1 : Hid (SetM 2 (fun c => .int .i64 (c : Int)) (fun x => x < n) w1 (w.heap.size + 1 + 1) [c]) := Lib.hid (SetM.put (F := []) (fun x hx => by cases hx) hc hmap1)
  have hs1 := hg1.size
  simp only [World.size_alloc] at hs1
  have HB1 : Hid (Below w.heap.size w w1) := Lib.hid (Below.grown (by (repeat' (first | (with_reducible exact Below.refl _ _) | (with_reducible refine Below.alloc ?_ ?_ _) | (with_reducible refine Below.setCell ?_ ?_ _) | (with_reducible refine Below.drew ?_) | (with_reducible refine below_drewN ?_ _) | (with_reducible refine Below.trans ?_ (Below.mono (Hid.out (by assumption)) ?_)) | omega | (simp; done) | (simp; omega)))) hg1 (by simp <;> omega) (fun r e => by cases e; omega))
  have HRS : Hid (w1.heap[w.heap.size]? = some (.cells #[.slice none 0 0] 51 (0, 0))) := Lib.hid ((hg1.block _ (by simp; omega) (fun e => by injection e with e; omega)).trans ((halloc_lt _ _ _ (by simp; omega)).trans ((halloc_lt _ _ _ (by simp)).trans (halloc_at _ _ _ rfl))))
  have HOW : Hid (Own w1 (w.heap.size + 1) (.slice (some ⟨w.heap.size + 1, 0, none⟩) 1 1) (inJ [c])) := Lib.hid
    ⟨rfl, Or.inr ⟨w.heap.size + 1, 1, #[.int .i64 (c : Int)], rfl, Nat.le_refl _, (hg1.block _ (by simp) (fun e => by injection e with e; omega)).trans ((halloc_lt _ _ _ (by simp)).trans (halloc_at _ _ _ (by simp))), Nat.le_refl _, by unfold maxLen; omega, rfl, rfl⟩⟩
  clear hmap1 hg1
  go_wp2_with fail
  go_loopw [5, 7, 9, 10] (fun v i _ _ wr => ∃ (pos : Nat) (E : List Nat), i = .int .i64 (pos : Int) ∧ Obw act m (fun x => x < n) c pos 0 E ∧ Own wr (w.heap.size + 1) v (inJ E) ∧ SetM 2 (fun c => .int .i64 (c : Int)) (fun x => x < n) wr (w.heap.size + 1 + 1) E ∧ Below w.heap.size w wr ∧
      wr.heap[w.heap.size]? = some (.cells #[.slice none 0 0] 51 (0, 0)) ∧ w.heap.size + 1 + 1 < wr.heap.size) (fun _ i _ _ _ => n - (intOf i).toNat)
  case atStart => exact ⟨0, [c], rfl, Obw.start _ _ hc, HOW.out, HM1.out, HB1.out, HRS.out, by omega⟩
  case round =>
    obtain ⟨pos, E, rfl, hob, hown, hmap, hb, hres, hszr⟩ := hrel
    have hEn := nodup_bound n E hob.nd (fun x hx => hob.vl x hx)
    have hpl := hob.pos
    have HOB := Lib.hid hob
    have HM := Lib.hid hmap
    have HB := Lib.hid hb
    have HR := Lib.hid hres
    have HO := Lib.hid hown
    clear hob hmap hb hres hown
    obtain ⟨wo, hwo⟩ : ∃ wo, wo = wr := ⟨_, rfl⟩
    subst hwo
    by_cases hpE : pos < E.length
    · have hpE' : (pos : Int) < (E.length : Int) := by omega
      obtain ⟨a0, c0, hv0, hrd0⟩ := own_rd HO.out (by rw [inJ_len]; omega)
      rw [inJ_len] at hv0
      have HV0' := Lib.hid hv0
      clear hrd0
      rw [hv0]
      clear hv0
      go_wp2_with fail
      go_loopw [5, 9, 10, 24] (fun v _ _ i wx => ∃ (j : Nat) (E : List Nat), j ≤ m ∧ i = .int .i64 (j : Int) ∧ pos < E.length ∧ Obw act m (fun x => x < n) c pos j E ∧ Own wx (w.heap.size + 1) v (inJ E) ∧ SetM 2 (fun c => .int .i64 (c : Int)) (fun x => x < n) wx (w.heap.size + 1 + 1) E ∧ Below w.heap.size w wx ∧
        wx.heap[w.heap.size]? = some (.cells #[.slice none 0 0] 51 (0, 0)) ∧ w.heap.size + 1 + 1 < wx.heap.size) (fun _ _ _ i _ => m - (intOf i).toNat)
      case atStart => exact ⟨0, E, by omega, rfl, hpE, HOB.out, by rw [← HV0'.out]; exact HO.out, HM.out, HB.out, HR.out, hszr⟩
      case round =>
        clear hpE hpE' hEn hpl HOB HM HB HR HO HV0' hszr
        obtain ⟨j, E2, hj, rfl, hpE, hob, hown, hmap, hb, hres, hszr⟩ := hrel
        have hEn := nodup_bound n E2 hob.nd (fun x hx => hob.vl x hx)
        have HOB := Lib.hid hob
        have HM := Lib.hid hmap
        have HB := Lib.hid hb
        have HR := Lib.hid hres
        obtain ⟨a, cap, rfl, hrd⟩ := own_rd hown (by rw [inJ_len]; omega)
        rw [inJ_len] at hown
        have HO := Lib.hid hown
        have HRD := Lib.hid hrd
        have HIL := Lib.hid (inJ_len E2)
        have HAP : Hid (some (w.heap.size + 1 + 1) ≠ (Value.slice a E2.length cap).ownBlock) := Lib.hid (hmap.apart hown)
        clear hob hown hmap hb hres hrd
        rw [HIL.out]
        by_cases hjm : j < m
        · have hjm' : (j : Int) < (m : Int) := by omega
          have hpE' : (pos : Int) < (E2.length : Int) := by omega
          obtain ⟨gE, rfl, hg1, hg2, hg3⟩ := HRD.out.2.resolve_left (fun e => by have := HIL.out; rw [e] at this; simp at this; omega)
          have hcl := (hg3 pos (by rw [HIL.out]; exact hpE)).1
          rw [inJ_at E2 pos hpE] at hcl
          have hxn : E2.getD pos 0 < n := HOB.out.vl _ (getD_in pos hpE)
          have hyn := HAC.out j hjm _ hxn
          have HFX := Lib.hid fun W h => HF.out j hjm (E2.getD pos 0) hxn W h
          obtain ⟨gs, rfl, hgl, hst⟩ := HS.out.resolve_left (by omega)
          have f0 := (HB.out.cell (p := ⟨gs, j, none⟩) hgl).trans (hst j hjm)
          have hlk := HM.out.look (MT := 105) Try.underlying105 HKY.out hyn
          have HIN := Lib.hid fun h => HOB.out.old (i := j) h
          have HNW := Lib.hid fun h => HOB.out.new (i := j) hjm hpE hyn h
          have HKK := Lib.hid (HKY.out.key _ hyn)
          have HYN := Lib.hid hyn
          clear hst hg3 hyn hxn
          generalize hx : E2.getD pos 0 = x at *
          generalize hy : act j x = y at *
          by_cases hm : y ∈ E2
          · rw [decide_eq_true hm] at hlk
            have HOB2 := Lib.hid (HIN.out hm)
            clear hm
            go_wp2_with fail
            refine (HFX.out _ HB.out).mono ?_
            rintro e wr ⟨rfl, rfl⟩
            go_wp2_with fail
            go_roundw
            case rel => exact ⟨j + 1, E2, by omega, by go_num, hpE, HOB2.out, HO.out, HM.out, HB.out, HR.out, hszr⟩
            case measure => simp [intOf]; omega
          · rw [decide_eq_false hm] at hlk
            have HOB2 := Lib.hid (HNW.out hm)
            have HAPP := Lib.hid (inJ_app E2 y)
            have hE1 : E2.length < 6 := by omega
            clear hm
            go_wp2_with fail
            refine (HFX.out _ HB.out).mono ?_
            rintro e wr ⟨rfl, rfl⟩
            go_wp2_with (first
              | (at_mapUpdate; refine wpList_mapUpdate_own _ rfl _ _ _ 105 rfl 2 4 HKY.out.law Try.underlying105 selR (w.heap.size + 1 + 1) E2.length _ rfl HM.out.1 (by unfold maxLen; omega) _ _ _ rfl rfl HKK.out (.held (.bool true)) [] rfl ?_; intro w5 hmap5 hg5; have HG5 := Lib.hid hg5; have HMP5 := Lib.hid hmap5; have hs5 := hg5.size; clear hg5 hmap5)
              | (at_builtin; refine wpList_app9 rfl _ _ rfl (w.heap.size + 1) _ (inJ E2) rfl (World.ownsRow.alloc (World.ownsRow.kept HO.out HG5.out (Or.inr fun e => HAP.out e.symm)) _) w5.heap.size 1 (y : Int) rfl (halloc_at _ _ _ rfl) (by rw [HIL.out]; omega) (by simp; omega) ?_; intro v' w6 ho hg6 _))
            have hs6 := hg6.size
            simp only [World.size_alloc] at hs6
            have hne5 : some (w.heap.size) ≠ (Value.slice (some ⟨gE, 0, none⟩) E2.length cap).ownBlock := fun e => by have := (HO.out.lt _ e.symm).1; omega
            have hb5 : Below w.heap.size w w5 := HB.out.grown HG5.out HB.out.size (fun r e => by cases e; omega)
            have hm5 := SetM.put HM.out.2 HYN.out HMP5.out
            have hr5 := (HG5.out.block (w.heap.size) (by omega) (fun e => by injection e with e; omega)).trans HR.out
            have hb6 : Below w.heap.size w w6 := (hb5.alloc hb5.size _).grown hg6 (by simp; omega) (fun r e => by have := (HO.out.lt r e).1; omega)
            rw [← HAPP.out] at ho
            refine ⟨⟨j + 1, E2 ++ [y], by omega, by go_num, by simp; omega, HOB2.out, ho, ?_, hb6, ?_, by omega⟩, by simp [intOf]; omega⟩
            · exact (hm5.below ((Below.refl _ _).alloc (Nat.le_refl _) _)).kept hg6 HAP.out
            · exact (hg6.block _ (by simp; omega) hne5).trans ((halloc_lt _ _ _ (by omega)).trans hr5)
        · obtain rfl : j = m := by omega
          have HOB2 := Lib.hid (HOB.out.next hpE)
          go_wp2_with fail
          go_roundw
          case rel => exact ⟨pos + 1, E2, by go_num, HOB2.out, HO.out, HM.out, HB.out, HR.out, hszr⟩
          case measure => simp [intOf]; omega
    · have hpE' : ¬ ((pos : Int) < (E.length : Int)) := by omega
      obtain rfl : pos = E.length := by omega
      obtain ⟨a, cap, hv0, hrd⟩ := own_rd HO.out (by rw [inJ_len]; omega)
      rw [inJ_len] at hv0
      rw [hv0]
      have HRD := Lib.hid hrd
      have HFI := Lib.hid HOB.out.fin
      have e0 := Joins.cell_of_block HR.out 0
      have hfr := Joins.unfrozen_of_block HR.out 0
      simp only [List.getElem?_toArray, List.getElem?_cons_zero] at e0
      have hszz : w.heap.size < wo.heap.size := by omega
      clear hv0 hrd
      go_wp2_with fail
      refine bodyPost_ret (v := .agg #[.slice a E.length cap]) (by simp [results, Try.results53, go_sem, *]) rfl ⟨a, cap, E, rfl, ?_, HFI.out, HB.out.setCell (Nat.le_refl _) _⟩
      exact (Rd.setLowJ HRD.out (by omega)).mono (by omega)

end Go.Proofs.Ytpphihjbgikjkaa

namespace Go.Proofs.Ytpphihjbgikjkaa
open Go Go.RowKit Go.Maps

set_option maxHeartbeats 1000000 in
theorem set9_any (L : List Int) (hp : ∀ k, k < L.length → 0 ≤ L.getD k 0 ∧ L.getD k 0 < 5) (hn : L.length ≤ 1048576) (a : Option Addr) (c : Nat) (w : World) (h : InRow w a L) :
    Calls Try.prog 61 #[.slice a L.length c] w fun e w' => e = .returned (.agg (cells5 (memB L))) ∧ Below w.heap.size w w' := by
  have HN := Lib.hid h
  have HP := Lib.hid hp
  clear h hp
  go_enter Try.func61, Try.ntmps61
  go_wp2_with fail
  go_loopw [5, 8] (fun _ i wr => ∃ (k : Nat), k ≤ L.length ∧ i = .int .i64 k ∧ Below w.heap.size w wr ∧ w.heap.size + 1 < wr.heap.size ∧
      wr.heap[w.heap.size]? = some (.cells (cells5 fun _ => false) 60 (0, 0)) ∧ wr.heap[w.heap.size + 1]? = some (.cells (cells5 (memK L k)) 60 (0, 0))) (fun _ i _ => L.length - (intOf i).toNat)
  case atStart =>
    refine ⟨0, by omega, rfl, ?_, by simp, ?_, ?_⟩
    · (repeat' (first | (with_reducible exact Below.refl _ _) | (with_reducible refine Below.alloc ?_ ?_ _) | (with_reducible refine Below.setCell ?_ ?_ _) | (with_reducible refine Below.drew ?_) | (with_reducible refine below_drewN ?_ _) | (with_reducible refine Below.trans ?_ (Below.mono (Hid.out (by assumption)) ?_)) | omega | (simp; done) | (simp; omega)))
    · ((try rw [hdrew]); simp only [halloc, Array.getElem?_push, Array.size_push]; (repeat (first | rw [if_pos (by omega)] | rw [if_neg (by omega)])); try rfl)
    · ((try rw [hdrew]); simp only [halloc, Array.getElem?_push, Array.size_push]; (repeat (first | rw [if_pos (by omega)] | rw [if_neg (by omega)])); try rfl)
  case round =>
    obtain ⟨k, hk, rfl, hb, hsz, b0, b1⟩ := hrel
    have HR := Lib.hid (HN.out.below hb)
    have Hb := Lib.hid hb
    have B0 := Lib.hid b0
    have B1 := Lib.hid b1
    clear hb b0 b1
    by_cases hkl : k < L.length
    · obtain ⟨b, off, rfl, hlt, hin⟩ := HR.out.resolve_left (fun e => by rw [e] at hkl; simp at hkl)
      have hkl' : (k : Int) < (L.length : Int) := by omega
      have e1 := hin k hkl
      obtain ⟨f0, f1⟩ := HP.out k hkl
      have hX5 : L.getD k 0 < 5 := by omega
      have hok := blk5_at B1.out (L.getD k 0).toNat (by omega)
      have hfr := blk_free B1.out (L.getD k 0).toNat
      have hset := blk5_set B1.out (L.getD k 0).toNat (by omega)
      rw [memK_succ L k f0] at hset
      have HSET := Lib.hid hset
      clear hset hin
      generalize L.getD k 0 = X at *
      go_wp2_with fail
      go_roundw
      case rel =>
        refine ⟨k + 1, by omega, by go_num, Hb.out.setCell (by simp) _, by simpa using hsz, ?_, HSET.out⟩
        rw [hset_ne _ _ _ _ (by simp)]; exact B0.out
      case measure => simp [intOf]; omega
    · obtain rfl : k = L.length := by omega
      obtain ⟨e0, e1, e2, e3, e4⟩ := blk5 B1.out
      obtain ⟨r0, r1, r2, r3, r4⟩ := blk5 B0.out
      have hfr := blk_free B0.out
      go_wp2_with fail
      refine bodyPost_ret (v := .agg (cells5 (memB L))) (by simp [results, Try.results61, go_sem, r0, r1, r2, r3, r4, cells5, memB]) rfl ⟨rfl, ?_⟩
      (repeat' (first | (with_reducible exact Below.refl _ _) | (with_reducible refine Below.alloc ?_ ?_ _) | (with_reducible refine Below.setCell ?_ ?_ _) | (with_reducible refine Below.drew ?_) | (with_reducible refine below_drewN ?_ _) | (with_reducible refine Below.trans ?_ (Below.mono (Hid.out (by assumption)) ?_)) | omega | (simp; done) | (simp; omega)))

theorem iop1_any (p : Int) (t : Nat → Int) (x : Nat) (hx : x < 5) (b : Nat) (w : World) (hb : w.heap[b]? = some (.cells (mcells p t) 28 (0, 0))) :
    Calls Try.prog 60 #[.int .i64 (x : Int), .pointer (some ⟨b, 0, none⟩)] w fun e w' => e = .returned (.int .i64 (t x)) ∧ w' = w := by
  have hx' : (x : Int) < 5 := by omega
  have hc := blk_at hb x hx
  have hl := (Array.getElem?_eq_some_iff.1 hb).1
  clear hb
  go_enter Try.func60, Try.ntmps60
  go_wp2_with fail
  go_ret
  exact ⟨rfl, rfl⟩

theorem info_fni : (Try.prog.info? 83).map (fun i => (i.zero, i.size, i.bytes)) = some (some .nilFunc, 1, 8) := by kernel_rfl

theorem cell_onei {w : World} {b T : Nat} {x : Value} (h : w.heap[b]? = some (.cells #[x] T (0, 0))) : ∀ j u, [x][j]? = some u → w.cell? ((⟨b, 0, none⟩ : Addr).add j) = some u := by
  intro j u hj
  have hadd : (⟨b, 0, none⟩ : Addr).add j = ⟨b, j, none⟩ := by cases j <;> simp [Addr.add]
  rw [hadd, Joins.cell_of_block h j, ← hj]
  simp

/-- The steps, by the blocks of their maps. -/
def stI (BL : List Nat) : List Value := BL.map fun b => .func (.func 60) #[] #[.pointer (some ⟨b, 0, none⟩)]

theorem blk_aparti {w : World} {b T1 b2 T2 s2 n2 : Nat} {cur : Array Value} {v2 : Value} {x2 : List Value} (hT : T1 ≠ T2) (h1 : w.heap[b]? = some (.cells cur T1 (0, 0))) (h2 : w.ownsRow b2 T2 s2 v2 n2 x2) : some b ≠ v2.ownBlock := by
  rcases h2.2 with ⟨rfl, _⟩ | ⟨g2, c2, cur2, rfl, _, hg2, _⟩
  · simp [Value.ownBlock]
  · intro e
    have e' : b = g2 := by simpa [Value.ownBlock] using e
    subst e'
    rw [h1] at hg2
    injection hg2 with hg2
    injection hg2 with _ hg2
    exact hT hg2

theorem mem_rch {L : List MapN} {P : Nat → Prop} {c : Nat} {E : List Nat} (h : Orbt (stL L) L.length P c E) : memB (inJ E) = rchS L c := by
  funext j
  rw [Bool.eq_iff_iff, memB_in, rchS_true, ← orbt_rch h]
  unfold inJ
  rw [List.mem_map]
  constructor
  · rintro ⟨x, hx, e⟩
    rw [← show x = j by omega]; exact hx
  · exact fun hj => ⟨j, hj, rfl⟩

theorem fld_orbi (v : Value) (w : World) : (Instr.field 51 (.agg #[v]) 0).run Try.prog w = .ok v w := by kernel_rfl

set_option maxRecDepth 100000 in
set_option maxHeartbeats 4000000 in
theorem iorb_any (L : List MapN) {n : Nat} (hok : LOk L n) (c : Nat) (hc : c < n) (a : Option Addr) (cap : Nat) (w : World) (hr : InRowM w a L) :
    Calls Try.prog 37 #[.slice a L.length cap, .int .i64 (c : Int)] w fun e w' => e = .returned (.agg (cells5 (rchS L c))) ∧ Below w.heap.size w w' := by
  obtain ⟨i0, hi, hz0, hz1, hz2⟩ := info_parts info_fni
  have hn5 := hok.n5
  have hl6 := hok.len6
  have HK := Lib.hid hok
  have HR := Lib.hid hr
  have hc5 : (c : Int) < 5 := by omega
  clear hok hr
  go_enter Try.func37, Try.ntmps37
  go_wp2_with fail
  obtain ⟨wz, hwz⟩ : ∃ wz, wz = w.alloc (.cells #[.bool false, .bool false, .bool false, .bool false, .bool false] 60) := ⟨_, rfl⟩
  have HBZ : Hid (Below w.heap.size w wz) := Lib.hid (by rw [hwz]; (repeat' (first | (with_reducible exact Below.refl _ _) | (with_reducible refine Below.alloc ?_ ?_ _) | (with_reducible refine Below.setCell ?_ ?_ _) | (with_reducible refine Below.drew ?_) | (with_reducible refine below_drewN ?_ _) | (with_reducible refine Below.trans ?_ (Below.mono (Hid.out (by assumption)) ?_)) | omega | (simp; done) | (simp; omega))))
  have HRX : Hid (wz.heap[w.heap.size]? = some (.cells (cells5 fun _ => false) 60 (0, 0))) := Lib.hid (by rw [hwz]; exact halloc_at _ _ _ rfl)
  have hsz : wz.heap.size = w.heap.size + 1 := by rw [hwz]; simp
  rw [← hwz]
  have HSZ := Lib.hid hsz
  clear hwz hsz
  go_loopw [5, 7, 10] (fun v _ i wr => ∃ BL : List Nat, BL.length ≤ L.length ∧ i = .int .i64 (BL.length : Int) ∧ wr.ownsRow (w.heap.size + 1) 83 1 v BL.length (stI BL) ∧ (∀ j, j < BL.length → wr.heap[BL.getD j 0]? = some (.cells (mcells (n : Int) (L.getD j z0).2) 28 (0, 0))) ∧ Below wz.heap.size wz wr) (fun _ _ i _ => L.length - (intOf i).toNat)
  case atStart => exact ⟨[], by simp, rfl, World.ownsRow_nil _ _ _ _, fun j hj => by simp at hj, Below.refl _ _⟩
  case round =>
    obtain ⟨BL, hBL, rfl, hown, hbl, hb⟩ := hrel
    have hszz := HSZ.out
    have hsr := hb.size
    have HO := Lib.hid hown
    have HBL := Lib.hid hbl
    have HB := Lib.hid hb
    have HBW : Hid (Below w.heap.size w wr) := Lib.hid (HBZ.out.trans (hb.mono (by omega)))
    have hxl : w.heap.size < wr.heap.size := by omega
    obtain ⟨k, hk⟩ : ∃ k, k = BL.length := ⟨_, rfl⟩
    have HKL := Lib.hid hk
    rw [← hk] at hBL HO ⊢
    clear hown hbl hb hk
    obtain ⟨wo, hwo⟩ : ∃ wo, wo = wr := ⟨_, rfl⟩
    subst hwo
    by_cases hkn : k < L.length
    · have hkn' : (k : Int) < (L.length : Int) := by omega
      obtain ⟨b, off, rfl, hbl, x0, x1, x2, x3, x4, x5⟩ := (HR.out.below HBW.out).at6 k hkn
      rw [HK.out.pts k hkn] at x0
      obtain ⟨t, hT⟩ : ∃ t, t = (L.getD k z0).2 := ⟨_, rfl⟩
      rw [← hT] at x1 x2 x3 x4 x5
      have HT := Lib.hid hT
      clear hT
      go_wp2_with (at_builtin; refine wpList_append_own_at _ rfl _ _ 90 rfl (w.heap.size + 1) 83 i0 .nilFunc 1 8 Try.underlying90 hi hz0 hz1 hz2 rfl (by decide) u5 k (stI BL) rfl ((HO.out.alloc _).alloc _) ⟨wo.heap.size + 1, 0, none⟩ 1 1 [.func (.func 60) #[] #[.pointer (some ⟨wo.heap.size, 0, none⟩)]] rfl rfl (cell_onei (halloc_at _ _ _ (by simp))) (by intro u hu; simp at hu; subst hu; rfl) (by unfold maxLen; omega) (by omega) (by simp; omega) ?_; intro v' w5 ho hg _ hat)
      have hgs := hg.size
      simp only [World.size_alloc] at hgs
      have hlen : (BL ++ [wo.heap.size]).length = k + 1 := by simp [← HKL.out]
      have hlt : ∀ r, u5.ownBlock = some r → w.heap.size + 1 ≤ r ∧ r < wo.heap.size := fun r e => HO.out.lt r e
      have hb5 : Below wz.heap.size wz w5 := ((HB.out.alloc (by omega) _).alloc (by simp; omega) _).grown hg (by simp; omega) (fun r e => by have := hlt r e; omega)
      have hst : stI (BL ++ [wo.heap.size]) = stI BL ++ [.func (.func 60) #[] #[.pointer (some ⟨wo.heap.size, 0, none⟩)]] := by simp [stI]
      refine ⟨⟨BL ++ [wo.heap.size], by omega, by rw [hlen]; go_num, by rw [hlen, hst]; exact ho, fun j hj => ?_, hb5⟩, by simp [intOf]; omega⟩
      rw [hlen] at hj
      by_cases hjk : j < k
      · rw [getD_app j _ (by rw [← HKL.out]; exact hjk)]
        have hbj := HBL.out j (by rw [← HKL.out]; exact hjk)
        have hl := (Array.getElem?_eq_some_iff.1 hbj).1
        exact (hg.block _ (by rw [World.size_alloc, World.size_alloc]; omega) (blk_aparti (by decide) hbj HO.out)).trans ((halloc_lt _ _ _ (by rw [World.size_alloc]; omega)).trans ((halloc_lt _ _ _ hl).trans hbj))
      · obtain rfl : j = k := by omega
        have he : (BL ++ [wo.heap.size]).getD j 0 = wo.heap.size := by
          rw [HKL.out, List.getD_eq_getElem?_getD, List.getElem?_append_right (Nat.le_refl _)]
          simp
        rw [he, ← HT.out]
        exact (hg.block _ (by simp; omega) (fun e => by have := hlt _ e.symm; omega)).trans ((halloc_lt _ _ _ (by simp)).trans (halloc_at _ _ _ rfl))
    · have hkn' : ¬ ((k : Int) < (L.length : Int)) := by omega
      have hke : k = L.length := by omega
      have hsteps : L.length = 0 ∨ ∃ gs, ∃ cs, u5 = .slice (some ⟨gs, 0, none⟩) L.length cs ∧ gs < wo.heap.size ∧ ∀ j, j < L.length → wo.cell? ⟨gs, j, none⟩ = some (.func (.func 60) #[] #[.pointer (some ⟨BL.getD j 0, 0, none⟩)]) := by
        rcases HO.out.2 with ⟨_, h0⟩ | ⟨g, cap, cur, h1, h2, h3, h4, h5, h6, h7⟩
        · exact Or.inl (by omega)
        · refine Or.inr ⟨g, cap, by rw [h1, hke], (Array.getElem?_eq_some_iff.1 h3).1, fun j hj => ?_⟩
          rw [Joins.cell_of_block h3 j]
          have e : cur.toList[j]? = (stI BL)[j]? := by
            rw [← h7, List.getElem?_take, if_pos (by omega)]
          rw [← Array.getElem?_toList, e]
          unfold stI
          rw [List.getElem?_map, List.getElem?_eq_getElem (by rw [← HKL.out]; omega), List.getD_eq_getElem?_getD, List.getElem?_eq_getElem (by rw [← HKL.out]; omega)]
          rfl
      have hform : ∃ ast cs, u5 = .slice ast L.length cs := by
        rcases HO.out.2 with ⟨h1, h0⟩ | ⟨g, cap, cur, h1, _⟩
        · exact ⟨none, 0, by rw [h1, ← hke, h0]⟩
        · exact ⟨_, cap, by rw [h1, hke]⟩
      obtain ⟨ast, cs, rfl⟩ := hform
      have HOR := Lib.hid (iobj_any n (stL L) L.length c (by omega) hc hn5 (fun j hj x hx => (HK.out.step hj hx).2) ast cs (fun j => BL.getD j 0) wo
        (by
          rcases hsteps with h | ⟨gs, cs', h1, h2, h3⟩
          · exact Or.inl h
          · injection h1 with h1 _ _
            exact Or.inr ⟨gs, h1, h2, h3⟩)
        (fun j hj x hx W hW => by
          rw [← (HK.out.step hj hx).1]
          exact iop1_any (n : Int) _ x (by omega) (BL.getD j 0) W ((hW.block _ (Array.getElem?_eq_some_iff.1 (HBL.out j (by rw [← HKL.out]; omega))).1).trans (HBL.out j (by rw [← HKL.out]; omega)))))
      clear hsteps hke
      go_wp2_with fail
      refine HOR.out.mono ?_
      rintro e w2 ⟨a2, cap2, E, rfl, hrd, horb, hb⟩
      have hz2 := hb.size
      have HB2 : Hid (Below w.heap.size w w2) := Lib.hid (HBW.out.trans (hb.mono (by omega)))
      have hrr := (hb.block w.heap.size hxl).trans ((HB.out.block w.heap.size (by omega)).trans HRX.out)
      have HRR := Lib.hid hrr
      have hE5 := nodup_bound n E horb.nd (fun x hx => horb.vl x hx)
      have HST := Lib.hid fun wx (hbx : Below w2.heap.size w2 wx) => set9_any (inJ E) (fun k hk => by
        rw [inJ_len] at hk
        rw [inJ_at E k hk]
        have := horb.vl _ (getD_in k hk)
        omega) (by rw [inJ_len]; omega) a2 cap2 wx (hrd.inRow.below hbx)
      rw [inJ_len, mem_rch horb] at HST
      clear hrd horb hb hrr
      have hfld := fun w => fld_orbi (.slice a2 E.length cap2) w
      go_wp2_with fail
      clear hfld
      refine (HST.out _ (Below.refl _ _)).mono ?_
      rintro e w3 ⟨rfl, hb⟩
      have HB3 := Lib.hid hb
      have hz3 := hb.size
      have hrr := (hb.block w.heap.size (by omega)).trans HRR.out
      obtain ⟨r0, r1, r2, r3, r4⟩ := blk5 hrr
      have hfr := blk_free hrr
      clear hb hrr
      simp only [cells5]
      go_wp2_with fail
      refine bodyPost_ret (v := .agg (cells5 (rchS L c))) (by simp [results, Try.results37, go_sem, r0, r1, r2, r3, r4, cells5]) rfl ⟨rfl, ?_⟩
      (repeat' (first | (with_reducible exact Below.refl _ _) | (with_reducible refine Below.alloc ?_ ?_ _) | (with_reducible refine Below.setCell ?_ ?_ _) | (with_reducible refine Below.drew ?_) | (with_reducible refine below_drewN ?_ _) | (with_reducible refine Below.trans ?_ (Below.mono (Hid.out (by assumption)) ?_)) | omega | (simp; done) | (simp; omega)))

end Go.Proofs.Ytpphihjbgikjkaa
