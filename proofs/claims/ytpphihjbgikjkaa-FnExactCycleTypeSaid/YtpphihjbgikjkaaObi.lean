/- The contract of impl.orbitOf at numbers with one step. -/
import Derived.Test.YtpphihjbgikjkaaOrt
import Derived.Test.YtpphihjbgikjkaaSmp
import Derived.Test.YtpphihjbgikjkaaCni
namespace Go.Proofs.Ytpphihjbgikjkaa
open Go Go.RowKit Go.Maps

/-- Numbers as integers. -/
def inL (E : List Nat) : List Int := E.map fun (x : Nat) => (x : Int)
theorem inL_len (E : List Nat) : (inL E).length = E.length := by simp [inL]
theorem inL_app (E : List Nat) (y : Nat) : inL (E ++ [y]) = inL E ++ [(y : Int)] := by simp [inL]
theorem inL_at (E : List Nat) (k : Nat) (h : k < E.length) : (inL E).getD k 0 = (E.getD k 0 : Int) := by
  unfold inL
  rw [List.getD_eq_getElem?_getD, List.getElem?_map, List.getD_eq_getElem?_getD, List.getElem?_eq_getElem h]
  rfl

theorem Rd.setLow9 {w : World} {B g o : Nat} {v : Value} {a : Option Addr} {L : List Int} (h : Rd w B a L) (hg : g < B) : Rd (w.setCell ⟨g, o, none⟩ v) B a L := by
  refine ⟨h.1, ?_⟩
  rcases h.2 with h0 | ⟨k, ha, hB, hk, hc⟩
  · exact Or.inl h0
  · refine Or.inr ⟨k, ha, hB, by simpa using hk, fun i hi => ?_⟩
    rw [World.cell?_setCell_other _ _ _ _ (by intro e; injection e with e _; omega), World.frozen?_setCell]
    exact hc i hi

/-- The call returns the numbers that a step leads to. -/
def RetOrbI (n : Nat) (act : Nat → Nat) (c : Nat) (B : Nat) (w : World) (e : Ending) (w' : World) : Prop :=
  ∃ a cap E, e = .returned (.agg #[.slice a E.length cap]) ∧ Rd w' B a (inL E) ∧ Orbt (fun _ x => act x) 1 (fun x => x < n) c E ∧ Below w.heap.size w w'

set_option maxRecDepth 100000 in
set_option maxHeartbeats 2000000 in
theorem iobi_any (n : Nat) (act : Nat → Nat) (c : Nat) (hc : c < n) (hn : n ≤ 5) (hact : ∀ x, x < n → act x < n) (g bx : Nat) (w : World)
    (hs : w.heap[g]? = some (.cells #[.func (.func 54) #[] #[.pointer (some ⟨bx, 0, none⟩)]] 83 (0, 0)))
    (HF : ∀ x, x < n → ∀ W, Below w.heap.size w W → Calls Try.prog 54 #[.int .i64 (x : Int), .pointer (some ⟨bx, 0, none⟩)] W fun e w' => e = .returned (.int .i64 (act x : Int)) ∧ w' = W) :
    Calls Try.prog 53 #[.int .i64 (c : Int), .slice (some ⟨g, 0, none⟩) 1 1] w (RetOrbI n act c w.heap.size w) := by
  have hgl : g < w.heap.size := (Array.getElem?_eq_some_iff.1 hs).1
  have HS := Lib.hid hs
  have HF := Lib.hid HF
  have HAC := Lib.hid hact
  have hmm := @run_makeMap Try.prog
  have HKY := Lib.hid (kyInt n (by omega))
  clear hs hact
  go_enter Try.func53, Try.ntmps53
  have HM0 : Hid (SetM 2 (fun c => .int .i64 (c : Int)) (fun x => x < n) (((w.alloc (.cells #[.slice none 0 0] 51)).alloc (.cells #[.int .i64 (c : Int)] 2)).alloc (.map #[] 0)) (w.heap.size + 1 + 1) []) := Lib.hid (by
    have h := setM_made (T := 2) (ky := fun c => .int .i64 (c : Int)) (P := fun x => x < n) ((w.alloc (.cells #[.slice none 0 0] 51)).alloc (.cells #[.int .i64 (c : Int)] 2))
    simpa using h)
  go_wp2_with (refine wpList_insert_own9 _ rfl _ _ _ 105 rfl 2 4 HKY.out.law Try.underlying105 selR (w.heap.size + 1 + 1) 0 _ rfl HM0.out.1 (by unfold maxLen; omega) _ _ _ rfl rfl (HKY.out.key c hc) (.held (.bool true)) [] rfl ?_; intro w1 hmap1 hg1)
  clear hmm
  have HM1 : Hid (SetM 2 (fun c => .int .i64 (c : Int)) (fun x => x < n) w1 (w.heap.size + 1 + 1) [c]) := Lib.hid (SetM.put (F := []) (fun x hx => by cases hx) hc hmap1)
  have hs1 := hg1.size
  simp only [World.size_alloc] at hs1
  have HB1 : Hid (Below w.heap.size w w1) := Lib.hid (Below.grown (by (repeat' (first | (with_reducible exact Below.refl _ _) | (with_reducible refine Below.alloc ?_ ?_ _) | (with_reducible refine Below.setCell ?_ ?_ _) | (with_reducible refine Below.drew ?_) | (with_reducible refine below_drewN ?_ _) | (with_reducible refine Below.trans ?_ (Below.mono (Hid.out (by assumption)) ?_)) | omega | (simp; done) | (simp; omega)))) hg1 (by simp <;> omega) (fun r e => by cases e; omega))
  have HRS : Hid (w1.heap[w.heap.size]? = some (.cells #[.slice none 0 0] 51 (0, 0))) := Lib.hid ((hg1.block _ (by simp; omega) (fun e => by injection e with e; omega)).trans ((halloc_lt _ _ _ (by simp; omega)).trans ((halloc_lt _ _ _ (by simp)).trans (halloc_at _ _ _ rfl))))
  have HOW : Hid (Own w1 (w.heap.size + 1) (.slice (some ⟨w.heap.size + 1, 0, none⟩) 1 1) (inL [c])) := Lib.hid
    ⟨rfl, Or.inr ⟨w.heap.size + 1, 1, #[.int .i64 (c : Int)], rfl, Nat.le_refl _, (hg1.block _ (by simp) (fun e => by injection e with e; omega)).trans ((halloc_lt _ _ _ (by simp)).trans (halloc_at _ _ _ (by simp))), Nat.le_refl _, by unfold maxLen; omega, rfl, rfl⟩⟩
  clear hmap1 hg1
  go_wp2_with fail
  go_loopw [5, 7, 9, 10] (fun v i _ _ wr => ∃ (pos : Nat) (E : List Nat), i = .int .i64 (pos : Int) ∧ Obw (fun _ x => act x) 1 (fun x => x < n) c pos 0 E ∧ Own wr (w.heap.size + 1) v (inL E) ∧ SetM 2 (fun c => .int .i64 (c : Int)) (fun x => x < n) wr (w.heap.size + 1 + 1) E ∧ Below w.heap.size w wr ∧
      wr.heap[w.heap.size]? = some (.cells #[.slice none 0 0] 51 (0, 0)) ∧ w.heap.size < wr.heap.size) (fun _ i _ _ _ => n - (intOf i).toNat)
  case atStart => exact ⟨0, [c], rfl, Obw.start _ _ hc, HOW.out, HM1.out, HB1.out, HRS.out, by omega⟩
  case round =>
    obtain ⟨pos, E, rfl, hob, hown, hmap, hb, hres, hszr⟩ := hrel
    have hEn := nodup_bound n E hob.nd hob.vl
    have hpl := hob.pos
    have HOB := Lib.hid hob
    have HM := Lib.hid hmap
    have HB := Lib.hid hb
    have HR := Lib.hid hres
    have hsr := hb.size
    obtain ⟨a, cap, rfl, hrd⟩ := own_rd hown (by rw [inL_len]; omega)
    rw [inL_len] at hown
    have HO := Lib.hid hown
    have HRD := Lib.hid hrd
    have HIL := Lib.hid (inL_len E)
    have HAP : Hid (some (w.heap.size + 1 + 1) ≠ (Value.slice a E.length cap).ownBlock) := Lib.hid (hmap.apart hown)
    clear hob hown hmap hb hres hrd
    rw [HIL.out]
    obtain ⟨wo, hwo⟩ : ∃ wo, wo = wr := ⟨_, rfl⟩
    subst hwo
    by_cases hpE : pos < E.length
    · have hpE' : (pos : Int) < (E.length : Int) := by omega
      obtain ⟨gE, rfl, hg1, hg2, hg3⟩ := HRD.out.2.resolve_left (fun e => by have := HIL.out; rw [e] at this; simp at this; omega)
      have hcl := (hg3 pos (by rw [HIL.out]; exact hpE)).1
      rw [inL_at E pos hpE] at hcl
      have hxn : E.getD pos 0 < n := HOB.out.vl _ (getD_in pos hpE)
      have hyn := HAC.out _ hxn
      have hFX := fun W h => HF.out (E.getD pos 0) hxn W h
      have HFX := Lib.hid hFX
      have hst := (HB.out.block g hgl).trans HS.out
      have f0 := Joins.cell_of_block hst 0
      simp only [List.getElem?_toArray, List.getElem?_cons_zero] at f0
      have hlk := HM.out.look (MT := 105) Try.underlying105 HKY.out hyn
      have HIN := Lib.hid fun h => HOB.out.old (i := 0) h
      have HNW := Lib.hid fun h => HOB.out.new (i := 0) (by omega) hpE hyn h
      have HKK := Lib.hid (HKY.out.key _ hyn)
      clear hg3 hFX hst
      generalize hx : E.getD pos 0 = x at *
      generalize hy : act x = y at *
      by_cases hm : y ∈ E
      · rw [decide_eq_true hm] at hlk
        have HOB2 := Lib.hid ((HIN.out hm).next hpE)
        clear hm
        go_wp2_with fail
        refine wp_loop_rounds 2 ?_
        rw [rounds_succ]
        go_wp2_with fail
        refine (HFX.out _ HB.out).mono ?_
        rintro e wo ⟨rfl, rfl⟩
        go_wp2_with fail
        rw [rounds_succ]
        go_wp2_with fail
        go_roundw
        case rel => exact ⟨pos + 1, E, by go_num, HOB2.out, HO.out, HM.out, HB.out, HR.out, hszr⟩
        case measure => simp [intOf]; omega
      · rw [decide_eq_false hm] at hlk
        have HOB2 := Lib.hid (HNW.out hm)
        have hel : (E ++ [y]).length = E.length + 1 := by simp
        have HOB3 := Lib.hid (HOB2.out.next (by omega))
        have HAPP := Lib.hid (inL_app E y)
        clear hm hel
        go_wp2_with fail
        refine wp_loop_rounds 2 ?_
        rw [rounds_succ]
        go_wp2_with fail
        refine (HFX.out _ HB.out).mono ?_
        rintro e wo ⟨rfl, rfl⟩
        go_wp2_with (first
          | (at_mapUpdate; refine wpList_mapUpdate_own _ rfl _ _ _ 105 rfl 2 4 HKY.out.law Try.underlying105 selR (w.heap.size + 1 + 1) E.length _ rfl HM.out.1 (by unfold maxLen; omega) _ _ _ rfl rfl HKK.out (.held (.bool true)) [] rfl ?_; intro w4 hmap4 hg4)
          | (at_builtin; refine wpList_app9 rfl _ _ rfl (w.heap.size + 1) _ (inL E) rfl (World.ownsRow.alloc (World.ownsRow.kept HO.out hg4 (Or.inr fun e => HAP.out e.symm)) _) w4.heap.size 1 (y : Int) rfl (halloc_at _ _ _ rfl) (by rw [HIL.out]; omega) (by have := hg4.size; simp; omega) ?_; intro v' w5 ho hg _))
        have hg4' := hg4
        have hs4 := hg4.size
        have hs5 := hg.size
        simp only [World.size_alloc] at hs5
        have hok := World.ownsRow.kept HO.out hg4 (Or.inr fun e => HAP.out e.symm)
        have HM5 : Hid (SetM 2 (fun c => .int .i64 (c : Int)) (fun x => x < n) w5 (w.heap.size + 1 + 1) (E ++ [y])) := Lib.hid
          (((SetM.put HM.out.2 hyn hmap4).below ((Below.refl _ _).alloc (Nat.le_refl _) _)).kept hg HAP.out)
        have HB4 : Below w.heap.size w w4 := HB.out.grown hg4 HB.out.size (fun r e => by cases e; omega)
        have HB5 : Hid (Below w.heap.size w w5) := Lib.hid ((HB4.alloc HB4.size _).grown hg (by simp; omega) (fun r e => by have := (HO.out.lt r e).1; omega))
        have HR5 : Hid (w5.heap[w.heap.size]? = some (.cells #[.slice none 0 0] 51 (0, 0))) := Lib.hid
          ((hg.block _ (by simp; omega) (fun e => by have := (HO.out.lt _ e.symm).1; omega)).trans ((halloc_lt _ _ _ (by omega)).trans ((hg4.block _ hszr (fun e => by injection e with e; omega)).trans HR.out)))
        rw [← HAPP.out] at ho
        have HO5 := Lib.hid ho
        have hst5 := (HB5.out.block g hgl).trans HS.out
        clear hmap4 hg4 hg4' hg ho hok HB4 hlk hcl f0
        rw [rounds_succ]
        go_wp2_with fail
        go_roundw
        case rel => exact ⟨pos + 1, E ++ [y], by go_num, HOB3.out, HO5.out, HM5.out, HB5.out, HR5.out, by omega⟩
        case measure => simp [intOf]; omega
    · have hpE' : ¬ ((pos : Int) < (E.length : Int)) := by omega
      obtain rfl : pos = E.length := by omega
      have HFI := Lib.hid HOB.out.fin
      have e0 := Joins.cell_of_block HR.out 0
      have hfr := Joins.unfrozen_of_block HR.out 0
      simp only [List.getElem?_toArray, List.getElem?_cons_zero] at e0
      go_wp2_with fail
      refine bodyPost_ret (v := .agg #[.slice a E.length cap]) (by simp [results, Try.results53, go_sem, *]) rfl ⟨a, cap, E, rfl, ?_, HFI.out, HB.out.setCell (Nat.le_refl _) _⟩
      exact (Rd.setLow9 HRD.out (by omega)).mono (by omega)

end Go.Proofs.Ytpphihjbgikjkaa
