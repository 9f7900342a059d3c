/- The contracts of impl.orbitOfPoint and impl.OrbitOf. -/
import Derived.Test.YtpphihjbgikjkaaDoorObj
import Derived.Test.YtpphihjbgikjkaaDoorSoo
import Derived.Deep.RegionHeld3
import Derived.StillTailTactics
import Derived.Laws.EntriesVeiled
namespace Go.Proofs.YtpphihjbgikjkaaDoor
open Go Go.RowKit Go.Maps

set_option maxHeartbeats 1000000 in
theorem set9_any (L : List Int) (hp : ∀ k, k < L.length → 0 ≤ L.getD k 0 ∧ L.getD k 0 < 5) (hn : L.length ≤ 1048576) (a : Option Addr) (c : Nat) (w : World) (h : InRow w a L) :
    Calls Tryd.prog 68 #[.slice a L.length c] w fun e w' => e = .returned (.agg (cells5 (memB L))) ∧ Below w.heap.size w w' := by
  have HN := Lib.hid h
  have HP := Lib.hid hp
  clear h hp
  go_enter Tryd.func68, Tryd.ntmps68
  go_wp2_with fail
  go_loopw [5, 8] (fun _ i wr => ∃ (k : Nat), k ≤ L.length ∧ i = .int .i64 k ∧ Below w.heap.size w wr ∧ w.heap.size + 1 < wr.heap.size ∧
      wr.heap[w.heap.size]? = some (.cells (cells5 fun _ => false) 54 (0, 0)) ∧ wr.heap[w.heap.size + 1]? = some (.cells (cells5 (memK L k)) 54 (0, 0))) (fun _ i _ => L.length - (intOf i).toNat)
  case atStart =>
    refine ⟨0, by omega, rfl, ?_, by simp, ?_, ?_⟩
    · (repeat' (first | (with_reducible exact Below.refl _ _) | (with_reducible refine Below.alloc ?_ ?_ _) | (with_reducible refine Below.setCell ?_ ?_ _) | (with_reducible refine Below.drew ?_) | (with_reducible refine below_drewN ?_ _) | (with_reducible refine Below.trans ?_ (Below.mono (Hid.out (by assumption)) ?_)) | omega | (simp; done) | (simp; omega)))
    · ((try rw [hdrew]); simp only [halloc, Array.getElem?_push, Array.size_push]; (repeat (first | rw [if_pos (by omega)] | rw [if_neg (by omega)])); try rfl)
    · ((try rw [hdrew]); simp only [halloc, Array.getElem?_push, Array.size_push]; (repeat (first | rw [if_pos (by omega)] | rw [if_neg (by omega)])); try rfl)
  case round =>
    obtain ⟨k, hk, rfl, hb, hsz, b0, b1⟩ := hrel
    have HR := Lib.hid (HN.out.below hb)
    have Hb := Lib.hid hb
    have B0 := Lib.hid b0
    have B1 := Lib.hid b1
    clear hb b0 b1
    by_cases hkl : k < L.length
    · obtain ⟨b, off, rfl, hlt, hin⟩ := HR.out.resolve_left (fun e => by rw [e] at hkl; simp at hkl)
      have hkl' : (k : Int) < (L.length : Int) := by omega
      have e1 := hin k hkl
      obtain ⟨f0, f1⟩ := HP.out k hkl
      have hX5 : L.getD k 0 < 5 := by omega
      have hok := blk5_at B1.out (L.getD k 0).toNat (by omega)
      have hfr := blk_free B1.out (L.getD k 0).toNat
      have hset := blk5_set B1.out (L.getD k 0).toNat (by omega)
      rw [memK_succ L k f0] at hset
      have HSET := Lib.hid hset
      clear hset hin
      generalize L.getD k 0 = X at *
      go_wp2_with fail
      go_roundw
      case rel =>
        refine ⟨k + 1, by omega, by go_num, Hb.out.setCell (by simp) _, by simpa using hsz, ?_, HSET.out⟩
        rw [hset_ne _ _ _ _ (by simp)]; exact B0.out
      case measure => simp [intOf]; omega
    · obtain rfl : k = L.length := by omega
      obtain ⟨e0, e1, e2, e3, e4⟩ := blk5 B1.out
      obtain ⟨r0, r1, r2, r3, r4⟩ := blk5 B0.out
      have hfr := blk_free B0.out
      go_wp2_with fail
      refine bodyPost_ret (v := .agg (cells5 (memB L))) (by simp [results, Tryd.results68, go_sem, r0, r1, r2, r3, r4, cells5, memB]) rfl ⟨rfl, ?_⟩
      (repeat' (first | (with_reducible exact Below.refl _ _) | (with_reducible refine Below.alloc ?_ ?_ _) | (with_reducible refine Below.setCell ?_ ?_ _) | (with_reducible refine Below.drew ?_) | (with_reducible refine below_drewN ?_ _) | (with_reducible refine Below.trans ?_ (Below.mono (Hid.out (by assumption)) ?_)) | omega | (simp; done) | (simp; omega)))

theorem iop1_any (p : Int) (t : Nat → Int) (x : Nat) (hx : x < 5) (b : Nat) (w : World) (hb : w.heap[b]? = some (.cells (mcells p t) 49 (0, 0))) :
    Calls Tryd.prog 67 #[.int .i64 (x : Int), .pointer (some ⟨b, 0, none⟩)] w fun e w' => e = .returned (.int .i64 (t x)) ∧ w' = w := by
  have hx' : (x : Int) < 5 := by omega
  have hc := blk_at hb x hx
  have hl := (Array.getElem?_eq_some_iff.1 hb).1
  clear hb
  go_enter Tryd.func67, Tryd.ntmps67
  go_wp2_with fail
  go_ret
  exact ⟨rfl, rfl⟩

theorem info_fni : (Tryd.prog.info? 89).map (fun i => (i.zero, i.size, i.bytes)) = some (some .nilFunc, 1, 8) := by kernel_rfl

theorem cell_onei {w : World} {b T : Nat} {x : Value} (h : w.heap[b]? = some (.cells #[x] T (0, 0))) : ∀ j u, [x][j]? = some u → w.cell? ((⟨b, 0, none⟩ : Addr).add j) = some u := by
  intro j u hj
  have hadd : (⟨b, 0, none⟩ : Addr).add j = ⟨b, j, none⟩ := by cases j <;> simp [Addr.add]
  rw [hadd, Joins.cell_of_block h j, ← hj]
  simp

/-- The steps, by the blocks of their maps. -/
def stI (BL : List Nat) : List Value := BL.map fun b => .func (.func 67) #[] #[.pointer (some ⟨b, 0, none⟩)]

theorem blk_aparti {w : World} {b T1 b2 T2 s2 n2 : Nat} {cur : Array Value} {v2 : Value} {x2 : List Value} (hT : T1 ≠ T2) (h1 : w.heap[b]? = some (.cells cur T1 (0, 0))) (h2 : w.ownsRow b2 T2 s2 v2 n2 x2) : some b ≠ v2.ownBlock := by
  rcases h2.2 with ⟨rfl, _⟩ | ⟨g2, c2, cur2, rfl, _, hg2, _⟩
  · simp [Value.ownBlock]
  · intro e
    have e' : b = g2 := by simpa [Value.ownBlock] using e
    subst e'
    rw [h1] at hg2
    injection hg2 with hg2
    injection hg2 with _ hg2
    exact hT hg2

theorem mem_rch {L : List MapN} {P : Nat → Prop} {c : Nat} {E : List Nat} (h : Orbt (stL L) L.length P c E) : memB (inJ E) = rchS L c := by
  funext j
  rw [Bool.eq_iff_iff, memB_in, rchS_true, ← orbt_rch h]
  unfold inJ
  rw [List.mem_map]
  constructor
  · rintro ⟨x, hx, e⟩
    rw [← show x = j by omega]; exact hx
  · exact fun hj => ⟨j, hj, rfl⟩

theorem fld_orbi (v : Value) (w : World) : (Instr.field 92 (.agg #[v]) 0).run Tryd.prog w = .ok v w := by kernel_rfl

set_option maxRecDepth 100000 in
set_option maxHeartbeats 4000000 in
theorem iorb_any (L : List MapN) {n : Nat} (hok : LOk L n) (c : Nat) (hc : c < n) (a : Option Addr) (cap : Nat) (w : World) (hr : InRowM w a L) :
    Calls Tryd.prog 57 #[.slice a L.length cap, .int .i64 (c : Int)] w fun e w' => e = .returned (.agg (cells5 (rchS L c))) ∧ Below w.heap.size w w' := by
  obtain ⟨i0, hi, hz0, hz1, hz2⟩ := info_parts info_fni
  have hn5 := hok.n5
  have hl6 := hok.len6
  have HK := Lib.hid hok
  have HR := Lib.hid hr
  have hc5 : (c : Int) < 5 := by omega
  clear hok hr
  go_enter Tryd.func57, Tryd.ntmps57
  go_wp2_with fail
  obtain ⟨wz, hwz⟩ : ∃ wz, wz = w.alloc (.cells #[.bool false, .bool false, .bool false, .bool false, .bool false] 54) := ⟨_, rfl⟩
  have HBZ : Hid (Below w.heap.size w wz) := Lib.hid (by rw [hwz]; (repeat' (first | (with_reducible exact Below.refl _ _) | (with_reducible refine Below.alloc ?_ ?_ _) | (with_reducible refine Below.setCell ?_ ?_ _) | (with_reducible refine Below.drew ?_) | (with_reducible refine below_drewN ?_ _) | (with_reducible refine Below.trans ?_ (Below.mono (Hid.out (by assumption)) ?_)) | omega | (simp; done) | (simp; omega))))
  have HRX : Hid (wz.heap[w.heap.size]? = some (.cells (cells5 fun _ => false) 54 (0, 0))) := Lib.hid (by rw [hwz]; exact halloc_at _ _ _ rfl)
  have hsz : wz.heap.size = w.heap.size + 1 := by rw [hwz]; simp
  rw [← hwz]
  have HSZ := Lib.hid hsz
  clear hwz hsz
  go_loopw [5, 7, 10] (fun v _ i wr => ∃ BL : List Nat, BL.length ≤ L.length ∧ i = .int .i64 (BL.length : Int) ∧ wr.ownsRow (w.heap.size + 1) 89 1 v BL.length (stI BL) ∧ (∀ j, j < BL.length → wr.heap[BL.getD j 0]? = some (.cells (mcells (n : Int) (L.getD j z0).2) 49 (0, 0))) ∧ Below wz.heap.size wz wr) (fun _ _ i _ => L.length - (intOf i).toNat)
  case atStart => exact ⟨[], by simp, rfl, World.ownsRow_nil _ _ _ _, fun j hj => by simp at hj, Below.refl _ _⟩
  case round =>
    obtain ⟨BL, hBL, rfl, hown, hbl, hb⟩ := hrel
    have hszz := HSZ.out
    have hsr := hb.size
    have HO := Lib.hid hown
    have HBL := Lib.hid hbl
    have HB := Lib.hid hb
    have HBW : Hid (Below w.heap.size w wr) := Lib.hid (HBZ.out.trans (hb.mono (by omega)))
    have hxl : w.heap.size < wr.heap.size := by omega
    obtain ⟨k, hk⟩ : ∃ k, k = BL.length := ⟨_, rfl⟩
    have HKL := Lib.hid hk
    rw [← hk] at hBL HO ⊢
    clear hown hbl hb hk
    obtain ⟨wo, hwo⟩ : ∃ wo, wo = wr := ⟨_, rfl⟩
    subst hwo
    by_cases hkn : k < L.length
    · have hkn' : (k : Int) < (L.length : Int) := by omega
      obtain ⟨b, off, rfl, hbl, x0, x1, x2, x3, x4, x5⟩ := (HR.out.below HBW.out).at6 k hkn
      rw [HK.out.pts k hkn] at x0
      obtain ⟨t, hT⟩ : ∃ t, t = (L.getD k z0).2 := ⟨_, rfl⟩
      rw [← hT] at x1 x2 x3 x4 x5
      have HT := Lib.hid hT
      clear hT
      go_wp2_with (at_builtin; refine wpList_append_own_at _ rfl _ _ 88 rfl (w.heap.size + 1) 89 i0 .nilFunc 1 8 Tryd.underlying88 hi hz0 hz1 hz2 rfl (by decide) u5 k (stI BL) rfl ((HO.out.alloc _).alloc _) ⟨wo.heap.size + 1, 0, none⟩ 1 1 [.func (.func 67) #[] #[.pointer (some ⟨wo.heap.size, 0, none⟩)]] rfl rfl (cell_onei (halloc_at _ _ _ (by simp))) (by intro u hu; simp at hu; subst hu; rfl) (by unfold maxLen; omega) (by omega) (by simp; omega) ?_; intro v' w5 ho hg _ hat)
      have hgs := hg.size
      simp only [World.size_alloc] at hgs
      have hlen : (BL ++ [wo.heap.size]).length = k + 1 := by simp [← HKL.out]
      have hlt : ∀ r, u5.ownBlock = some r → w.heap.size + 1 ≤ r ∧ r < wo.heap.size := fun r e => HO.out.lt r e
      have hb5 : Below wz.heap.size wz w5 := ((HB.out.alloc (by omega) _).alloc (by simp; omega) _).grown hg (by simp; omega) (fun r e => by have := hlt r e; omega)
      have hst : stI (BL ++ [wo.heap.size]) = stI BL ++ [.func (.func 67) #[] #[.pointer (some ⟨wo.heap.size, 0, none⟩)]] := by simp [stI]
      refine ⟨⟨BL ++ [wo.heap.size], by omega, by rw [hlen]; go_num, by rw [hlen, hst]; exact ho, fun j hj => ?_, hb5⟩, by simp [intOf]; omega⟩
      rw [hlen] at hj
      by_cases hjk : j < k
      · rw [getD_app j _ (by rw [← HKL.out]; exact hjk)]
        have hbj := HBL.out j (by rw [← HKL.out]; exact hjk)
        have hl := (Array.getElem?_eq_some_iff.1 hbj).1
        exact (hg.block _ (by rw [World.size_alloc, World.size_alloc]; omega) (blk_aparti (by decide) hbj HO.out)).trans ((halloc_lt _ _ _ (by rw [World.size_alloc]; omega)).trans ((halloc_lt _ _ _ hl).trans hbj))
      · obtain rfl : j = k := by omega
        have he : (BL ++ [wo.heap.size]).getD j 0 = wo.heap.size := by
          rw [HKL.out, List.getD_eq_getElem?_getD, List.getElem?_append_right (Nat.le_refl _)]
          simp
        rw [he, ← HT.out]
        exact (hg.block _ (by simp; omega) (fun e => by have := hlt _ e.symm; omega)).trans ((halloc_lt _ _ _ (by simp)).trans (halloc_at _ _ _ rfl))
    · have hkn' : ¬ ((k : Int) < (L.length : Int)) := by omega
      have hke : k = L.length := by omega
      have hsteps : L.length = 0 ∨ ∃ gs, ∃ cs, u5 = .slice (some ⟨gs, 0, none⟩) L.length cs ∧ gs < wo.heap.size ∧ ∀ j, j < L.length → wo.cell? ⟨gs, j, none⟩ = some (.func (.func 67) #[] #[.pointer (some ⟨BL.getD j 0, 0, none⟩)]) := by
        rcases HO.out.2 with ⟨_, h0⟩ | ⟨g, cap, cur, h1, h2, h3, h4, h5, h6, h7⟩
        · exact Or.inl (by omega)
        · refine Or.inr ⟨g, cap, by rw [h1, hke], (Array.getElem?_eq_some_iff.1 h3).1, fun j hj => ?_⟩
          rw [Joins.cell_of_block h3 j]
          have e : cur.toList[j]? = (stI BL)[j]? := by
            rw [← h7, List.getElem?_take, if_pos (by omega)]
          rw [← Array.getElem?_toList, e]
          unfold stI
          rw [List.getElem?_map, List.getElem?_eq_getElem (by rw [← HKL.out]; omega), List.getD_eq_getElem?_getD, List.getElem?_eq_getElem (by rw [← HKL.out]; omega)]
          rfl
      have hform : ∃ ast cs, u5 = .slice ast L.length cs := by
        rcases HO.out.2 with ⟨h1, h0⟩ | ⟨g, cap, cur, h1, _⟩
        · exact ⟨none, 0, by rw [h1, ← hke, h0]⟩
        · exact ⟨_, cap, by rw [h1, hke]⟩
      obtain ⟨ast, cs, rfl⟩ := hform
      have HOR := Lib.hid (iobj_any n (stL L) L.length c (by omega) hc hn5 (fun j hj x hx => (HK.out.step hj hx).2) ast cs (fun j => BL.getD j 0) wo
        (by
          rcases hsteps with h | ⟨gs, cs', h1, h2, h3⟩
          · exact Or.inl h
          · injection h1 with h1 _ _
            exact Or.inr ⟨gs, h1, h2, h3⟩)
        (fun j hj x hx W hW => by
          rw [← (HK.out.step hj hx).1]
          exact iop1_any (n : Int) _ x (by omega) (BL.getD j 0) W ((hW.block _ (Array.getElem?_eq_some_iff.1 (HBL.out j (by rw [← HKL.out]; omega))).1).trans (HBL.out j (by rw [← HKL.out]; omega)))))
      clear hsteps hke
      go_wp2_with fail
      refine HOR.out.mono ?_
      rintro e w2 ⟨a2, cap2, E, rfl, hrd, horb, hb⟩
      have hz2 := hb.size
      have HB2 : Hid (Below w.heap.size w w2) := Lib.hid (HBW.out.trans (hb.mono (by omega)))
      have hrr := (hb.block w.heap.size hxl).trans ((HB.out.block w.heap.size (by omega)).trans HRX.out)
      have HRR := Lib.hid hrr
      have hE5 := nodup_bound n E horb.nd (fun x hx => horb.vl x hx)
      have HST := Lib.hid fun wx (hbx : Below w2.heap.size w2 wx) => set9_any (inJ E) (fun k hk => by
        rw [inJ_len] at hk
        rw [inJ_at E k hk]
        have := horb.vl _ (getD_in k hk)
        omega) (by rw [inJ_len]; omega) a2 cap2 wx (hrd.inRow.below hbx)
      rw [inJ_len, mem_rch horb] at HST
      clear hrd horb hb hrr
      have hfld := fun w => fld_orbi (.slice a2 E.length cap2) w
      go_wp2_with fail
      clear hfld
      refine (HST.out _ (Below.refl _ _)).mono ?_
      rintro e w3 ⟨rfl, hb⟩
      have HB3 := Lib.hid hb
      have hz3 := hb.size
      have hrr := (hb.block w.heap.size (by omega)).trans HRR.out
      obtain ⟨r0, r1, r2, r3, r4⟩ := blk5 hrr
      have hfr := blk_free hrr
      clear hb hrr
      simp only [cells5]
      go_wp2_with fail
      refine bodyPost_ret (v := .agg (cells5 (rchS L c))) (by simp [results, Tryd.results57, go_sem, r0, r1, r2, r3, r4, cells5]) rfl ⟨rfl, ?_⟩
      (repeat' (first | (with_reducible exact Below.refl _ _) | (with_reducible refine Below.alloc ?_ ?_ _) | (with_reducible refine Below.setCell ?_ ?_ _) | (with_reducible refine Below.drew ?_) | (with_reducible refine below_drewN ?_ _) | (with_reducible refine Below.trans ?_ (Below.mono (Hid.out (by assumption)) ?_)) | omega | (simp; done) | (simp; omega)))

end Go.Proofs.YtpphihjbgikjkaaDoor
