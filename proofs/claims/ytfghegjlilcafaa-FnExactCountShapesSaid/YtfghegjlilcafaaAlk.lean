/- Maps that are alike: the contract of impl.alikeWith. -/
import Derived.Test.YtfghegjlilcafaaObm
import Derived.Test.YtfghegjlilcafaaRnm
import Derived.Test.YtfghegjlilcafaaPow
import Derived.Deep.RegionHeld3
import Derived.StillTailTactics
import Derived.Laws.EntriesVeiled
namespace Go.Proofs.Ytfghegjlilcafaa
open Go Go.RowKit

/-- The swap of the points j and j + 1. -/
def swF (n j : Nat) : Nat → Int := upd (upd (idn (n : Int)) j ((j : Int) + 1)) (j + 1) (j : Int)
theorem swF_ok {n j : Nat} (h5 : n ≤ 5) (hj : j + 1 < n) : isB (n : Int) (swF n j) = true ∧ permB (n : Int) (swF n j) = true := by
  rcases (by omega : n = 2 ∨ n = 3 ∨ n = 4 ∨ n = 5) with rfl | rfl | rfl | rfl
  · rcases (by omega : j = 0) with rfl
    exact ⟨by kernel_rfl, by kernel_rfl⟩
  · rcases (by omega : j = 0 ∨ j = 1) with rfl | rfl <;> exact ⟨by kernel_rfl, by kernel_rfl⟩
  · rcases (by omega : j = 0 ∨ j = 1 ∨ j = 2) with rfl | rfl | rfl <;> exact ⟨by kernel_rfl, by kernel_rfl⟩
  · rcases (by omega : j = 0 ∨ j = 1 ∨ j = 2 ∨ j = 3) with rfl | rfl | rfl | rfl <;> exact ⟨by kernel_rfl, by kernel_rfl⟩
theorem renm_ok {p : Int} {f q : Nat → Int} (hf : isB p f = true) (hq : isB p q = true) (h : permB p q = true) : isB p (renm p f q) = true := by
  rw [← isB_congr (fun i _ => ren_eq hf hq h i)]
  exact mul_ok (mul_ok (inv_ok hq) hf) hq
/-- A swap renumbers a map. -/
def rnA (n j x : Nat) : Nat := ecd (renm (n : Int) (dcd x) (swF n j))
theorem rnA_ok {n j x : Nat} (h5 : n ≤ 5) (hj : j + 1 < n) (hx : vld (n : Int) x) : vld (n : Int) (rnA n j x) := vld_ecd (renm_ok hx.2 (swF_ok h5 hj).1 (swF_ok h5 hj).2)
theorem rnA_mv {n j x : Nat} (h5 : n ≤ 5) (hj : j + 1 < n) (hx : vld (n : Int) x) : mv (n : Int) (dcd (rnA n j x)) = mv (n : Int) (renm (n : Int) (dcd x) (swF n j)) := by
  unfold mv rnA
  rw [mcells_ecd (renm_ok hx.2 (swF_ok h5 hj).1 (swF_ok h5 hj).2)]

theorem ials_any {n j x : Nat} (h5 : n ≤ 5) (hj : j + 1 < n) (hx : vld (n : Int) x) (b : Nat) (w : World) (hb : w.heap[b]? = some (.cells (mcells (n : Int) (swF n j)) 28 (0, 0))) :
    Calls Try.prog 103 #[mv (n : Int) (dcd x), .pointer (some ⟨b, 0, none⟩)] w fun e w' => e = .returned (mv (n : Int) (dcd (rnA n j x))) ∧ Below w.heap.size w w' := by
  rw [rnA_mv h5 hj hx]
  have HR := Lib.hid fun w => irnm_any (n : Int) (dcd x) (swF n j) hx.2 (swF_ok h5 hj).1 w
  have hbl : b < w.heap.size := (Array.getElem?_eq_some_iff.1 hb).1
  obtain ⟨x0, x1, x2, x3, x4, x5⟩ := blk6 hb
  clear hb
  generalize swF n j = s at *
  generalize renm (n : Int) (dcd x) s = G at *
  generalize dcd x = g at *
  simp only [mv, mcells] at *
  go_enter Try.func103, Try.ntmps103
  go_wp2_with fail
  (refine (HR.out _).mono ?_; rintro e w1 ⟨rfl, hb⟩; obtain ⟨hc, hf⟩ := bcell hb; have hz := hb.size; have Hb := Lib.hid hb; (try simp at hz hc hf); (try (have hy := Nat.lt_of_succ_le hz)); have hz0 : w.heap.size < w1.heap.size := (by omega); have hz1 : w.heap.size + 1 < w1.heap.size := (by omega); clear hb)
  go_wp2_with fail
  refine bodyPost_ret (v := mv (n : Int) G) (by simp [results, Try.results103, go_sem, *]) rfl ⟨rfl, ?_⟩
  (repeat' (first | (with_reducible exact Below.refl _ _) | (with_reducible refine Below.alloc ?_ ?_ _) | (with_reducible refine Below.setCell ?_ ?_ _) | (with_reducible refine Below.drew ?_) | (with_reducible refine below_drewN ?_ _) | (with_reducible refine Below.trans ?_ (Below.mono (Hid.out (by assumption)) ?_)) | omega | (simp; done) | (simp; omega)))

theorem swF_cells (n k : Nat) (hk : k + 1 < 5) : (([.int .i64 (n : Int), .int .i64 (idn (n : Int) 0), .int .i64 (idn (n : Int) 1), .int .i64 (idn (n : Int) 2), .int .i64 (idn (n : Int) 3), .int .i64 (idn (n : Int) 4)].set (1 + k) (.int .i64 ((k : Int) + 1))).set (1 + (k + 1)) (.int .i64 (k : Int))).toArray = mcells (n : Int) (swF n k) := by
  rcases (by omega : k = 0 ∨ k = 1 ∨ k = 2 ∨ k = 3) with rfl | rfl | rfl | rfl <;> rfl

theorem idn_cells (n k : Nat) (hk : k < 5) : ([.int .i64 (n : Int), .int .i64 (idn (n : Int) 0), .int .i64 (idn (n : Int) 1), .int .i64 (idn (n : Int) 2), .int .i64 (idn (n : Int) 3), .int .i64 (idn (n : Int) 4)] : List Value)[1 + k]? = some (.int .i64 (idn (n : Int) k)) := by
  rcases (by omega : k = 0 ∨ k = 1 ∨ k = 2 ∨ k = 3 ∨ k = 4) with rfl | rfl | rfl | rfl | rfl <;> rfl

theorem info_fn : (Try.prog.info? 90).map (fun i => (i.zero, i.size, i.bytes)) = some (some .nilFunc, 1, 8) := by kernel_rfl

theorem cell_one9f {w : World} {b T : Nat} {x : Value} (h : w.heap[b]? = some (.cells #[x] T (0, 0))) : ∀ j u, [x][j]? = some u → w.cell? ((⟨b, 0, none⟩ : Addr).add j) = some u := by
  intro j u hj
  have hadd : (⟨b, 0, none⟩ : Addr).add j = ⟨b, j, none⟩ := by cases j <;> simp [Addr.add]
  rw [hadd, Joins.cell_of_block h j, ← hj]
  simp

/-- The steps, by the blocks of their swaps. -/
def stV (BL : List Nat) : List Value := BL.map fun b => .func (.func 103) #[] #[.pointer (some ⟨b, 0, none⟩)]

theorem blk_apart9 {w : World} {b T1 b2 T2 s2 n2 : Nat} {cur : Array Value} {v2 : Value} {x2 : List Value} (hT : T1 ≠ T2) (h1 : w.heap[b]? = some (.cells cur T1 (0, 0))) (h2 : w.ownsRow b2 T2 s2 v2 n2 x2) : some b ≠ v2.ownBlock := by
  rcases h2.2 with ⟨rfl, _⟩ | ⟨g2, c2, cur2, rfl, _, hg2, _⟩
  · simp [Value.ownBlock]
  · intro e
    have e' : b = g2 := by simpa [Value.ownBlock] using e
    subst e'
    rw [h1] at hg2
    injection hg2 with hg2
    injection hg2 with _ hg2
    exact hT hg2

set_option maxRecDepth 100000 in
set_option maxHeartbeats 4000000 in
theorem ialk_any (n : Nat) (f : Nat → Int) (hf : isB (n : Int) f = true) (w : World) :
    Calls Try.prog 73 #[mv (n : Int) f] w (RetOrbM (n : Int) (rnA n) (n - 1) (ecd f) w.heap.size w) := by
  obtain ⟨h1, h5⟩ := isB_pts hf
  have hn1 : 1 ≤ n := by omega
  have hn5 : n ≤ 5 := by omega
  obtain ⟨i0, hi, hz0, hz1, hz2⟩ := info_parts info_fn
  have HI := Lib.hid fun w => iid_any (n : Int) h1 h5 w
  have hvf : vld (n : Int) (ecd f) := vld_ecd hf
  have hmc : mcells (n : Int) (dcd (ecd f)) = mcells (n : Int) f := mcells_ecd hf
  have hbx : ((w.alloc (.cells (mcells (n : Int) f) 28)).alloc (.cells #[.slice none 0 0] 70)).heap[w.heap.size]? = some (.cells (mcells (n : Int) f) 28 (0, 0)) := (halloc_lt _ _ _ (by simp)).trans (halloc_at _ _ _ rfl)
  have hrx : ((w.alloc (.cells (mcells (n : Int) f) 28)).alloc (.cells #[.slice none 0 0] 70)).heap[w.heap.size + 1]? = some (.cells #[.slice none 0 0] 70 (0, 0)) := halloc_at _ _ _ (by simp)
  have HBX := Lib.hid hbx
  have HRX := Lib.hid hrx
  have HVF := Lib.hid hvf
  have HMC := Lib.hid hmc
  have hn1' : (1 : Int) ≤ (n : Int) := h1
  have hn5' : (n : Int) ≤ 5 := h5
  clear hf hbx hrx hvf hmc h1 h5
  simp only [mv, mcells] at HI
  simp only [mv, mcells]
  go_enter Try.func73, Try.ntmps73
  go_wp2_with fail
  obtain ⟨wz, hwz⟩ : ∃ wz, wz = (w.alloc (.cells (mcells (n : Int) f) 28)).alloc (.cells #[.slice none 0 0] 70) := ⟨_, rfl⟩
  have HBZ : Hid (Below w.heap.size w wz) := Lib.hid (by rw [hwz]; (repeat' (first | (with_reducible exact Below.refl _ _) | (with_reducible refine Below.alloc ?_ ?_ _) | (with_reducible refine Below.setCell ?_ ?_ _) | (with_reducible refine Below.drew ?_) | (with_reducible refine below_drewN ?_ _) | (with_reducible refine Below.trans ?_ (Below.mono (Hid.out (by assumption)) ?_)) | omega | (simp; done) | (simp; omega))))
  have hsz : wz.heap.size = w.heap.size + 1 + 1 := by rw [hwz]; simp
  rw [← hwz] at HBX HRX
  simp only [mcells] at hwz
  rw [← hwz]
  have HSZ := Lib.hid hsz
  clear hwz hsz
  go_loopw [3, 4, 5, 9] (fun v _ _ i wr => ∃ BL : List Nat, BL.length + 1 ≤ n ∧ i = .int .i64 (BL.length : Int) ∧ wr.ownsRow (w.heap.size + 1 + 1) 90 1 v BL.length (stV BL) ∧ (∀ j, j < BL.length → wr.heap[BL.getD j 0]? = some (.cells (mcells (n : Int) (swF n j)) 28 (0, 0))) ∧ Below wz.heap.size wz wr) (fun _ _ _ i _ => n - (intOf i).toNat)
  case atStart => exact ⟨[], by simp; omega, rfl, World.ownsRow_nil _ _ _ _, fun j hj => by simp at hj, Below.refl _ _⟩
  case round =>
    obtain ⟨BL, hBL, rfl, hown, hbl, hb⟩ := hrel
    have hszz := HSZ.out
    have hsr := hb.size
    have hx := (hb.block w.heap.size (by omega)).trans HBX.out
    have HO := Lib.hid hown
    have HBL := Lib.hid hbl
    have HB := Lib.hid hb
    have HX := Lib.hid hx
    have e0 := (blk6 hx).1
    have hxl : w.heap.size < wr.heap.size := by omega
    obtain ⟨k, hk⟩ : ∃ k, k = BL.length := ⟨_, rfl⟩
    have HKL := Lib.hid hk
    rw [← hk] at hBL HO ⊢
    clear hown hbl hb hx hk
    by_cases hkn : k + 1 < n
    · have hkn' : (k : Int) < (n : Int) - 1 := by omega
      have hk5 : (k : Int) < 5 := by omega
      have hk4 : (k : Int) + 1 < 5 := by omega
      obtain ⟨wo, hwo⟩ : ∃ wo, wo = wr := ⟨_, rfl⟩
      subst hwo
      go_wp2_with fail
      refine (HI.out _).mono ?_
      rintro e w1 ⟨rfl, hb⟩
      have HB1 := Lib.hid hb
      have hs1 := hb.size
      clear hb
      have HSW := Lib.hid (swF_cells n k (by omega))
      have HOW : Hid (World.ownsRow w1 (w.heap.size + 1 + 1) 90 1 u3 k (stV BL)) := Lib.hid (World.ownsRow.kept (row := none) HO.out ⟨HB1.out.os, HB1.out.tape, HB1.out.output, HB1.out.size, fun j hj _ => HB1.out.block j hj⟩ (by cases hv : u3.ownBlock <;> simp))
      have HBL1 : Hid (∀ j, j < BL.length → w1.heap[BL.getD j 0]? = some (.cells (mcells (n : Int) (swF n j)) 28 (0, 0))) := Lib.hid fun j hj => (HB1.out.block _ (Array.getElem?_eq_some_iff.1 (HBL.out j hj)).1).trans (HBL.out j hj)
      have hx1 := (HB1.out.block w.heap.size hxl).trans HX.out
      have HX1 := Lib.hid hx1
      have c1 := idn_cells n k (by omega)
      have c2 := idn_cells n (k + 1) (by omega)
      clear hx1 e0
      go_wp2_with (at_builtin; refine wpList_append_own_at _ rfl _ _ 97 rfl (w.heap.size + 1 + 1) 90 i0 .nilFunc 1 8 Try.underlying97 hi hz0 hz1 hz2 rfl (by decide) u3 k (stV BL) rfl ((HOW.out.alloc _).alloc _) ⟨w1.heap.size + 1, 0, none⟩ 1 1 [.func (.func 103) #[] #[.pointer (some ⟨w1.heap.size, 0, none⟩)]] rfl rfl (cell_one9f (halloc_at _ _ _ (by simp))) (by intro u hu; simp at hu; subst hu; rfl) (by unfold maxLen; omega) (by omega) (by simp; omega) ?_; intro v' w5 ho hg _ hat)
      rw [HSW.out] at hg
      have hgs := hg.size
      simp only [World.size_alloc] at hgs
      have hlen : (BL ++ [w1.heap.size]).length = k + 1 := by simp [← HKL.out]
      have hlt : ∀ r, u3.ownBlock = some r → w.heap.size + 1 + 1 ≤ r ∧ r < w1.heap.size := fun r e => HOW.out.lt r e
      have hb5 : Below wz.heap.size wz w5 := (((HB.out.trans (HB1.out.mono hsr)).alloc (by omega) _).alloc (by simp; omega) _).grown hg (by simp; omega) (fun r e => by have := hlt r e; omega)
      have hst : stV (BL ++ [w1.heap.size]) = stV BL ++ [.func (.func 103) #[] #[.pointer (some ⟨w1.heap.size, 0, none⟩)]] := by simp [stV]
      refine ⟨⟨BL ++ [w1.heap.size], by omega, by rw [hlen]; simp, by rw [hlen, hst]; exact ho, fun j hj => ?_, hb5⟩, by simp [intOf]; omega⟩
      rw [hlen] at hj
      by_cases hjk : j < k
      · rw [getD_app j _ (by rw [← HKL.out]; exact hjk)]
        have hbj := HBL1.out j (by rw [← HKL.out]; exact hjk)
        have hl := (Array.getElem?_eq_some_iff.1 hbj).1
        exact (hg.block _ (by rw [World.size_alloc, World.size_alloc]; omega) (blk_apart9 (by decide) hbj HOW.out)).trans ((halloc_lt _ _ _ (by rw [World.size_alloc]; omega)).trans ((halloc_lt _ _ _ hl).trans hbj))
      · obtain rfl : j = k := by omega
        have he : (BL ++ [w1.heap.size]).getD j 0 = w1.heap.size := by
          rw [HKL.out, List.getD_eq_getElem?_getD, List.getElem?_append_right (Nat.le_refl _)]
          simp
        rw [he]
        exact (hg.block _ (by simp; omega) (fun e => by have := hlt _ e.symm; omega)).trans ((halloc_lt _ _ _ (by simp)).trans (halloc_at _ _ _ rfl))
    · have hkn' : ¬ ((k : Int) < (n : Int) - 1) := by omega
      have hke : k = n - 1 := by omega
      have hvm := HVF.out
      have hsteps : n - 1 = 0 ∨ ∃ gs, ∃ cs, u3 = .slice (some ⟨gs, 0, none⟩) (n - 1) cs ∧ gs < wr.heap.size ∧ ∀ j, j < n - 1 → wr.cell? ⟨gs, j, none⟩ = some (.func (.func 103) #[] #[.pointer (some ⟨BL.getD j 0, 0, none⟩)]) := by
        rcases HO.out.2 with ⟨_, h0⟩ | ⟨g, cap, cur, h1, h2, h3, h4, h5, h6, h7⟩
        · exact Or.inl (by omega)
        · refine Or.inr ⟨g, cap, by rw [h1, hke], (Array.getElem?_eq_some_iff.1 h3).1, fun j hj => ?_⟩
          rw [Joins.cell_of_block h3 j]
          have e : cur.toList[j]? = (stV BL)[j]? := by
            rw [← h7, List.getElem?_take, if_pos (by omega)]
          rw [← Array.getElem?_toList, e]
          unfold stV
          rw [List.getElem?_map, List.getElem?_eq_getElem (by rw [← HKL.out]; omega), List.getD_eq_getElem?_getD, List.getElem?_eq_getElem (by rw [← HKL.out]; omega)]
          rfl
      have hform : ∃ ast cs, u3 = .slice ast (n - 1) cs := by
        rcases HO.out.2 with ⟨h1, h0⟩ | ⟨g, cap, cur, h1, _⟩
        · exact ⟨none, 0, by rw [h1, ← hke, h0]⟩
        · exact ⟨_, cap, by rw [h1, hke]⟩
      obtain ⟨ast, cs, rfl⟩ := hform
      have HOR := Lib.hid (iobm_any (n : Int) (rnA n) (n - 1) (ecd f) (by omega) HVF.out (fun j hj x hx => rnA_ok hn5 (by omega) hx) ast cs (fun j => BL.getD j 0) wr
        (by
          rcases hsteps with h | ⟨gs, cs', h1, h2, h3⟩
          · exact Or.inl h
          · injection h1 with h1 _ _
            exact Or.inr ⟨gs, h1, h2, h3⟩)
        (fun j hj x hx W hW => ials_any hn5 (by omega) hx (BL.getD j 0) W ((hW.block _ (Array.getElem?_eq_some_iff.1 (HBL.out j (by rw [← HKL.out]; omega))).1).trans (HBL.out j (by rw [← HKL.out]; omega)))))
      obtain ⟨x0, x1, x2, x3, x4, x5⟩ := blk6 HX.out
      have hmv : mv (n : Int) (dcd (ecd f)) = mv (n : Int) f := by unfold mv; rw [HMC.out]
      rw [hmv] at HOR
      simp only [mv, mcells] at HOR
      clear hsteps hvm hke e0
      go_wp2_with fail
      refine HOR.out.mono ?_
      rintro e w2 ⟨a, cap, E, rfl, hrd, horb, hb⟩
      have hrr := (hb.block (w.heap.size + 1) (by omega)).trans ((HB.out.block (w.heap.size + 1) (by omega)).trans HRX.out)
      have hs2 := hb.size
      have r0 := Joins.cell_of_block hrr 0
      have hfr := Joins.unfrozen_of_block hrr 0
      simp only [List.getElem?_toArray, List.getElem?_cons_zero] at r0
      have HB2 : Hid (Below w.heap.size w w2) := Lib.hid (HBZ.out.trans ((HB.out.trans (hb.mono hsr)).mono (by omega)))
      have HRD := Lib.hid hrd
      have HORB := Lib.hid horb
      have hlz : w.heap.size + 1 < wr.heap.size := by omega
      clear hrd horb hb hrr x0 x1 x2 x3 x4 x5 hmv
      go_wp2_with fail
      refine bodyPost_ret (v := .agg #[.slice a E.length cap]) (by simp [results, Try.results73, go_sem, *]) rfl ⟨a, cap, E, rfl, (RdM.setLow9 HRD.out hlz).mono (by omega), HORB.out, HB2.out.setCell (by simp) _⟩

end Go.Proofs.Ytfghegjlilcafaa
