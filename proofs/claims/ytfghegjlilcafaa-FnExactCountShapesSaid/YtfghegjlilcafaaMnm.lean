/- The contract of slices.MinFunc at maps with impl.compareMaps, by the maps' numbers; the least map of an orbit; impl.LeastForm. -/
import Derived.Test.YtfghegjlilcafaaObm
import Derived.Test.YtfghegjlilcafaaNum
import Derived.Deep.RegionHeld3
import Derived.StillTailTactics
namespace Go.Proofs.Ytfghegjlilcafaa
open Go Go.RowKit

/-- The least of the first k + 1 numbers. -/
def mnN (L : List Nat) : Nat → Nat
  | 0 => L.getD 0 0
  | k + 1 => if L.getD (k + 1) 0 < mnN L k then L.getD (k + 1) 0 else mnN L k
theorem mnN_le (L : List Nat) : ∀ k j, j ≤ k → mnN L k ≤ L.getD j 0
  | 0, j, h => by rw [show j = 0 by omega]; exact Nat.le_refl _
  | k + 1, j, h => by
    unfold mnN
    by_cases e : j = k + 1
    · rw [e]; split <;> omega
    · have := mnN_le L k j (by omega)
      split <;> omega
theorem mnN_in (L : List Nat) : ∀ k, k < L.length → mnN L k ∈ L
  | 0, h => by
    show L.getD 0 0 ∈ L
    rw [List.getD_eq_getElem?_getD, List.getElem?_eq_getElem h]
    exact List.getElem_mem h
  | k + 1, h => by
    unfold mnN
    split
    · rw [List.getD_eq_getElem?_getD, List.getElem?_eq_getElem h]
      exact List.getElem_mem h
    · exact mnN_in L k (by omega)
theorem mnN_step (L : List Nat) {k : Nat} (h : 1 ≤ k) : mnN L k = if L.getD k 0 < mnN L (k - 1) then L.getD k 0 else mnN L (k - 1) := by
  obtain ⟨j, rfl⟩ : ∃ j, k = j + 1 := ⟨k - 1, by omega⟩
  rfl
/-- The least number of a list. -/
def lsN (L : List Nat) : Nat := mnN L (L.length - 1)
theorem lsN_in {L : List Nat} (h : 0 < L.length) : lsN L ∈ L := mnN_in L _ (by omega)
theorem lsN_le (L : List Nat) (x : Nat) (hx : x ∈ L) : lsN L ≤ x := by
  obtain ⟨j, hj, rfl⟩ := List.getElem_of_mem hx
  have := mnN_le L (L.length - 1) j (by omega)
  rw [List.getD_eq_getElem?_getD, List.getElem?_eq_getElem hj] at this
  exact this

theorem icn_any {p : Int} {a b : Nat} (ha : vld p a) (hb : vld p b) (w : World) :
    Calls Try.prog 76 #[mv p (dcd a), mv p (dcd b)] w fun e w' => e = .returned (.int .i64 (sg a b)) ∧ Below w.heap.size w w' := by
  have h := icm_any p p (dcd a) (dcd b) w
  rw [or_num ha hb] at h
  exact h

theorem RdM.lt9 {w : World} {B g : Nat} {L : List MapN} (h : RdM w B (some ⟨g, 0, none⟩) L) (hL : 0 < L.length) : g < w.heap.size := by
  rcases h.2 with h0 | ⟨k, ha, _, hk, _⟩
  · rw [h0] at hL; simp at hL
  · injection ha with ha
    injection ha with ha
    omega

theorem below_set6 {w w' : World} {B b : Nat} {v0 v1 v2 v3 v4 v5 : Value} (h : Below B w w') (hb : B ≤ b) : Below B w ((((((w'.setCell ⟨b, 0, none⟩ v0).setCell ⟨b, 1, none⟩ v1).setCell ⟨b, 2, none⟩ v2).setCell ⟨b, 3, none⟩ v3).setCell ⟨b, 4, none⟩ v4).setCell ⟨b, 5, none⟩ v5) :=
  (((((h.setCell hb _).setCell hb _).setCell hb _).setCell hb _).setCell hb _).setCell hb _

/-- A map in a block of its own. -/
def At5 (w : World) (b : Nat) (p : Int) (c : Nat) : Prop := w.heap[b]? = some (.cells (mcells p (dcd c)) 28 (0, 0))

theorem set6_at5 {w : World} {b : Nat} {p q : Int} {t u : Nat → Int} (h : w.heap[b]? = some (.cells (mcells q u) 28 (0, 0))) :
    (((((((w.setCell ⟨b, 0, none⟩ (.int .i64 p)).setCell ⟨b, 1, none⟩ (.int .i64 (t 0))).setCell ⟨b, 2, none⟩ (.int .i64 (t 1))).setCell ⟨b, 3, none⟩ (.int .i64 (t 2))).setCell ⟨b, 4, none⟩ (.int .i64 (t 3))).setCell ⟨b, 5, none⟩ (.int .i64 (t 4))).heap[b]? = some (.cells (mcells p t) 28 (0, 0))) := by
  have h1 := heap_setCell_same _ b 0 _ _ (.int .i64 p) h
  have h2 := heap_setCell_same _ b 1 _ _ (.int .i64 (t 0)) h1
  have h3 := heap_setCell_same _ b 2 _ _ (.int .i64 (t 1)) h2
  have h4 := heap_setCell_same _ b 3 _ _ (.int .i64 (t 2)) h3
  have h5 := heap_setCell_same _ b 4 _ _ (.int .i64 (t 3)) h4
  have h6 := heap_setCell_same _ b 5 _ _ (.int .i64 (t 4)) h5
  exact h6

set_option maxRecDepth 100000 in
set_option maxHeartbeats 4000000 in
theorem minm_any (p : Int) (E : List Nat) (hE : 0 < E.length) (hn : E.length ≤ 3125) (hv : ∀ c, c ∈ E → vld p c) (B : Nat) (a : Option Addr) (c : Nat) (w : World) (h : RdM w B a (moL p E)) :
    Calls Try.prog 106 #[.slice a E.length c, .func (.func 76) #[] #[]] w fun e w' => e = .returned (mv p (dcd (lsN E))) ∧ Below w.heap.size w w' := by
  obtain ⟨g, rfl, hat⟩ := h.at6 0 (by rw [moL_len]; exact hE)
  have hgl := h.lt9 (by rw [moL_len]; exact hE)
  have hat0 := hat
  rw [moL_at p E 0 hE] at hat
  obtain ⟨y0, y1, y2, y3, y4, y5⟩ := hat
  simp only [Nat.zero_mul, Nat.zero_add] at y0 y1 y2 y3 y4 y5
  clear hat0
  have HRD := Lib.hid h
  have HVD := Lib.hid hv
  have hp1 : ¬ ((E.length : Int) < 1) := by omega
  have hp0 : (0 : Int) < (E.length : Int) := by omega
  have HE : Hid (E.getD 0 0 = mnN E 0) := Lib.hid rfl
  have HS := Lib.hid fun k h => mnN_step E (k := k) h
  have HF : Hid (∀ k, k = E.length - 1 → mnN E k = lsN E) := Lib.hid fun k h => by rw [h]; rfl
  have HIN := Lib.hid fun k h => mnN_in E k h
  rw [HE.out] at y1 y2 y3 y4 y5
  clear h hv
  obtain ⟨n, hnn⟩ : ∃ n, n = E.length := ⟨_, rfl⟩
  have HNN := Lib.hid hnn
  rw [← hnn] at hE hp1 hp0 hn HF HIN ⊢
  clear hnn
  simp only [mv, mcells]
  go_enter Try.func106, Try.ntmps106
  go_wp2_with fail
  clear y0 y1 y2 y3 y4 y5
  obtain ⟨wz, hwz⟩ : ∃ wz, wz = (w.alloc (.cells (mcells 0 fun _ => 0) 28)).alloc (.cells (mcells p (dcd (mnN E 0))) 28) := ⟨_, rfl⟩
  have HBZ : Hid (Below w.heap.size w wz) := Lib.hid (by rw [hwz]; (repeat' (first | (with_reducible exact Below.refl _ _) | (with_reducible refine Below.alloc ?_ ?_ _) | (with_reducible refine Below.setCell ?_ ?_ _) | (with_reducible refine Below.drew ?_) | (with_reducible refine below_drewN ?_ _) | (with_reducible refine Below.trans ?_ (Below.mono (Hid.out (by assumption)) ?_)) | omega | (simp; done) | (simp; omega))))
  have hsz : wz.heap.size = w.heap.size + 1 + 1 := by rw [hwz]; simp
  have HRX : Hid (wz.heap[w.heap.size]? = some (.cells (mcells 0 fun _ => 0) 28 (0, 0))) := Lib.hid (by rw [hwz]; exact (halloc_lt _ _ _ (by simp)).trans (halloc_at _ _ _ rfl))
  have HMX : Hid (At5 wz (w.heap.size + 1) p (mnN E 0)) := Lib.hid (by rw [hwz]; exact halloc_at _ _ _ (by simp))
  simp only [mcells] at hwz
  rw [← hwz]
  clear hwz
  have HSZ := Lib.hid hsz
  clear hsz
  go_loopw [6] (fun i wr => ∃ k : Nat, 1 ≤ k ∧ k ≤ n ∧ i = .int .i64 (k : Int) ∧ At5 wr (w.heap.size + 1) p (mnN E (k - 1)) ∧ wr.heap[w.heap.size]? = some (.cells (mcells 0 fun _ => 0) 28 (0, 0)) ∧ Below w.heap.size w wr) (fun i _ => n - (intOf i).toNat)
  case atStart => exact ⟨1, Nat.le_refl _, hE, rfl, HMX.out, HRX.out, HBZ.out⟩
  case round =>
    obtain ⟨k, hk1, hk, rfl, hmx, hrx, hb⟩ := hrel
    have HMR := Lib.hid hmx
    have HRR := Lib.hid hrx
    have HBR := Lib.hid hb
    have hml : w.heap.size + 1 < wr.heap.size := (Array.getElem?_eq_some_iff.1 hmx).1
    obtain ⟨z0, z1, z2, z3, z4, z5⟩ := blk6 hmx
    have hgr : g < wr.heap.size := by omega
    have hkk : k - 1 < E.length := by have := HNN.out; omega
    have hvm : vld p (mnN E (k - 1)) := HVD.out _ (mnN_in E _ hkk)
    by_cases hkn : k < n
    · have hkn' : (k : Int) < (n : Int) := by omega
      have hkE : k < E.length := by have := HNN.out; omega
      obtain ⟨g', hg', hat⟩ := (HRD.out.below hb).at6 k (by rw [moL_len]; exact hkE)
      injection hg' with hg'
      injection hg' with hg'
      subst hg'
      rw [moL_at p E k hkE] at hat
      obtain ⟨x0, x1, x2, x3, x4, x5⟩ := hat
      simp only [] at x0 x1 x2 x3 x4 x5
      have hvx : vld p (E.getD k 0) := HVD.out _ (getD_mem hkE)
      have HC := Lib.hid fun w => icn_any hvx hvm w
      have HST := Lib.hid (HS.out k hk1)
      have HG : Hid (k + 1 - 1 = k) := Lib.hid (by omega)
      obtain ⟨M1, hM1⟩ : ∃ M1, M1 = mnN E k := ⟨_, rfl⟩
      rw [← hM1] at HST
      have HM1 := Lib.hid hM1
      clear hM1 hmx hrx hb hkE hkk hvx hvm
      generalize mnN E (k - 1) = M at *
      generalize E.getD k 0 = X at *
      have HLT : Hid (X < M ↔ sg (X : Int) M < 0) := Lib.hid (by unfold sg; repeat' split; all_goals omega)
      generalize sg (X : Int) M = S at *
      simp only [mv, mcells] at HC
      have r0 : ∀ z, Below wr.heap.size wr z → z.cell? ⟨g, k * 6, none⟩ = some (.int .i64 p) := fun z h => (h.cell (p := ⟨g, _, none⟩) hgr).trans x0
      have r1 : ∀ z, Below wr.heap.size wr z → z.cell? ⟨g, k * 6 + 1, none⟩ = some (.int .i64 (dcd X 0)) := fun z h => (h.cell (p := ⟨g, _, none⟩) hgr).trans x1
      have r2 : ∀ z, Below wr.heap.size wr z → z.cell? ⟨g, k * 6 + 2, none⟩ = some (.int .i64 (dcd X 1)) := fun z h => (h.cell (p := ⟨g, _, none⟩) hgr).trans x2
      have r3 : ∀ z, Below wr.heap.size wr z → z.cell? ⟨g, k * 6 + 3, none⟩ = some (.int .i64 (dcd X 2)) := fun z h => (h.cell (p := ⟨g, _, none⟩) hgr).trans x3
      have r4 : ∀ z, Below wr.heap.size wr z → z.cell? ⟨g, k * 6 + 4, none⟩ = some (.int .i64 (dcd X 3)) := fun z h => (h.cell (p := ⟨g, _, none⟩) hgr).trans x4
      have r5 : ∀ z, Below wr.heap.size wr z → z.cell? ⟨g, k * 6 + 5, none⟩ = some (.int .i64 (dcd X 4)) := fun z h => (h.cell (p := ⟨g, _, none⟩) hgr).trans x5
      have s0 : ∀ z, Below wr.heap.size wr z → z.cell? ⟨w.heap.size + 1, 0, none⟩ = some (.int .i64 p) := fun z h => (h.cell (p := ⟨w.heap.size + 1, _, none⟩) hml).trans z0
      have s1 : ∀ z, Below wr.heap.size wr z → z.cell? ⟨w.heap.size + 1, 1, none⟩ = some (.int .i64 (dcd M 0)) := fun z h => (h.cell (p := ⟨w.heap.size + 1, _, none⟩) hml).trans z1
      have s2 : ∀ z, Below wr.heap.size wr z → z.cell? ⟨w.heap.size + 1, 2, none⟩ = some (.int .i64 (dcd M 1)) := fun z h => (h.cell (p := ⟨w.heap.size + 1, _, none⟩) hml).trans z2
      have s3 : ∀ z, Below wr.heap.size wr z → z.cell? ⟨w.heap.size + 1, 3, none⟩ = some (.int .i64 (dcd M 2)) := fun z h => (h.cell (p := ⟨w.heap.size + 1, _, none⟩) hml).trans z3
      have s4 : ∀ z, Below wr.heap.size wr z → z.cell? ⟨w.heap.size + 1, 4, none⟩ = some (.int .i64 (dcd M 3)) := fun z h => (h.cell (p := ⟨w.heap.size + 1, _, none⟩) hml).trans z4
      have s5 : ∀ z, Below wr.heap.size wr z → z.cell? ⟨w.heap.size + 1, 5, none⟩ = some (.int .i64 (dcd M 4)) := fun z h => (h.cell (p := ⟨w.heap.size + 1, _, none⟩) hml).trans z5
      clear x0 x1 x2 x3 x4 x5 z0 z1 z2 z3 z4 z5
      go_upto_region 7 with fail
      go_cut [27] from 20 to 27 (fun s27 wx => s27 = .bool (decide (S < 0)) ∧ Below wr.heap.size wr wx)
      case first =>
        go_region_held3 (fun w' => Below wr.heap.size wr w') (first | (with_reducible assumption) | ((repeat' (first | (with_reducible exact Below.refl _ _) | (with_reducible refine Below.alloc ?_ ?_ _) | (with_reducible refine Below.setCell ?_ ?_ _) | (with_reducible refine Below.drew ?_) | (with_reducible refine below_drewN ?_ _) | (with_reducible refine Below.trans ?_ (Below.mono (Hid.out (by assumption)) ?_)) | omega | (simp; done) | (simp; omega))); done)) (first | (go_at_call 76; (with_reducible refine (HC.out _).mono ?_); rintro e w1 ⟨rfl, hb⟩; skip; obtain ⟨hc, hf⟩ := bcell hb; have hz := hb.size; have Hb := Lib.hid hb; (try simp at hz hc hf); (try (have hy := Nat.lt_of_succ_le hz)); have hz0 : wr.heap.size ≤ w1.heap.size := (by omega); (try (have hz1 : wr.heap.size < w1.heap.size := (by omega))); clear hb))
        all_goals (go_wp2_with fail)
        all_goals (go_meet)
        all_goals
          refine ⟨rfl, ?_⟩
          (repeat' (first | (with_reducible exact Below.refl _ _) | (with_reducible refine Below.alloc ?_ ?_ _) | (with_reducible refine Below.setCell ?_ ?_ _) | (with_reducible refine Below.drew ?_) | (with_reducible refine below_drewN ?_ _) | (with_reducible refine Below.trans ?_ (Below.mono (Hid.out (by assumption)) ?_)) | omega | (simp; done) | (simp; omega)))
      case rest =>
        obtain ⟨rfl, hbc⟩ := hcut
        have HBC := Lib.hid hbc
        have hzc := hbc.size
        have hmy : At5 wc (w.heap.size + 1) p M := (hbc.block _ hml).trans HMR.out
        have hry := (hbc.block w.heap.size (by omega)).trans HRR.out
        by_cases hlt : S < 0
        · have y0 := r0 _ hbc
          have y1 := r1 _ hbc
          have y2 := r2 _ hbc
          have y3 := r3 _ hbc
          have y4 := r4 _ hbc
          have y5 := r5 _ hbc
          have hE2 : Hid (M1 = X) := Lib.hid (by rw [HST.out, if_pos (HLT.out.2 hlt)])
          have hfz := blk_free hmy
          obtain ⟨q0, q1, q2, q3, q4, q5⟩ := blk6 hmy
          have hcl : w.heap.size + 1 < wc.heap.size := (Array.getElem?_eq_some_iff.1 hmy).1
          have HMY := Lib.hid hmy
          have HRY := Lib.hid hry
          clear r0 r1 r2 r3 r4 r5 s0 s1 s2 s3 s4 s5 hbc hmy hry
          go_wp2_with fail
          refine ⟨⟨k + 1, by omega, by omega, by go_num, by rw [HG.out, ← HM1.out, hE2.out]; exact set6_at5 (t := dcd X) HMY.out, ?_, below_set6 (HBR.out.trans (HBC.out.mono HBR.out.size)) (by simp)⟩, by simp [intOf]; omega⟩
          rw [hset_ne _ _ _ _ (by simp), hset_ne _ _ _ _ (by simp), hset_ne _ _ _ _ (by simp), hset_ne _ _ _ _ (by simp), hset_ne _ _ _ _ (by simp), hset_ne _ _ _ _ (by simp)]
          exact HRY.out
        · have hE2 : Hid (M1 = M) := Lib.hid (by rw [HST.out, if_neg (fun h => hlt (HLT.out.1 h))])
          have HMY := Lib.hid hmy
          have HRY := Lib.hid hry
          clear r0 r1 r2 r3 r4 r5 s0 s1 s2 s3 s4 s5 hbc hmy hry
          go_wp2_with fail
          go_roundw
          case rel => exact ⟨k + 1, by omega, by omega, by go_num, by rw [HG.out, ← HM1.out, hE2.out]; exact HMY.out, HRY.out, HBR.out.trans (HBC.out.mono HBR.out.size)⟩
          case measure => simp [intOf]; omega
    · obtain rfl : k = n := by omega
      have hF := Lib.hid (HF.out (k - 1) rfl)
      rw [hF.out] at z1 z2 z3 z4 z5
      have hkn' : ¬ ((k : Int) < (k : Int)) := by omega
      have hrl : w.heap.size < wr.heap.size := by omega
      have hfz := blk_free hrx
      obtain ⟨q0, q1, q2, q3, q4, q5⟩ := blk6 hrx
      clear hmx hrx hb hvm
      go_wp2_with fail
      refine bodyPost_ret (v := mv p (dcd (lsN E))) (by simp [results, Try.results106, go_sem, *]) rfl ⟨rfl, below_set6 HBR.out (by simp)⟩

set_option maxHeartbeats 1000000 in
theorem iolm_any (p : Int) (E : List Nat) (hE : 0 < E.length) (hn : E.length ≤ 3125) (hv : ∀ c, c ∈ E → vld p c) (B : Nat) (a : Option Addr) (cap : Nat) (w : World) (h : RdM w B a (moL p E)) :
    Calls Try.prog 75 #[.agg #[.slice a E.length cap], .func (.func 76) #[] #[]] w fun e w' => e = .returned (mv p (dcd (lsN E))) ∧ Below w.heap.size w w' := by
  have H := Lib.hid fun w h => minm_any p E hE hn hv B a cap w h
  have HI := Lib.hid h
  clear h hE hv
  generalize lsN E = m at *
  generalize E.length = n at *
  simp only [mv, mcells] at *
  go_enter Try.func75, Try.ntmps75
  go_wp2_with fail
  refine (H.out _ (HI.out.below (by (repeat' (first | (with_reducible exact Below.refl _ _) | (with_reducible refine Below.alloc ?_ ?_ _) | (with_reducible refine Below.setCell ?_ ?_ _) | (with_reducible refine Below.drew ?_) | (with_reducible refine below_drewN ?_ _) | (with_reducible refine Below.trans ?_ (Below.mono (Hid.out (by assumption)) ?_)) | omega | (simp; done) | (simp; omega)))))).mono ?_
  rintro e w2 ⟨rfl, hb⟩
  have hs2 := hb.size
  have hb2 := hb
  simp only [World.size_alloc] at hs2
  have hr := (hb.block (w.heap.size + 1) (by simp)).trans (halloc_at _ _ _ (by simp))
  have hfz := blk_free hr
  obtain ⟨q0, q1, q2, q3, q4, q5⟩ := blk6 (t := fun _ => 0) hr
  have HB2 : Hid (Below w.heap.size w w2) := Lib.hid ((((Below.refl w.heap.size w).alloc (Nat.le_refl _) _).alloc (by simp) _).trans (hb.mono (by simp; omega)))
  clear hb hb2 hr
  go_wp2_with fail
  refine bodyPost_ret (v := mv p (dcd m)) (by simp [results, Try.results75, go_sem, *]) rfl ⟨rfl, below_set6 HB2.out (by simp)⟩

end Go.Proofs.Ytfghegjlilcafaa
