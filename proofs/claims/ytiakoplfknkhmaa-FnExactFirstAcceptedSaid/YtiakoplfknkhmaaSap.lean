/- The contract of spec.l07Apart: the first word that tells a point of one acceptor from a point of another one. -/
import Derived.Test.YtiakoplfknkhmaaSaq
import Derived.Test.YtiakoplfknkhmaaOwz
import Derived.Test.YtiakoplfknkhmaaOwn
import Derived.Deep.DeepCutAuto
namespace Go.Proofs.Ytiakoplfknkhmaa
open Go Go.RowKit Go.Maps

set_option maxRecDepth 100000 in
set_option maxHeartbeats 8000000 in
theorem sap_any {L M : List MapN} {p m : Nat} (hL : Lok L p) (hM : Lok M m) (hk : M.length = L.length) (S T : List Int) (hS : ptsB (p : Int) S = true) (hT : ptsB (m : Int) T = true) (hs : S.length ≤ 1048576) (ht : T.length ≤ 1048576) (x y : Nat) (hx : x < p) (hy : y < m) (F G : Int)
    (a b : Option Addr) (c d : Nat) (a' b' : Option Addr) (c' d' : Nat) (w : World) (h1 : InRowM w a L) (h2 : InRow w b S) (h1' : InRowM w a' M) (h2' : InRow w b' T) :
    Calls Try.prog 49 #[.agg #[.slice a L.length c, .int .i64 F, .slice b S.length d], .agg #[.slice a' M.length c', .int .i64 G, .slice b' T.length d'], .int .i64 (x : Int), .int .i64 (y : Int)] w (RetAp (aprt L S M T x y) w) := by
  have hp1 := hL.p1
  have hp5 := hL.p5
  have hm1 := hM.p1
  have hm5 := hM.p5
  have hl1 := hL.l1
  have hl6 := hL.l6
  have HOK := Lib.hid fun j => rchQ_ok hL hM hk hx hy j
  have HLE := Lib.hid fun j => rchQ_len hL hM hk hx hy j
  have HNL := Lib.hid fun x i (hx : x < p) (hi : i < L.length) => hL.nx hx hi
  have HNM := Lib.hid fun x i (hx : x < m) (hi : i < L.length) => hM.nx (i := i) hx (by omega)
  have HCL := Lib.hid fun z i hi hz => nxQ_in hL hM hk z i hi hz
  have HR1 := Lib.hid h1
  have HR2 := Lib.hid h2
  have HR1' := Lib.hid h1'
  have HR2' := Lib.hid h2'
  have HS := Lib.hid hS
  have HT := Lib.hid hT
  have HKK := Lib.hid hk
  obtain ⟨n, hn⟩ : ∃ n, n = p * m := ⟨_, rfl⟩
  have hn25 : n ≤ 25 := by have := Nat.mul_le_mul hp5 hm5; omega
  have HN := Lib.hid hn
  have hmk := make_bools n (by omega)
  have hposL : 0 < L.length := by omega
  have hposM : 0 < M.length := by omega
  obtain ⟨gl, ol, rfl, hgl, hatl⟩ := h1.at0 hposL
  obtain ⟨gq, oq, rfl, hgq, hatq⟩ := h1'.at0 hposM
  have hpl : w.cell? ⟨gl, ol, none⟩ = some (.int .i64 (p : Int)) := by rw [← hL.pts 0 hposL]; exact hatl.1
  have hpq : w.cell? ⟨gq, oq, none⟩ = some (.int .i64 (m : Int)) := by rw [← hM.pts 0 hposM]; exact hatq.1
  obtain ⟨wb, hwb⟩ : ∃ wb, wb = (w.alloc (.cells #[.slice (some ⟨gl, ol, none⟩) L.length c, .int .i64 F, .slice b S.length d] 30)).alloc (.cells #[.slice (some ⟨gq, oq, none⟩) M.length c', .int .i64 G, .slice b' T.length d'] 30) := ⟨_, rfl⟩
  have HWB : Hid (Below w.heap.size w wb) := Lib.hid (by rw [hwb]; exact ((Below.refl _ _).alloc (Nat.le_refl _) _).alloc (by simp) _)
  have hbx : wb.heap[w.heap.size]? = some (.cells #[.slice (some ⟨gl, ol, none⟩) L.length c, .int .i64 F, .slice b S.length d] 30 (0, 0)) := by rw [hwb]; exact (halloc_lt _ _ _ (by simp)).trans (halloc_at _ _ _ rfl)
  have hby : wb.heap[w.heap.size + 1]? = some (.cells #[.slice (some ⟨gq, oq, none⟩) M.length c', .int .i64 G, .slice b' T.length d'] 30 (0, 0)) := by rw [hwb]; exact halloc_at _ _ _ (by simp)
  have hwz : w.heap.size + 1 < wb.heap.size := (Array.getElem?_eq_some_iff.1 hby).1
  have HBX := Lib.hid hbx
  have HBY := Lib.hid hby
  have HPL := Lib.hid hpl
  have HPQ := Lib.hid hpq
  have hwl : w.heap.size ≤ wb.heap.size := by omega
  have r0 : ∀ z, Below wb.heap.size wb z → z.cell? ⟨w.heap.size, 0, none⟩ = some (.slice (some ⟨gl, ol, none⟩) L.length c) := fun z h => Joins.cell_of_block ((h.block _ (by omega)).trans hbx) 0
  have s0 : ∀ z, Below wb.heap.size wb z → z.cell? ⟨w.heap.size + 1, 0, none⟩ = some (.slice (some ⟨gq, oq, none⟩) M.length c') := fun z h => Joins.cell_of_block ((h.block _ (by omega)).trans hby) 0
  have rp : ∀ z, Below wb.heap.size wb z → z.cell? ⟨gl, ol, none⟩ = some (.int .i64 (p : Int)) := fun z h => ((HWB.out.trans (h.mono hwl)).cell (p := ⟨gl, ol, none⟩) hgl).trans HPL.out
  have sp : ∀ z, Below wb.heap.size wb z → z.cell? ⟨gq, oq, none⟩ = some (.int .i64 (m : Int)) := fun z h => ((HWB.out.trans (h.mono hwl)).cell (p := ⟨gq, oq, none⟩) hgq).trans HPQ.out
  have y0 := s0 _ (Below.refl _ _)
  have yp := sp _ (Below.refl _ _)
  have hmul : IntKind.i64.wrap ((p : Int) * (m : Int)) = (n : Int) := by
    rw [hn]
    have e : ((p * m : Nat) : Int) = (p : Int) * (m : Int) := by simp
    rw [← e]
    exact IntWalk.i64_in _ (by omega)
  clear h1 h2 h1' h2' hatl hatq hpl hbx hby hS hT hn hk
  go_enter Try.func49, Try.ntmps49
  go_wp2_with fail
  rw [← hwb]
  clear hwb y0 yp hpq
  go_cut [11, 12, 13] from 25 to 38 (fun s11 s12 s13 wx => ∃ gp ge gw gv gm : Nat, s11 = .slice (some ⟨gp, 0, none⟩) 1 1 ∧ s12 = .slice (some ⟨gw, 0, none⟩) 1 1 ∧ s13 = .slice (some ⟨gm, 0, none⟩) n n ∧
    wx.heap[gp]? = some (.cells #[.slice (some ⟨ge, 0, none⟩) 2 2] 23 (0, 0)) ∧ wx.heap[ge]? = some (.cells #[.int .i64 (x : Int), .int .i64 (y : Int)] 2 (0, 0)) ∧
    wx.heap[gw]? = some (.cells #[.slice (some ⟨gv, 0, none⟩) 0 0] 23 (0, 0)) ∧ wx.heap[gv]? = some (.cells #[] 2 (0, 0)) ∧ wx.heap[gm]? = some (.cells (Array.replicate n (.bool false)) 4 (0, 0)) ∧
    wb.heap.size ≤ gp ∧ wb.heap.size ≤ ge ∧ wb.heap.size ≤ gw ∧ wb.heap.size ≤ gv ∧ wb.heap.size ≤ gm ∧ gp ≠ gw ∧ Below wb.heap.size wb wx)
  case first =>
    go_region_held3 (fun w' => Below wb.heap.size wb w') (first | (with_reducible assumption) | ((repeat' (first | (with_reducible exact Below.refl _ _) | (with_reducible refine Below.alloc ?_ ?_ _) | (with_reducible refine Below.setCell ?_ ?_ _) | (with_reducible refine Below.drew ?_) | (with_reducible refine below_drewN ?_ _) | (with_reducible refine Below.trans ?_ (Below.mono (Hid.out (by assumption)) ?_)) | omega | (simp; done) | (simp; omega))); done)) (fail)
    all_goals (go_wp2_with fail)
    all_goals go_meet
    all_goals (
      (iterate 5 apply Exists.intro)
      refine And.intro rfl (And.intro rfl (And.intro rfl ?_))
      refine And.intro (by ((first | rw [hdrew] | skip); repeat (first | (exact halloc_at _ _ _ (by first | rfl | (simp; done))) | (refine (halloc_lt _ _ _ (by first | omega | (simp; done) | (simp; omega))).trans ?_)))) ?_
      refine And.intro (by ((first | rw [hdrew] | skip); repeat (first | (exact halloc_at _ _ _ (by first | rfl | (simp; done))) | (refine (halloc_lt _ _ _ (by first | omega | (simp; done) | (simp; omega))).trans ?_)))) ?_
      refine And.intro (by ((first | rw [hdrew] | skip); repeat (first | (exact halloc_at _ _ _ (by first | rfl | (simp; done))) | (refine (halloc_lt _ _ _ (by first | omega | (simp; done) | (simp; omega))).trans ?_)))) ?_
      refine And.intro (by ((first | rw [hdrew] | skip); repeat (first | (exact halloc_at _ _ _ (by first | rfl | (simp; done))) | (refine (halloc_lt _ _ _ (by first | omega | (simp; done) | (simp; omega))).trans ?_)))) ?_
      refine And.intro (by ((first | rw [hdrew] | skip); repeat (first | (exact halloc_at _ _ _ (by first | rfl | (simp; done))) | (refine (halloc_lt _ _ _ (by first | omega | (simp; done) | (simp; omega))).trans ?_)))) ?_
      refine ⟨by omega, by omega, by omega, by omega, by omega, by omega, ?_⟩
      (repeat' (first | (with_reducible exact Below.refl _ _) | (with_reducible refine Below.alloc ?_ ?_ _) | (with_reducible refine Below.setCell ?_ ?_ _) | (with_reducible refine Below.drew ?_) | (with_reducible refine below_drewN ?_ _) | (with_reducible refine Below.trans ?_ (Below.mono (Hid.out (by assumption)) ?_)) | omega | (simp; done) | (simp; omega))))
  case rest =>
    obtain ⟨gp, ge, gw, gv, gm, rfl, rfl, rfl, e1, e2, e3, e4, e5, l1, l2, l3, l4, l5, hne, hb⟩ := hcut
    have hmn : x * m + y < n := by
      rw [HN.out]
      have := Nat.mul_le_mul_right m (show x + 1 ≤ p by omega)
      rw [Nat.succ_mul] at this
      omega
    have hxb : 0 ≤ (x : Int) * (m : Int) ∧ (x : Int) * (m : Int) + (y : Int) < (n : Int) := by
      have e : (x : Int) * (m : Int) = ((x * m : Nat) : Int) := by simp
      rw [e]
      omega
    obtain ⟨hxy0, hxyn⟩ := hxb
    have f5 := Joins.cell_of_block e5 (x * m + y)
    have u5 := Joins.unfrozen_of_block e5 (x * m + y)
    have hmet0 : MetR wc gm m n [] := ⟨_, e5, fun c hc => by
      rw [Array.getElem?_replicate, if_pos hc]; rfl⟩
    have f5' : wc.cell? ⟨gm, x * m + y, none⟩ = some (.bool false) := by rw [f5, Array.getElem?_replicate, if_pos hmn]
    have hx5 : x < 5 := by omega
    have HM0 := Lib.hid hmet0
    have HHB := Lib.hid hb
    clear f5 hmet0 hb
    clear hmul hmk r0 s0 rp sp
    have n1 : gp ≠ gm := by
      intro e
      subst e
      rw [e1] at e5
      injection e5 with h
      injection h with _ h
      exact absurd h (by decide)
    have n2 : ge ≠ gm := by
      intro e
      subst e
      rw [e2] at e5
      injection e5 with h
      injection h with _ h
      exact absurd h (by decide)
    have n3 : gw ≠ gm := by
      intro e
      subst e
      rw [e3] at e5
      injection e5 with h
      injection h with _ h
      exact absurd h (by decide)
    have n4 : gv ≠ gm := by
      intro e
      subst e
      rw [e4] at e5
      injection e5 with h
      injection h with _ h
      exact absurd h (by decide)
    have hst : ApS wb (wc.setCell ⟨gm, x * m + y, none⟩ (.bool true)) (.slice (some ⟨gp, 0, none⟩) 1 1) [.slice (some ⟨ge, 0, none⟩) 2 2] (.slice (some ⟨gw, 0, none⟩) 1 1) [.slice (some ⟨gv, 0, none⟩) 0 0] gm m n [((x, y), [])] := by
      refine ⟨⟨⟨rfl, Or.inr ⟨gp, 1, _, rfl, l1, (hset_ne _ _ _ _ n1).trans e1, Nat.le_refl _, by unfold maxLen; omega, rfl, rfl⟩⟩, fun j hj => ?_⟩, ⟨⟨rfl, Or.inr ⟨gw, 1, _, rfl, l3, (hset_ne _ _ _ _ n3).trans e3, Nat.le_refl _, by unfold maxLen; omega, rfl, rfl⟩⟩, fun j hj => ?_⟩, by simpa [Value.ownBlock] using hne, HM0.out.set (by omega) hy hmn [], HHB.out.setCell l5 _, l5⟩
      · obtain rfl : j = 0 := by simpa [prZ] using hj
        exact ⟨rfl, Or.inr ⟨ge, 2, _, rfl, l2, (hset_ne _ _ _ _ n2).trans e2, Nat.le_refl _, by unfold maxLen; omega, rfl, rfl⟩⟩
      · obtain rfl : j = 0 := by simpa using hj
        exact ⟨rfl, Or.inr ⟨gv, 0, #[], rfl, l4, (hset_ne _ _ _ _ n4).trans e4, Nat.le_refl _, Nat.zero_le _, rfl, rfl⟩⟩
    have HST := Lib.hid hst
    clear hst n1 n2 n3 n4 e1 e2 e3 e4 e5 hne
    go_wp2_with fail
    go_loopw [11, 12, 14, 15, 16, 17, 18, 19] (fun P W z _ _ _ _ _ wr => ∃ (j : Nat) (us vs : List Value), j ≤ (brun (nxQ L M) L.length (x, y) j).length ∧ j ≤ 25 ∧ z = .int .i64 j ∧ ApS wb wr P us W vs gm m n (brun (nxQ L M) L.length (x, y) j) ∧ ∀ i zz, i < j → (brun (nxQ L M) L.length (x, y) j)[i]? = some zz → accQ S T zz.1 = false) (fun _ _ z _ _ _ _ _ _ => 25 - (intOf z).toNat)
    case atStart => exact ⟨0, _, _, by omega, by omega, rfl, HST.out, fun i zz hi => by omega⟩
    case round =>
      obtain ⟨j, us, vs, hj1, hj25, rfl, hap, hno⟩ := hrel
      have hle := HLE.out j
      have hpl : (prZ (brun (nxQ L M) L.length (x, y) j)).length = (brun (nxQ L M) L.length (x, y) j).length := by unfold prZ; simp
      have hwl2 : ((brun (nxQ L M) L.length (x, y) j).map Prod.snd).length = (brun (nxQ L M) L.length (x, y) j).length := by simp
      have HAP := Lib.hid hap
      have HNO := Lib.hid hno
      have hsz := hap.bel.size
      by_cases hjl : j < (brun (nxQ L M) L.length (x, y) j).length
      · have hgj := List.getElem?_eq_getElem hjl
        have hmem := List.getElem_mem hjl
        have hbk := HOK.out j
        have HSTEP := Lib.hid ((brun_succ (nxQ L M) L.length (x, y) j).trans (bstep_some hgj))
        obtain ⟨g1, cp1, hP, hg1, f1⟩ := hap.prs.at_ (show j < _ by omega)
        obtain ⟨g3, cp3, hW, hg3, f3⟩ := hap.wds.at_ (show j < _ by omega)
        rw [hpl] at hP
        rw [hwl2] at hW
        subst hP hW
        have hr1 := hap.prs.row j (show j < _ by omega)
        have hr3 := hap.wds.row j (show j < _ by omega)
        have hPc := hbk.all _ hmem
        have hWl := hbk.wl _ hmem
        have HBK : Hid (Bok (inP p m) (j + 1) (brun (nxQ L M) L.length (x, y) j)) := Lib.hid ⟨hbk.all, fun y hy => Nat.le_succ_of_le (hbk.wl y hy), hbk.nd⟩
        have HFY : Hid (accQ S T (brun (nxQ L M) L.length (x, y) j)[j].1 = true → aprt L S M T x y = some (brun (nxQ L M) L.length (x, y) j)[j].2) := Lib.hid fun h => apart_at hj25 hgj HNO.out h
        have HFN : Hid (accQ S T (brun (nxQ L M) L.length (x, y) j)[j].1 = false → ∀ i zz, i < j + 1 → (brun (nxQ L M) L.length (x, y) (j + 1))[i]? = some zz → accQ S T zz.1 = false) := Lib.hid fun h => apart_no hgj HNO.out h
        have e1 : (prZ (brun (nxQ L M) L.length (x, y) j)).getD j [] = [((brun (nxQ L M) L.length (x, y) j)[j].1.1 : Int), ((brun (nxQ L M) L.length (x, y) j)[j].1.2 : Int)] := by
          unfold prZ
          rw [List.getD_eq_getElem?_getD, List.getElem?_map, hgj]; rfl
        have e3 : ((brun (nxQ L M) L.length (x, y) j).map Prod.snd).getD j [] = (brun (nxQ L M) L.length (x, y) j)[j].2 := by
          rw [List.getD_eq_getElem?_getD, List.getElem?_map, hgj]; rfl
        rw [e1] at hr1
        rw [e3] at hr3
        obtain ⟨u, hu⟩ : ∃ u, u = (brun (nxQ L M) L.length (x, y) j)[j].1.1 := ⟨_, rfl⟩
        obtain ⟨v, hv⟩ : ∃ v, v = (brun (nxQ L M) L.length (x, y) j)[j].1.2 := ⟨_, rfl⟩
        obtain ⟨wd, hwd⟩ : ∃ wd, wd = (brun (nxQ L M) L.length (x, y) j)[j].2 := ⟨_, rfl⟩
        have huv : (brun (nxQ L M) L.length (x, y) j)[j].1 = (u, v) := by rw [hu, hv]
        rw [← hu, ← hv] at hr1
        rw [← hwd] at hr3 hWl HSTEP HFY
        rw [huv] at hPc HSTEP HFY HFN
        have HNX : Hid (brun (nxQ L M) L.length (x, y) (j + 1) = bpart (nxQ L M) (u, v) wd (brun (nxQ L M) L.length (x, y) j) L.length) := HSTEP
        have HQJ : Hid ((brun (nxQ L M) L.length (x, y) j)[j]? = some ((u, v), wd)) := Lib.hid (by rw [hgj, hwd, ← huv])
        have hu5 : u < p := hPc.1
        have hv5 : v < m := hPc.2
        obtain ⟨g2, c2, hU2, _, hg2, k0⟩ := own_at7 hr1 (by simp) (show 0 < _ by simp)
        obtain ⟨g2', c2', hU2', _, _, k1⟩ := own_at7 hr1 (by simp) (show 1 < _ by simp)
        rw [hU2] at hU2' f1
        injection hU2' with q1 _ _
        injection q1 with q1
        injection q1 with q1
        subst q1
        simp only [List.length_cons, List.length_nil, Nat.zero_add, Nat.reduceAdd] at f1
        have hk0 : wr.cell? ⟨g2, 0, none⟩ = some (.int .i64 (u : Int)) := k0
        have hk1 : wr.cell? ⟨g2, 1, none⟩ = some (.int .i64 (v : Int)) := k1
        obtain ⟨va, vn, vc, hvs⟩ := own_slice hr3
        rw [hvs] at f3 hr3
        have HR3 := Lib.hid hr3
        have HVS := Lib.hid hvs
        have hQl := hjl
        have hjl' : (j : Int) < ((brun (nxQ L M) L.length (x, y) j).length : Int) := by omega
        have HU2 := Lib.hid hU2
        clear hap hno hgj hmem hbk hr1 hr3 e1 e3 hu hv hwd huv HSTEP k0 k1 hvs hU2 hpl hwl2
        obtain ⟨Q, hQ⟩ : ∃ Q, Q = brun (nxQ L M) L.length (x, y) j := ⟨_, rfl⟩
        rw [← hQ] at HAP HBK HNX HQJ hjl hjl' hle hQl ⊢
        clear hQ hj1
        have hbb := HAP.out.bel
        have hz0 : w.heap.size < wr.heap.size := by omega
        have hz0' : w.heap.size + 1 < wr.heap.size := by omega
        have hbl := (hbb.block _ (show w.heap.size < wb.heap.size by omega)).trans HBX.out
        have hbq := (hbb.block _ hwz).trans HBY.out
        have t0 : ∀ z, Below wr.heap.size wr z → z.cell? ⟨w.heap.size, 0, none⟩ = some (.slice (some ⟨gl, ol, none⟩) L.length c) := fun z h => Joins.cell_of_block ((h.block _ hz0).trans hbl) 0
        have t1 : ∀ z, Below wr.heap.size wr z → z.cell? ⟨w.heap.size, 1, none⟩ = some (.int .i64 F) := fun z h => Joins.cell_of_block ((h.block _ hz0).trans hbl) 1
        have t2 : ∀ z, Below wr.heap.size wr z → z.cell? ⟨w.heap.size, 2, none⟩ = some (.slice b S.length d) := fun z h => Joins.cell_of_block ((h.block _ hz0).trans hbl) 2
        have q0 : ∀ z, Below wr.heap.size wr z → z.cell? ⟨w.heap.size + 1, 0, none⟩ = some (.slice (some ⟨gq, oq, none⟩) M.length c') := fun z h => Joins.cell_of_block ((h.block _ hz0').trans hbq) 0
        have q1 : ∀ z, Below wr.heap.size wr z → z.cell? ⟨w.heap.size + 1, 1, none⟩ = some (.int .i64 G) := fun z h => Joins.cell_of_block ((h.block _ hz0').trans hbq) 1
        have q2 : ∀ z, Below wr.heap.size wr z → z.cell? ⟨w.heap.size + 1, 2, none⟩ = some (.slice b' T.length d') := fun z h => Joins.cell_of_block ((h.block _ hz0').trans hbq) 2
        have HSL := Lib.hid fun z (h : Below wr.heap.size wr z) => sla_any L.length c F S hs (p : Int) (by omega) HS.out (some ⟨gl, ol, none⟩) b d u (by omega) z (HR2.out.below (HWB.out.trans ((hbb.trans (h.mono hsz)).mono hwl)))
        have HSM := Lib.hid fun z (h : Below wr.heap.size wr z) => sla_any M.length c' G T ht (m : Int) (by omega) HT.out (some ⟨gq, oq, none⟩) b' d' v (by omega) z (HR2'.out.below (HWB.out.trans ((hbb.trans (h.mono hsz)).mono hwl)))
        have HBB := Lib.hid hbb
        have hacc : accQ S T (u, v) = (!(lastB S u == lastB T v)) := rfl
        rw [hacc] at HFY HFN
        clear hbl hbq hacc
        obtain ⟨wo, hwo⟩ : ∃ wo, wo = wr := ⟨_, rfl⟩
        subst hwo
        go_wp2_with fail
        go_quiet (fail)
        go_wp2_with fail
        go_region_held3 (fun w' => Below wo.heap.size wo w') (first | (with_reducible assumption) | ((repeat' (first | (with_reducible exact Below.refl _ _) | (with_reducible refine Below.alloc ?_ ?_ _) | (with_reducible refine Below.setCell ?_ ?_ _) | (with_reducible refine Below.drew ?_) | (with_reducible refine below_drewN ?_ _) | (with_reducible refine Below.trans ?_ (Below.mono (Hid.out (by assumption)) ?_)) | omega | (simp; done) | (simp; omega))); done)) (first | (go_at_call 70; (with_reducible refine (HSL.out _ (by (repeat' (first | (with_reducible exact Below.refl _ _) | (with_reducible refine Below.alloc ?_ ?_ _) | (with_reducible refine Below.setCell ?_ ?_ _) | (with_reducible refine Below.drew ?_) | (with_reducible refine below_drewN ?_ _) | (with_reducible refine Below.trans ?_ (Below.mono (Hid.out (by assumption)) ?_)) | omega | (simp; done) | (simp; omega))))).mono ?_); rintro e w2 ⟨rfl, hb⟩; have Hb := Lib.hid hb; have hz := hb.size; (try simp at hz); clear hb) | (go_at_call 70; (with_reducible refine (HSM.out _ (by (repeat' (first | (with_reducible exact Below.refl _ _) | (with_reducible refine Below.alloc ?_ ?_ _) | (with_reducible refine Below.setCell ?_ ?_ _) | (with_reducible refine Below.drew ?_) | (with_reducible refine below_drewN ?_ _) | (with_reducible refine Below.trans ?_ (Below.mono (Hid.out (by assumption)) ?_)) | omega | (simp; done) | (simp; omega))))).mono ?_); rintro e w2 ⟨rfl, hb⟩; have Hb := Lib.hid hb; have hz := hb.size; (try simp at hz); clear hb))
        have hHL : Below wo.heap.size wo w2 := by assumption
        have HAP2 := Lib.hid (HAP.out.below hHL)
        have f3' := (hHL.cell (p := ⟨g3, j, none⟩) hg3).trans f3
        have HR3' := Lib.hid (own_bel7 HR3.out hHL)
        have hg3' : g3 < w2.heap.size := Nat.lt_of_lt_of_le hg3 hHL.size
        have hz2 : wb.heap.size ≤ w2.heap.size := Nat.le_trans hsz hHL.size
        clear f1 hk0 hk1 f3 t0 t1 t2 q0 q1 q2 HSL HSM HAP HR3 hbb HBB hg1 hg3 hg2 hsz hz0 hz0'
        cases hlv : (!(lastB S u == lastB T v))
        · have HNA := Lib.hid (HFN.out hlv)
          have hQ1 : j + 1 ≤ (brun (nxQ L M) L.length (x, y) (j + 1)).length := by
            rw [HNX.out]
            have := (bpart_goes (nxQ L M) (u, v) wd Q L.length).len
            omega
          have HQ1 := Lib.hid hQ1
          clear hQ1 HFN HFY f3' HR3' hHL hg3'
          go_wp2_with fail
          go_loopw [11, 12, 17, 18, 19] (fun P W z _ _ wr => ∃ (i : Nat) (us' vs' : List Value), i ≤ L.length ∧ z = .int .i64 i ∧ ApS wb wr P us' W vs' gm m n (bpart (nxQ L M) (u, v) wd Q i)) (fun _ _ z _ _ _ => L.length - (intOf z).toNat)
          case atStart => exact ⟨0, us, vs, by omega, rfl, HAP2.out⟩
          case round =>
            obtain ⟨i, us', vs', hik, rfl, hap⟩ := hrel
            have hsr := hap.bel.size
            have f0 := Joins.cell_of_block ((hap.bel.block _ (show w.heap.size < wb.heap.size by omega)).trans HBX.out) 0
            have k0 := Joins.cell_of_block ((hap.bel.block _ hwz).trans HBY.out) 0
            simp only [List.getElem?_toArray, List.getElem?_cons_zero] at f0 k0
            by_cases hlt : i < L.length
            · have hlt' : (i : Int) < (L.length : Int) := by omega
              have hltM : (i : Int) < (M.length : Int) := by rw [HKK.out]; omega
              obtain ⟨hX, hnx⟩ := HNL.out u i hu5 hlt
              obtain ⟨hY, hny⟩ := HNM.out v i hv5 hlt
              have hbki := Bok.part (P := inP p m) (p := (u, v)) (nx := nxQ L M) HBK.out (fun i hi => HCL.out (u, v) i hi hPc) hWl i hik
              have hl25 : (bpart (nxQ L M) (u, v) wd Q i).length ≤ 25 := hbki.len cdQ (fun z hz => by unfold cdQ; have h1 := hz.1; have h2 := hz.2; omega) (cdQ_inj hm5)
              have hgo := bpart_goes (nxQ L M) (u, v) wd Q i
              have hgl2 := hgo.len
              have hjq : j < (bpart (nxQ L M) (u, v) wd Q i).length := by omega
              have hwj : ((bpart (nxQ L M) (u, v) wd Q i).map Prod.snd).getD j [] = wd := by
                rw [List.getD_eq_getElem?_getD, List.getElem?_map, hgo.at HQJ.out]; rfl
              obtain ⟨b2, off2, e, _, hat⟩ := (HR1.out.below (HWB.out.trans (hap.bel.mono hwl))).at6 i hlt
              obtain ⟨b3, off3, e', _, hat'⟩ := (HR1'.out.below (HWB.out.trans (hap.bel.mono hwl))).at6 i (by rw [HKK.out]; exact hlt)
              have hptL := at6_pt hat (show u < 5 by omega)
              have hptM := at6_pt hat' (show v < 5 by omega)
              rw [hnx] at hptL
              rw [hny] at hptM
              injection e with e
              injection e with e1 e2 _
              injection e' with e'
              injection e' with e3 e4 _
              subst e1 e2 e3 e4
              have hXY : nxP L u i * m + nxP M v i < n := by
                rw [HN.out]
                have := Nat.mul_le_mul_right m (show nxP L u i + 1 ≤ p by omega)
                rw [Nat.succ_mul] at this
                omega
              have hxb : 0 ≤ (nxP L u i : Int) * (m : Int) ∧ (nxP L u i : Int) * (m : Int) + (nxP M v i : Int) < (n : Int) := by
                have e : (nxP L u i : Int) * (m : Int) = ((nxP L u i * m : Nat) : Int) := by simp
                rw [e]
                omega
              obtain ⟨hx0', hxn'⟩ := hxb
              have HSN : Hid (bpart (nxQ L M) (u, v) wd Q (i + 1) = if metB (bpart (nxQ L M) (u, v) wd Q i) (nxP L u i, nxP M v i) = true then bpart (nxQ L M) (u, v) wd Q i else bpart (nxQ L M) (u, v) wd Q i ++ [((nxP L u i, nxP M v i), wd ++ [(i : Int)])]) := Lib.hid rfl
              have HAPI := Lib.hid hap
              obtain ⟨hc1, hc2, hc3⟩ := hap.met.cell hm1 hY hXY
              obtain ⟨gw3, cw3, hW3, hgw3, fw3⟩ := hap.wds.at_ (show j < _ by rw [List.length_map]; exact hjq)
              rw [List.length_map] at hW3
              subst hW3
              clear hap hbki hgo hat hat' hnx hny
              generalize bpart (nxQ L M) (u, v) wd Q i = Qi at *
              generalize nxP L u i = X at *
              generalize nxP M v i = Y at *
              have hjq' : (j : Int) < (Qi.length : Int) := by omega
              have hX5 : X < 5 := by omega
              have hY5 : Y < 5 := by omega
              have HWJ := Lib.hid hwj
              clear hwj
              cases hmet : metB Qi (X, Y)
              · rw [hmet] at hc1
                have HBP : Hid (bpart (nxQ L M) (u, v) wd Q (i + 1) = Qi ++ [((X, Y), wd ++ [(i : Int)])]) := Lib.hid (by rw [HSN.out, if_neg (by rw [hmet]; exact Bool.false_ne_true)])
                clear hmet
                clear fw3
                go_wp2_with fail
                go_quiet (fail)
                go_wp2_with (at_builtin; refine wpList_appZ rfl _ _ rfl wb.heap.size _ us' (prZ Qi) rfl ?c1 (wr.heap.size + 1) 1 (.slice (some ⟨wr.heap.size, 0, none⟩) 2 2) [(X : Int), (Y : Int)] ?c2 rfl rfl ?c3 ?c4 ?c5 ?_)
                case c1 => exact ((((HAPI.out.below (below_drewN (Below.refl _ _) nq)).mark hm1 hY hXY (wd ++ [(i : Int)])).below (by (repeat' (first | (with_reducible exact Below.refl _ _) | (with_reducible refine Below.alloc ?_ ?_ _) | (with_reducible refine Below.setCell ?_ ?_ _) | (with_reducible refine Below.drew ?_) | (with_reducible refine below_drewN ?_ _) | (with_reducible refine Below.trans ?_ (Below.mono (Hid.out (by assumption)) ?_)) | omega | (simp; done) | (simp; omega))))).prs)
                case c2 => exact ⟨rfl, Or.inr ⟨wr.heap.size, 2, #[.int .i64 (X : Int), .int .i64 (Y : Int)], rfl, hsr, (halloc_lt _ _ _ (by simp)).trans (halloc_at _ _ _ (by simp)), Nat.le_refl _, by unfold maxLen; omega, rfl, rfl⟩⟩
                case c3 => exact halloc_at _ _ _ (by simp)
                case c4 => rw [show (prZ Qi).length = Qi.length from by unfold prZ; simp]; omega
                case c5 => simp; omega
                intro v3 w3 hw3 hg3 ho3
                have HA3 := Lib.hid ((((HAPI.out.below (below_drewN (Below.refl _ _) nq)).mark hm1 hY hXY (wd ++ [(i : Int)])).below (by (repeat' (first | (with_reducible exact Below.refl _ _) | (with_reducible refine Below.alloc ?_ ?_ _) | (with_reducible refine Below.setCell ?_ ?_ _) | (with_reducible refine Below.drew ?_) | (with_reducible refine below_drewN ?_ _) | (with_reducible refine Below.trans ?_ (Below.mono (Hid.out (by assumption)) ?_)) | omega | (simp; done) | (simp; omega))))).appP hw3 hg3 (by simpa using ho3))
                clear hw3 hg3 ho3 f0 k0 hptL hptM hc1 hc2
                have hfa : w3.cell? ⟨gw3, j, none⟩ = some (vs'.getD j undef) := by
                  obtain ⟨ga, ca, ea, _, fa⟩ := HA3.out.wds.at_ (show j < _ by rw [List.length_map]; exact hjq)
                  injection ea with e _ _
                  injection e with e
                  injection e with e
                  subst e
                  exact fa
                have hrw : Own w3 wb.heap.size (vs'.getD j undef) wd := by
                  have h := HA3.out.wds.row j (show j < _ by rw [List.length_map]; exact hjq)
                  rw [HWJ.out] at h
                  exact h
                have HRW := Lib.hid hrw
                have hs3 := HA3.out.bel.size
                clear hrw
                go_wp2_with fail
                refine (own_own HRW.out (by omega)).mono ?_
                rintro e w4 ⟨v4, rfl, ho4, hb4⟩
                have hs4 := hb4.size
                have HO4 := Lib.hid ho4
                have HB4 := Lib.hid hb4
                clear ho4 hb4
                go_wp2_with (at_builtin; refine wpList_appI7 rfl _ _ rfl w3.heap.size _ wd rfl ?d1 w4.heap.size 1 (i : Int) rfl ?d2 ?d3 ?d4 ?_)
                case d1 => exact own_bel7 HO4.out ((Below.refl _ _).alloc (Nat.le_refl _) _)
                case d2 => exact halloc_at _ _ _ rfl
                case d3 => omega
                case d4 => simp; omega
                intro v5 w5 ho5 hg5 _
                obtain ⟨a5, n5, c5, e5⟩ := own_slice ho5
                subst e5
                have HB5 := Lib.hid ((HB4.out.alloc hs4 _).grown hg5 (by simp; omega) (fun r e => (World.ownsRow.lt HO4.out r e).1))
                have HO5 := Lib.hid ho5
                have hs5 := HB5.out.size
                clear ho5 hg5
                go_wp2_with (at_builtin; refine wpList_appZ rfl _ _ rfl wb.heap.size _ vs' (Qi.map Prod.snd) rfl ?e1 w5.heap.size 1 (.slice a5 n5 c5) (wd ++ [(i : Int)]) ?e2 rfl rfl ?e3 ?e4 ?e5 ?_)
                case e1 => exact (HA3.out.below (HB5.out.alloc hs5 _)).wds
                case e2 => exact own_bel7 (World.ownsRow.mono HO5.out hs3) ((Below.refl _ _).alloc (Nat.le_refl _) _)
                case e3 => exact halloc_at _ _ _ rfl
                case e4 => rw [List.length_map]; omega
                case e5 => simp; omega
                intro v6 w6 hw6 hg6 ho6
                have HA6 := Lib.hid ((HA3.out.below (HB5.out.alloc hs5 _)).appW hw6 hg6 (by simpa using ho6))
                rw [← prZ_snoc Qi X Y (wd ++ [(i : Int)]), ← sndZ_snoc Qi (X, Y) (wd ++ [(i : Int)]), ← HBP.out] at HA6
                clear hw6 hg6 ho6 hfa
                go_wp2_with fail
                go_roundw
                case rel => exact ⟨i + 1, _, _, by omega, by go_num, HA6.out⟩
                case measure => simp [intOf]; omega
              · rw [hmet] at hc1
                have HBP : Hid (bpart (nxQ L M) (u, v) wd Q (i + 1) = Qi) := Lib.hid (by rw [HSN.out, if_pos hmet])
                clear hmet
                go_wp2_with fail
                go_quiet (fail)
                go_wp2_with fail
                go_roundw
                case rel => exact ⟨i + 1, us', vs', by omega, by go_num, by rw [HBP.out]; exact HAPI.out.below (below_drewN (Below.refl _ _) _)⟩
                case measure => simp [intOf]; omega
            · obtain rfl : i = L.length := by omega
              have HAPI := Lib.hid hap
              clear hap
              go_wp2_with fail
              go_roundw
              case rel => exact ⟨j + 1, us', vs', HQ1.out, by omega, by go_num, by rw [HNX.out]; exact HAPI.out, HNA.out⟩
              case measure => simp [intOf]; omega
        · have HA := Lib.hid (HFY.out hlv)
          clear HFN HFY hHL
          obtain ⟨ra, rc, re, rr⟩ := own_rd (World.ownsRow.mono HR3'.out hwl) (by omega)
          injection re with re1 re2 re3
          subst re1 re2 re3
          have HRR := Lib.hid rr
          clear rr
          go_wp2_with fail
          go_ret2
          refine ⟨_, _, by rw [HA.out]; rfl, by rw [HA.out]; exact HRR.out, HWB.out.trans (HAP2.out.bel.mono hwl)⟩
      · have HA := Lib.hid (apart_none hj25 (by omega) HNO.out)
        obtain ⟨g1, cp1, hP, hg1, f1⟩ := hap.prs.at_ (show 0 < _ by have := (brun_le (nxQ L M) L.length (x, y) (Nat.zero_le j)).len; rw [hpl]; simp [brun] at this; omega)
        rw [hpl] at hP
        subst hP
        have hjl' : ¬ ((j : Int) < ((brun (nxQ L M) L.length (x, y) j).length : Int)) := by omega
        clear hap hno f1
        go_wp2_with fail
        go_ret2
        refine ⟨none, 0, by rw [HA.out]; rfl, by rw [HA.out]; exact ⟨by decide, Or.inl rfl⟩, HWB.out.trans (HAP.out.bel.mono hwl)⟩

end Go.Proofs.Ytiakoplfknkhmaa
