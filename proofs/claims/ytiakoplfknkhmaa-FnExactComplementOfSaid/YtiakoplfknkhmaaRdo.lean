/- The contract of impl.readerOf: its rows hold where the maps lead, its closure holds the acceptor. -/
import Derived.Test.YtiakoplfknkhmaaRdr
namespace Go.Proofs.Ytiakoplfknkhmaa
open Go Go.RowKit

/-- A reader of an acceptor's points. -/
def RetRd (L : List MapN) (p : Nat) (F : Int) (S : List Int) (w : World) (e : Ending) (w' : World) : Prop :=
  ∃ gr gt cr bx, e = .returned (rdV gr p cr F bx) ∧ Tbl w' gr gt p L ∧ Hol w' bx L S ∧ Below w.heap.size w w'

set_option maxRecDepth 100000 in
set_option maxHeartbeats 4000000 in
theorem ird_any {L : List MapN} {p : Nat} (hL : Lok L p) (F : Int) (S : List Int) (a b : Option Addr) (c d : Nat) (w : World) (h1 : InRowM w a L) (h2 : InRow w b S) :
    Calls Try.prog 45 #[.agg #[.slice a L.length c, .int .i64 F, .slice b S.length d]] w (RetRd L p F S w) := by
  have hl1 := hL.l1
  have hl6 := hL.l6
  have hp1 := hL.p1
  have hp5 := hL.p5
  have hpos : 0 < L.length := by omega
  obtain ⟨g, off, rfl, hlt, hat⟩ := h1.at0 hpos
  have h0 : w.cell? ⟨g, off, none⟩ = some (.int .i64 (p : Int)) := by rw [← hL.pts 0 hpos]; exact hat.1
  have HR := Lib.hid h1
  have HS := Lib.hid h2
  have HNX := Lib.hid fun x i (hx : x < p) (hi : i < L.length) => (hL.nx hx hi).2
  have HTS := Lib.hid fun x i (hi : i < L.length) => tblL_snoc L (x := x) hi
  clear h1 h2 hat
  obtain ⟨k, hk⟩ : ∃ k, k = L.length := ⟨_, rfl⟩
  have HK := Lib.hid hk
  rw [← hk] at hl1 hl6 hpos HTS ⊢
  clear hk
  obtain ⟨wb, hwb⟩ : ∃ wb, wb = (w.alloc (.cells #[.slice (some ⟨g, off, none⟩) k c, .int .i64 F, .slice b S.length d] 30)).alloc (.cells #[.slice none 0 0, .int .i64 0, .nilFunc] 60) := ⟨_, rfl⟩
  have HWB : Hid (Below w.heap.size w wb) := Lib.hid (by rw [hwb]; exact ((Below.refl _ _).alloc (Nat.le_refl _) _).alloc (by simp) _)
  have HBX : Hid (wb.heap[w.heap.size]? = some (.cells #[.slice (some ⟨g, off, none⟩) k c, .int .i64 F, .slice b S.length d] 30 (0, 0))) := Lib.hid (by rw [hwb]; exact (halloc_lt _ _ _ (by simp)).trans (halloc_at _ _ _ rfl))
  have HBY : Hid (wb.heap[w.heap.size + 1]? = some (.cells #[.slice none 0 0, .int .i64 0, .nilFunc] 60 (0, 0))) := Lib.hid (by rw [hwb]; exact halloc_at _ _ _ (by simp))
  have hwz : w.heap.size + 1 < wb.heap.size := by rw [hwb]; simp
  obtain ⟨i0, hi, hz0, hz1, hz2⟩ := info_parts info_int
  go_enter Try.func45, Try.ntmps45
  go_wp2_with fail
  rw [← hwb]
  clear hwb
  have hpk : (p : Int) * k ≤ 30 := by
    have := Nat.mul_le_mul hp5 hl6
    omega
  go_loopw [3, 4, 6, 17, 23] (fun v _ _ i _ wr => ∃ x : Nat, x ≤ p ∧ i = .int .i64 x ∧ Own wr wb.heap.size v (tblL L k (x * k)) ∧ Below wb.heap.size wb wr) (fun _ _ _ i _ _ => p - (intOf i).toNat)
  case atStart => exact ⟨0, by omega, rfl, by rw [Nat.zero_mul]; exact World.ownsRow_nil _ _ _ _, Below.refl _ _⟩
  case round =>
    obtain ⟨x, hx, rfl, hown, hb⟩ := hrel
    have HO := Lib.hid hown
    have HB := Lib.hid hb
    have hsz := hb.size
    by_cases hxp : x < p
    · have hxp' : (x : Int) < (p : Int) := by omega
      have hbx := (hb.block _ (by omega)).trans HBX.out
      have f0 := Joins.cell_of_block hbx 0
      simp only [List.getElem?_toArray, List.getElem?_cons_zero] at f0
      clear hown hb hbx
      obtain ⟨wo, hwo⟩ : ∃ wo, wo = wr := ⟨_, rfl⟩
      subst hwo
      go_wp2_with fail
      go_loopw [3, 6, 23] (fun v _ z wr => ∃ i : Nat, i ≤ k ∧ z = .int .i64 i ∧ Own wr wb.heap.size v (tblL L k (x * k + i)) ∧ Below wb.heap.size wb wr) (fun _ _ z _ => k - (intOf z).toNat)
      case atStart => exact ⟨0, by omega, rfl, HO.out, HB.out⟩
      case round =>
        obtain ⟨i, hik, rfl, hown, hb⟩ := hrel
        have HO2 := Lib.hid hown
        have HB2 := Lib.hid hb
        have hsz2 := hb.size
        by_cases hilt : i < k
        · have hilt' : (i : Int) < (k : Int) := by omega
          have hiL : i < L.length := by rw [← HK.out]; exact hilt
          have hrow := HR.out.below (HWB.out.trans (hb.mono (by omega)))
          obtain ⟨g', off', e, hgl, hat⟩ := hrow.at6 i hiL
          cases e
          have hnx := HNX.out x i hxp hiL
          have HTSX := Lib.hid (HTS.out x i hilt)
          have HLEN := Lib.hid (tblL_len L k (x * k + i))
          have hbx := halloc_at wr (.cells (mcells (L.getD i z0).1 (L.getD i z0).2) 53) _ rfl
          have hfx := blk_at hbx x (by omega)
          rw [hnx] at hfx
          have HHB := Lib.hid (hown.alloc (.cells (mcells (L.getD i z0).1 (L.getD i z0).2) 53))
          obtain ⟨y0, y1, y2, y3, y4, y5⟩ := hat
          have hx5 : (x : Int) < 5 := by omega
          have hlen30 : x * k + i ≤ 1000000 := by
            have := Nat.mul_le_mul (show x ≤ 5 by omega) hl6
            omega
          clear hown hb hrow hbx hnx f0
          generalize tblL L k (x * k + i) = T0 at *
          generalize nxP L x i = Z at *
          generalize (L.getD i z0).1 = q at *
          generalize (L.getD i z0).2 = t at *
          go_wp2_with (at_builtin; refine wpList_appI7 rfl _ _ rfl wb.heap.size _ T0 rfl (HHB.out.alloc _) (wr.heap.size + 1) 1 Z rfl (halloc_at _ _ _ (by simp)) (by rw [HLEN.out]; omega) (by simp; omega) ?_; intro v' w2 hown' hgrow _)
          have hown2 : Hid (Own w2 wb.heap.size v' (tblL L k (x * k + (i + 1)))) := Lib.hid (by rw [← Nat.add_assoc, HTSX.out]; exact hown')
          have hb2 : Hid (Below wb.heap.size wb w2) := Lib.hid (((HB2.out.alloc hsz2 _).alloc (by rw [World.size_alloc]; omega) _).grown hgrow (by simp; omega) (fun r e => (HO2.out.lt r e).1))
          clear hown' hgrow HHB
          go_wp2_with fail
          go_roundw
          case rel => exact ⟨i + 1, by omega, by go_num, hown2.out, hb2.out⟩
          case measure => simp [intOf]; omega
        · obtain rfl : i = k := by omega
          clear hown hb
          go_wp2_with fail
          go_roundw
          case rel => exact ⟨x + 1, by omega, by go_num, by rw [Nat.succ_mul]; exact HO2.out, HB2.out⟩
          case measure => simp [intOf]; omega
    · obtain rfl : x = p := by omega
      have hbx := (hb.block _ (by omega)).trans HBX.out
      have f0 := Joins.cell_of_block hbx 0
      simp only [List.getElem?_toArray, List.getElem?_cons_zero] at f0
      have hlen := tblL_len L k (x * k)
      have hne : tblL L k (x * k) ≠ [] := fun e => by rw [e] at hlen; have := Nat.mul_pos (show 0 < x by omega) (show 0 < k by omega); simp at hlen; omega
      have hmk : x * k ≤ 30 := by have := Nat.mul_le_mul hp5 hl6; omega
      obtain ⟨gt, ct, rfl, hgt1, hgt2⟩ := (own_shape hown).resolve_left (fun h => hne h.2)
      have hct : x * k ≤ ct := by
        obtain ⟨_, _, _, e, _, _, hcc, _⟩ := hown.2.resolve_left (fun h => by cases h.1)
        injection e with _ _ e3
        rw [hlen] at hcc
        omega
      rw [hlen] at HO ⊢
      obtain ⟨M, hM⟩ : ∃ M, M = x * k := ⟨_, rfl⟩
      have HM := Lib.hid hM
      rw [← hM] at HO hmk hct ⊢
      obtain ⟨wo, hwo⟩ : ∃ wo, wo = wr := ⟨_, rfl⟩
      subst hwo
      clear hown hb hbx hlen hne hM
      go_wp2_with fail
      go_loopw [7, 9, 10] (fun v f _ wr => ∃ r : Nat, r ≤ x ∧ f = .int .i64 ((r * k : Nat) : Int) ∧ wr.ownsRow wo.heap.size 23 1 v r (rowsV gt k r) ∧ Below wo.heap.size wo wr) (fun _ f _ _ => M - (intOf f).toNat)
      case atStart => exact ⟨0, by omega, by rw [Nat.zero_mul]; rfl, World.ownsRow_nil _ _ _ _, Below.refl _ _⟩
      case round =>
        obtain ⟨r, hr, rfl, hown, hb⟩ := hrel
        have HO3 := Lib.hid hown
        have HB3 := Lib.hid hb
        have hsz3 := hb.size
        by_cases hrx : r < x
        · have hmm : r * k + k ≤ M := by
            have := Nat.mul_le_mul_right k (show r + 1 ≤ x by omega)
            rw [Nat.succ_mul] at this
            rw [HM.out]; exact this
          have HSN := Lib.hid (rowsV_snoc gt k r)
          have HSM : Hid ((r + 1) * k = r * k + k) := Lib.hid (Nat.succ_mul r k)
          clear hb hown
          generalize r * k = m at *
          have hmM : (m : Int) < (M : Int) := by omega
          have hsum : (m : Int) + (k : Int) = ((m + k : Nat) : Int) := by omega
          have HSUM := Lib.hid hsum
          clear hsum
          go_wp2_with (at_builtin; refine wpList_appW7 rfl _ _ rfl wo.heap.size _ r (rowsV gt k r) rfl (World.ownsRow.alloc HO3.out _) wr.heap.size 1 (.slice (some ⟨gt, m, none⟩) k k) rfl rfl (halloc_at _ _ _ rfl) (by omega) (by simp; omega) ?_; intro v' w2 hown' hgrow)
          have hown2 : Hid (w2.ownsRow wo.heap.size 23 1 v' (r + 1) (rowsV gt k (r + 1))) := Lib.hid (by rw [HSN.out]; exact hown')
          have hb2 : Hid (Below wo.heap.size wo w2) := Lib.hid ((HB3.out.alloc hsz3 _).grown hgrow (by simp; omega) (fun q e => (World.ownsRow.lt HO3.out q e).1))
          clear hown' hgrow
          go_wp2_with fail
          go_roundw
          case rel => exact ⟨r + 1, by omega, by rw [HSM.out]; go_num, hown2.out, hb2.out⟩
          case measure => simp [intOf]; omega
        · obtain rfl : r = x := by omega
          obtain ⟨gr, cr, cur, rfl, hgr1, hgr2, _, _⟩ := hown.2.resolve_left (fun h => by have := h.2; omega)
          have hgl := (Array.getElem?_eq_some_iff.1 hgr2).1
          have htb : Tbl wr gr gt r L := tbl_mk HK.out (by rw [← HM.out]; omega) hown (by rw [← HM.out]; exact own_bel7 HO.out hb) (by omega) (by omega)
          have HT := Lib.hid htb
          have hmeq : r * k = M := HM.out.symm
          generalize r * k = m at *
          subst hmeq
          have hbx := (HB.out.trans (hb.mono (by omega))).block w.heap.size (by omega)
          have hbx := hbx.trans HBX.out
          have hby := (HB.out.trans (hb.mono (by omega))).block (w.heap.size + 1) (by omega)
          have hby := hby.trans HBY.out
          have f1 := Joins.cell_of_block hbx 1
          have z0' := Joins.cell_of_block hby 0
          have z1' := Joins.cell_of_block hby 1
          have z2' := Joins.cell_of_block hby 2
          have u0 := Joins.unfrozen_of_block hby 0
          have u1 := Joins.unfrozen_of_block hby 1
          have u2 := Joins.unfrozen_of_block hby 2
          simp only [List.getElem?_toArray, List.getElem?_cons_zero, List.getElem?_cons_succ] at f1 z0' z1' z2'
          have HBX2 := Lib.hid hbx
          have hsz3 := hb.size
          have HB3 := Lib.hid hb
          clear hb hown f0 hbx hby htb hgr2
          go_wp2_with fail
          refine bodyPost_ret (v := rdV gr r cr F w.heap.size) (by simp [results, Try.results45, go_sem, z0', z1', z2']) rfl ⟨gr, gt, cr, w.heap.size, rfl, ?_, ?_, ?_⟩
          · refine HT.out.same ?_ ?_ (by simp)
            · rw [hset_ne _ _ _ _ (by simp; omega), hset_ne _ _ _ _ (by simp; omega), hset_ne _ _ _ _ (by simp; omega)]
            · rw [hset_ne _ _ _ _ (by simp; omega), hset_ne _ _ _ _ (by simp; omega), hset_ne _ _ _ _ (by simp; omega)]
          · refine ⟨some ⟨g, off, none⟩, c, F, b, d, ?_, HS.out.below ?_⟩
            · rw [hset_ne _ _ _ _ (by simp), hset_ne _ _ _ _ (by simp), hset_ne _ _ _ _ (by simp), HBX2.out, HK.out]
            · exact (((HWB.out.trans ((HB.out.trans (HB3.out.mono (by omega))).mono (by omega))).setCell (by simp) _).setCell (by simp) _).setCell (by simp) _
          · exact (((HWB.out.trans ((HB.out.trans (HB3.out.mono (by omega))).mono (by omega))).setCell (by simp) _).setCell (by simp) _).setCell (by simp) _

end Go.Proofs.Ytiakoplfknkhmaa
