/- The contracts of (pointReader).countsByLength and impl.CountAccepted. -/
import Derived.Test.YtgiefgbpcjoieaaCtp
import Derived.Test.YtgiefgbpcjoieaaAcm
import Derived.Test.YtgiefgbpcjoieaaRdo
import Derived.Test.YtgiefgbpcjoieaaSrp
import Derived.Test.YtgiefgbpcjoieaaOwn
import Derived.StillTailTactics
namespace Go.Proofs.Ytgiefgbpcjoieaa
open Go Go.RowKit

def ar5 (V : Nat → Int) : Array Value := #[.int .i64 (V 0), .int .i64 (V 1), .int .i64 (V 2), .int .i64 (V 3), .int .i64 (V 4)]
theorem ar5_at (V : Nat → Int) (k : Nat) (hk : k < 5) : (ar5 V)[k]? = some (.int .i64 (V k)) := by
  rcases (by omega : k = 0 ∨ k = 1 ∨ k = 2 ∨ k = 3 ∨ k = 4) with rfl | rfl | rfl | rfl | rfl <;> rfl
theorem ar5_set (V : Nat → Int) (k : Nat) (hk : k < 5) (x : Int) : (ar5 V).setIfInBounds k (.int .i64 x) = ar5 (upd V k x) := by
  rcases (by omega : k = 0 ∨ k = 1 ∨ k = 2 ∨ k = 3 ∨ k = 4) with rfl | rfl | rfl | rfl | rfl <;> rfl
theorem ar5_one (F : Nat) (hF : F < 5) : ([.int .i64 0, .int .i64 0, .int .i64 0, .int .i64 0, .int .i64 0].set F (.int .i64 1)).toArray = ar5 (upd (fun _ => 0) F 1) := by
  rcases (by omega : F = 0 ∨ F = 1 ∨ F = 2 ∨ F = 3 ∨ F = 4) with rfl | rfl | rfl | rfl | rfl <;> rfl
theorem blA5 {w : World} {b T : Nat} {fr : Nat × Nat} {V : Nat → Int} (h : w.heap[b]? = some (.cells (ar5 V) T fr)) :
    w.cell? ⟨b, 0, none⟩ = some (.int .i64 (V 0)) ∧ w.cell? ⟨b, 1, none⟩ = some (.int .i64 (V 1)) ∧ w.cell? ⟨b, 2, none⟩ = some (.int .i64 (V 2)) ∧ w.cell? ⟨b, 3, none⟩ = some (.int .i64 (V 3)) ∧ w.cell? ⟨b, 4, none⟩ = some (.int .i64 (V 4)) :=
  ⟨Joins.cell_of_block h 0, Joins.cell_of_block h 1, Joins.cell_of_block h 2, Joins.cell_of_block h 3, Joins.cell_of_block h 4⟩
theorem blA5_at {w : World} {b T : Nat} {fr : Nat × Nat} {V : Nat → Int} (h : w.heap[b]? = some (.cells (ar5 V) T fr)) (k : Nat) (hk : k < 5) : w.cell? ⟨b, k, none⟩ = some (.int .i64 (V k)) :=
  (Joins.cell_of_block h k).trans (ar5_at V k hk)
theorem blA5_set {w : World} {b T : Nat} {fr : Nat × Nat} {V : Nat → Int} (h : w.heap[b]? = some (.cells (ar5 V) T fr)) (k : Nat) (hk : k < 5) (x : Int) :
    (w.setCell ⟨b, k, none⟩ (.int .i64 x)).heap[b]? = some (.cells (ar5 (upd V k x)) T fr) := by
  rw [Joins.block_setCell h, ar5_set V k hk]

theorem st5 {w : World} {b T : Nat} {V : Nat → Int} (V2 : Nat → Int) (h : w.heap[b]? = some (.cells (ar5 V) T (0, 0))) :
    (((((w.setCell ⟨b, 0, none⟩ (.int .i64 (V2 0))).setCell ⟨b, 1, none⟩ (.int .i64 (V2 1))).setCell ⟨b, 2, none⟩ (.int .i64 (V2 2))).setCell ⟨b, 3, none⟩ (.int .i64 (V2 3))).setCell ⟨b, 4, none⟩ (.int .i64 (V2 4))).heap[b]? = some (.cells (ar5 V2) T (0, 0)) ∧ Turn w (((((w.setCell ⟨b, 0, none⟩ (.int .i64 (V2 0))).setCell ⟨b, 1, none⟩ (.int .i64 (V2 1))).setCell ⟨b, 2, none⟩ (.int .i64 (V2 2))).setCell ⟨b, 3, none⟩ (.int .i64 (V2 3))).setCell ⟨b, 4, none⟩ (.int .i64 (V2 4))) (fun r => r = b) := by
  have h0 := blA5_set h 0 (by omega) (V2 0)
  have h1 := blA5_set h0 1 (by omega) (V2 1)
  have h2 := blA5_set h1 2 (by omega) (V2 2)
  have h3 := blA5_set h2 3 (by omega) (V2 3)
  have h4 := blA5_set h3 4 (by omega) (V2 4)
  refine ⟨?_, ((((Turn.of_below (S := fun r => r = b) (Below.refl _ _)).setCell rfl).setCell rfl).setCell rfl).setCell rfl |>.setCell rfl⟩
  rw [h4]
  simp [ar5, upd]

set_option maxRecDepth 100000 in
set_option maxHeartbeats 8000000 in
theorem icl_any {L : List MapN} {p : Nat} (hL : Lok L p) {F : Nat} (hF : F < p) (S : List Int) (hs : S.length ≤ 1048576) (hS : ptsB (p : Int) S = true) (gr gt cr bx N : Nat) (hN : N ≤ 40) (w : World) (ht : Tbl w gr gt p L) (hh : Hol w bx L S) :
    Calls Try.prog 65 #[rdV gr p cr (F : Int) bx, .int .i64 (N : Nat)] w (RetOwn w.heap.size (cnK (nxP L) L.length p F S (N + 1)) w) := by
  obtain ⟨i0, hi, hz0, hz1, hz2⟩ := info_parts info_int
  have HT := Lib.hid ht
  have HH := Lib.hid hh
  have HLA := Lib.hid fun (x : Nat) w h => ilast_any L S hs x bx w h
  have HNX := Lib.hid fun x i (hx : x < p) (hi : i < L.length) => hL.nx hx hi
  have HSS := Lib.hid fun V => smS_eq V hS
  have hp1 := hL.p1
  have hp5 := hL.p5
  have hm6 := hL.l6
  have hpos : 0 < L.length := hL.l1
  have HCL := Lib.hid (cnK_len (nxP L) L.length p F S)
  have HCS := Lib.hid (cnK_succ (nxP L) L.length p F S)
  obtain ⟨m, hm⟩ : ∃ m, m = L.length := ⟨_, rfl⟩
  have HMM := Lib.hid hm
  rw [← hm] at HCL HCS hm6 hpos ⊢
  clear hm ht hh hL hS
  have hF5 : F < 5 := by omega
  have hF5' : (F : Int) < 5 := by omega
  obtain ⟨wb, hwb⟩ : ∃ wb, wb = (w.alloc (.cells #[.slice (some ⟨gr, 0, none⟩) p cr, .int .i64 (F : Int), lastV bx] 74)).alloc (.cells ([.int .i64 0, .int .i64 0, .int .i64 0, .int .i64 0, .int .i64 0].set F (.int .i64 1)).toArray 69) := ⟨_, rfl⟩
  have HWB : Hid (Below w.heap.size w wb) := Lib.hid (by rw [hwb]; exact ((Below.refl _ _).alloc (Nat.le_refl _) _).alloc (by simp) _)
  have HR0 : Hid (wb.heap[w.heap.size]? = some (.cells #[.slice (some ⟨gr, 0, none⟩) p cr, .int .i64 (F : Int), lastV bx] 74 (0, 0))) := Lib.hid (by rw [hwb]; exact (halloc_lt _ _ _ (by simp)).trans (halloc_at _ _ _ rfl))
  have H50 : Hid (wb.heap[w.heap.size + 1]? = some (.cells (ar5 (upd (fun _ => 0) F 1)) 69 (0, 0))) := Lib.hid (by rw [hwb, ← ar5_one F hF5]; exact halloc_at _ _ _ (by simp))
  have hwz : wb.heap.size = w.heap.size + 2 := by rw [hwb]; simp
  have HWZ := Lib.hid hwz
  go_enter Try.func65, Try.ntmps65
  clear hwz
  go_wp2_with fail
  rw [← hwb]
  clear hwb
  go_loopw [6, 7, 8, 9, 10, 12, 19, 25, 41] (fun v _ _ _ _ _ i _ _ wr => ∃ k : Nat, k ≤ N + 1 ∧ i = .int .i64 k ∧ wr.heap[w.heap.size + 1]? = some (.cells (ar5 (wyK (nxP L) m p F k)) 69 (0, 0)) ∧ wr.heap[w.heap.size]? = some (.cells #[.slice (some ⟨gr, 0, none⟩) p cr, .int .i64 (F : Int), lastV bx] 74 (0, 0)) ∧ Own wr (w.heap.size + 2) v (cnK (nxP L) m p F S k) ∧ Below w.heap.size w wr ∧ w.heap.size + 2 ≤ wr.heap.size) (fun _ _ _ _ _ _ i _ _ _ => N + 1 - (intOf i).toNat)
  case atStart => exact ⟨0, by omega, rfl, H50.out, HR0.out, World.ownsRow_nil _ _ _ _, HWB.out, Nat.le_of_eq HWZ.out.symm⟩
  case round =>
    obtain ⟨k, hk, rfl, h5b, hrb, hown, hb, hsz⟩ := hrel
    have H5 := Lib.hid h5b
    have HR := Lib.hid hrb
    have HO := Lib.hid hown
    have HB := Lib.hid hb
    have r0 := Joins.cell_of_block hrb 0
    simp only [List.getElem?_toArray, List.getElem?_cons_zero] at r0
    have hsz0 : w.heap.size < wr.heap.size := by omega
    clear h5b hrb hown hb
    obtain ⟨wo, hwo⟩ : ∃ wo, wo = wr := ⟨_, rfl⟩
    subst hwo
    by_cases hkN : k < N + 1
    · have hkN' : (k : Int) < (N : Int) + 1 := by omega
      have HSU := Lib.hid (HCS.out k)
      have HLN := Lib.hid (HCL.out k)
      rw [HSS.out (wyK (nxP L) m p F k)] at HSU
      have HWY : Hid (wyK (nxP L) m p F (k + 1) = adP (nxP L) m (wyK (nxP L) m p F k) p) := Lib.hid rfl
      generalize wyK (nxP L) m p F k = V at *
      go_wp2_with fail
      go_loopw [7, 9, 10, 12, 25, 41] (fun s _ _ _ i _ wx => ∃ x : Nat, x ≤ p ∧ i = .int .i64 x ∧ s = .int .i64 (smP V (lastB S) x) ∧ wx.heap[wo.heap.size]? = some (.cells (ar5 (adP (nxP L) m V x)) 69 (0, 0)) ∧ Below wo.heap.size wo wx) (fun _ _ _ _ i _ _ => p - (intOf i).toNat)
      case atStart => exact ⟨0, by omega, rfl, rfl, halloc_at _ _ _ rfl, (Below.refl _ _).alloc (Nat.le_refl _) _⟩
      case round =>
        clear r0
        obtain ⟨x, hx, rfl, rfl, h8b, hbx⟩ := hrel
        have H8 := Lib.hid h8b
        have HBX := Lib.hid hbx
        have hrb := (hbx.block _ hsz0).trans HR.out
        have r2 := Joins.cell_of_block hrb 2
        simp only [List.getElem?_toArray, List.getElem?_cons_zero, List.getElem?_cons_succ] at r2
        have h5b := (hbx.block _ (show w.heap.size + 1 < _ by omega)).trans H5.out
        have hzx : w.heap.size < wr.heap.size := (Array.getElem?_eq_some_iff.1 hrb).1
        have hzx1 : w.heap.size + 1 < wr.heap.size := (Array.getElem?_eq_some_iff.1 h5b).1
        have h8l : wo.heap.size < wr.heap.size := (Array.getElem?_eq_some_iff.1 h8b).1
        have HBW : Hid (Below w.heap.size w wr) := Lib.hid (HB.out.trans (hbx.mono (by omega)))
        by_cases hxp : x < p
        · have hxp' : (x : Int) < (p : Int) := by omega
          have hx5' : (x : Int) < 5 := by omega
          have e1 := (HT.out.below HBW.out).row x hxp
          rw [← HMM.out] at e1
          have eV := blA5_at h5b x (by omega)
          have HLX := Lib.hid (HLA.out x wr (HH.out.below HBW.out))
          have HSM : Hid (smP V (lastB S) (x + 1) = if lastB S x = true then aw (smP V (lastB S) x) (V x) else smP V (lastB S) x) := Lib.hid rfl
          have HST : Hid (adP (nxP L) m V (x + 1) = adI (nxP L) V x (adP (nxP L) m V x) m) := Lib.hid rfl
          clear h8b hbx hrb h5b
          have hm0 : (0 : Int) ≤ (x : Int) * (m : Int) := Int.mul_nonneg (by omega) (by omega)
          obtain ⟨wx, hwx⟩ : ∃ wx, wx = wr := ⟨_, rfl⟩
          subst hwx
          generalize adP (nxP L) m V x = U at *
          cases hb : lastB S x
          · rw [hb] at HLX HSM
            have HZ : Hid (smP V (lastB S) (x + 1) = smP V (lastB S) x) := Lib.hid (HSM.out.trans (if_neg Bool.false_ne_true))
            clear hb HSM
            generalize smP V (lastB S) x = s0 at *
            go_wp2_with fail
            refine HLX.out.mono ?_
            rintro e w5 ⟨rfl, rfl⟩
            go_wp2_with fail
            go_loopw [12, 41] (fun _ i wx => ∃ y : Nat, y ≤ m ∧ i = .int .i64 y ∧ wx.heap[wo.heap.size]? = some (.cells (ar5 (adI (nxP L) V x U y)) 69 (0, 0)) ∧ Below wo.heap.size wo wx) (fun _ i _ => m - (intOf i).toNat)
            case atStart => exact ⟨0, by omega, rfl, H8.out, HBX.out⟩
            case round =>
              obtain ⟨y, hy, rfl, h8b, hbx⟩ := hrel
              have H8 := Lib.hid h8b
              have HBX := Lib.hid hbx
              have h5b := (hbx.block _ (show w.heap.size + 1 < _ by omega)).trans H5.out
              have HBW : Hid (Below w.heap.size w wr) := Lib.hid (HB.out.trans (hbx.mono (by omega)))
              by_cases hym : y < m
              · have hym' : (y : Int) < (m : Int) := by omega
                have hyL : y < L.length := by rw [← HMM.out]; exact hym
                have eV := blA5_at h5b x (by omega)
                have eC := (HT.out.below HBW.out).cel x hxp y hyL
                rw [← HMM.out] at eC
                obtain ⟨hq1, _⟩ := HNX.out x y hxp hyL
                have HSY : Hid (adI (nxP L) V x U (y + 1) = upd (adI (nxP L) V x U y) (nxP L x y) (aw (adI (nxP L) V x U y (nxP L x y)) (V x))) := Lib.hid rfl
                generalize nxP L x y = q at *
                have hq5' : (q : Int) < 5 := by omega
                have eU := blA5_at h8b q (by omega)
                have hfr := blk_free h8b q
                obtain ⟨z, hz⟩ : ∃ z, z = aw (adI (nxP L) V x U y q) (V x) := ⟨_, rfl⟩
                have hwr : IntKind.i64.wrap (adI (nxP L) V x U y q + V x) = z := by rw [hz]; rfl
                rw [← hz] at HSY
                have hset := blA5_set h8b q (by omega) z
                rw [← HSY.out] at hset
                have HSET := Lib.hid hset
                clear hz h8b hbx h5b hset
                generalize adI (nxP L) V x U y = U2 at *
                generalize U2 q = A at *
                generalize V x = Vx at *
                go_wp2_with fail
                go_still_tail 8, (by kernel_rfl)
                go_wp2_with fail
                go_roundw
                case rel => exact ⟨y + 1, by omega, by go_num, HSET.out, (HBX.out.setCell (Nat.le_refl _) _).drew⟩
                case measure => simp [intOf]; omega
              · obtain rfl : y = m := by omega
                clear h8b hbx h5b
                have H9 : Hid (wr.heap[wo.heap.size]? = some (.cells (ar5 (adP (nxP L) y V (x + 1))) 69 (0, 0))) := Lib.hid (by rw [HST.out]; exact H8.out)
                go_wp2_with fail
                go_roundw
                case rel => exact ⟨x + 1, by omega, by go_num, by rw [HZ.out], H9.out, HBX.out⟩
                case measure => simp [intOf]; omega
          · rw [hb] at HLX HSM
            obtain ⟨zs, hzs⟩ : ∃ zs, zs = smP V (lastB S) (x + 1) := ⟨_, rfl⟩
            have hws : IntKind.i64.wrap (smP V (lastB S) x + V x) = zs := by rw [hzs, HSM.out, if_pos rfl]; rfl
            have HZ : Hid (smP V (lastB S) (x + 1) = zs) := Lib.hid hzs.symm
            clear hb HSM hzs
            generalize smP V (lastB S) x = s0 at *
            go_wp2_with fail
            refine HLX.out.mono ?_
            rintro e w5 ⟨rfl, rfl⟩
            go_wp2_with fail
            go_loopw [12, 41] (fun _ i wx => ∃ y : Nat, y ≤ m ∧ i = .int .i64 y ∧ wx.heap[wo.heap.size]? = some (.cells (ar5 (adI (nxP L) V x U y)) 69 (0, 0)) ∧ Below wo.heap.size wo wx) (fun _ i _ => m - (intOf i).toNat)
            case atStart => exact ⟨0, by omega, rfl, H8.out, HBX.out⟩
            case round =>
              obtain ⟨y, hy, rfl, h8b, hbx⟩ := hrel
              have H8 := Lib.hid h8b
              have HBX := Lib.hid hbx
              have h5b := (hbx.block _ (show w.heap.size + 1 < _ by omega)).trans H5.out
              have HBW : Hid (Below w.heap.size w wr) := Lib.hid (HB.out.trans (hbx.mono (by omega)))
              by_cases hym : y < m
              · have hym' : (y : Int) < (m : Int) := by omega
                have hyL : y < L.length := by rw [← HMM.out]; exact hym
                have eV := blA5_at h5b x (by omega)
                have eC := (HT.out.below HBW.out).cel x hxp y hyL
                rw [← HMM.out] at eC
                obtain ⟨hq1, _⟩ := HNX.out x y hxp hyL
                have HSY : Hid (adI (nxP L) V x U (y + 1) = upd (adI (nxP L) V x U y) (nxP L x y) (aw (adI (nxP L) V x U y (nxP L x y)) (V x))) := Lib.hid rfl
                generalize nxP L x y = q at *
                have hq5' : (q : Int) < 5 := by omega
                have eU := blA5_at h8b q (by omega)
                have hfr := blk_free h8b q
                obtain ⟨z, hz⟩ : ∃ z, z = aw (adI (nxP L) V x U y q) (V x) := ⟨_, rfl⟩
                have hwr : IntKind.i64.wrap (adI (nxP L) V x U y q + V x) = z := by rw [hz]; rfl
                rw [← hz] at HSY
                have hset := blA5_set h8b q (by omega) z
                rw [← HSY.out] at hset
                have HSET := Lib.hid hset
                clear hz h8b hbx h5b hset
                generalize adI (nxP L) V x U y = U2 at *
                generalize U2 q = A at *
                generalize V x = Vx at *
                go_wp2_with fail
                go_still_tail 8, (by kernel_rfl)
                go_wp2_with fail
                go_roundw
                case rel => exact ⟨y + 1, by omega, by go_num, HSET.out, (HBX.out.setCell (Nat.le_refl _) _).drew⟩
                case measure => simp [intOf]; omega
              · obtain rfl : y = m := by omega
                clear h8b hbx h5b
                have H9 : Hid (wr.heap[wo.heap.size]? = some (.cells (ar5 (adP (nxP L) y V (x + 1))) 69 (0, 0))) := Lib.hid (by rw [HST.out]; exact H8.out)
                go_wp2_with fail
                go_roundw
                case rel => exact ⟨x + 1, by omega, by go_num, by rw [HZ.out], H9.out, HBX.out⟩
                case measure => simp [intOf]; omega
        · obtain rfl : x = p := by omega
          obtain ⟨X, hX⟩ : ∃ X, X = smP V (lastB S) x := ⟨_, rfl⟩
          rw [← hX] at HSU
          rw [← hX]
          have HNW := Lib.hid h8b
          rw [← HWY.out] at HNW
          have HO1 : Hid (Own wr (w.heap.size + 2) u6 (cnK (nxP L) m x F S k)) := Lib.hid ((Turn.of_below (S := fun _ => False) hbx).own HO.out (fun _ _ h => h))
          have HOL : Hid (∀ r, u6.ownBlock = some r → w.heap.size + 2 ≤ r ∧ r < wo.heap.size) := Lib.hid fun r e => World.ownsRow.lt HO.out r e
          have HHB := Lib.hid (World.ownsRow.alloc HO1.out (.cells #[.int .i64 X] 2))
          clear hX h8b hbx hrb h5b r2
          obtain ⟨V2, hV2⟩ : ∃ V2, V2 = wyK (nxP L) m x F (k + 1) := ⟨_, rfl⟩
          rw [← hV2] at HNW
          have HV2 := Lib.hid hV2
          clear hV2
          go_wp2_with (at_builtin; refine wpList_append_own_at _ rfl _ _ 23 rfl (w.heap.size + 2) 2 i0 (.int .i64 0) 1 8 Try.underlying23 hi hz0 hz1 hz2 rfl (by decide) _ _ _ rfl HHB.out ⟨wr.heap.size, 0, none⟩ 1 1 [.int .i64 X] rfl rfl ?c1 ?c2 ?c3 ?c4 ?c5 ?_)
          case c1 =>
            intro j u hj
            match j, hj with
            | 0, hj => simp at hj; subst hj; simp [Addr.add]
          case c2 => intro u hu; simp at hu; subst hu; rfl
          case c3 => unfold maxLen; rw [HLN.out]; omega
          case c4 => rw [HLN.out]; omega
          case c5 => simp; omega
          intro v' w3 hown' hgrow _ hblk
          have HO3 : Hid (Own w3 (w.heap.size + 2) v' (cnK (nxP L) m x F S (k + 1))) := Lib.hid (by
            unfold Own
            rw [HSU.out, List.map_append, List.length_append]
            exact hown')
          have HB3 : Hid (Below w.heap.size w w3) := Lib.hid ((HBW.out.alloc (by omega) _).grown hgrow (by simp; omega) (fun r e => by have := HOL.out r e; omega))
          have hz3 := hgrow.size
          rw [World.size_alloc] at hz3
          have h8c : w3.heap[wo.heap.size]? = some (.cells (ar5 V2) 69 (0, 0)) := (hgrow.block _ (by rw [World.size_alloc]; omega) (fun e => by have := HOL.out _ e.symm; omega)).trans ((halloc_lt _ _ _ h8l).trans HNW.out)
          have h5c : w3.heap[w.heap.size + 1]? = some (.cells (ar5 V) 69 (0, 0)) := (hgrow.block _ (by rw [World.size_alloc]; omega) (fun e => by have := HOL.out _ e.symm; omega)).trans ((halloc_lt _ _ _ hzx1).trans ((HBX.out.block _ (by omega)).trans H5.out))
          have HRC : Hid (w3.heap[w.heap.size]? = some (.cells #[.slice (some ⟨gr, 0, none⟩) x cr, .int .i64 (F : Int), lastV bx] 74 (0, 0))) := Lib.hid ((hgrow.block _ (by rw [World.size_alloc]; omega) (fun e => by have := HOL.out _ e.symm; omega)).trans ((halloc_lt _ _ _ hzx).trans ((HBX.out.block _ hsz0).trans HR.out)))
          obtain ⟨a0, a1, a2, a3, a4⟩ := blA5 h8c
          obtain ⟨b0, b1, b2, b3, b4⟩ := blA5 h5c
          have hfr := blk_free h5c
          have H5C := Lib.hid h5c
          clear hown' hgrow hblk h8c h5c
          go_wp2_with fail
          obtain ⟨q1, q2⟩ := st5 V2 H5C.out
          go_roundw
          case rel => exact ⟨k + 1, by omega, by go_num, by rw [← HV2.out]; exact q1, q2.at_ HRC.out (by omega), q2.own HO3.out (fun r e e2 => by have := (World.ownsRow.lt HO3.out r e).1; omega), HB3.out.trans (q2.belP (fun r hr e => by omega) (by omega)), by have := q2.size; omega⟩
          case measure => simp [intOf]; omega
    · obtain rfl : k = N + 1 := by omega
      have HO2 := Lib.hid (Joins.ownsRow_le HO.out (show w.heap.size ≤ w.heap.size + 2 by omega))
      go_wp2_with fail
      go_ret
      exact ⟨_, rfl, HO2.out, HB.out⟩

set_option maxRecDepth 100000 in
set_option maxHeartbeats 4000000 in
theorem iCnt_any (L : List MapN) (hl : L.length ≤ 1048576) (F : Int) (S : List Int) (hs : S.length ≤ 1048576) (n : Int) (a b : Option Addr) (c d : Nat) (hc0 : a = none → c = 0) (w : World) (h1 : InRowM w a L) (h2 : InRow w b S) :
    Calls Try.prog 23 #[.agg #[.slice a L.length c, .int .i64 F, .slice b S.length d], .int .i64 n] w (RetRow w.heap.size (cntL L F S n) (cntC L F S n) w) := by
  obtain ⟨wb, hwb⟩ : ∃ wb, wb = w.alloc (.cells #[.slice a L.length c, .int .i64 F, .slice b S.length d] 29) := ⟨_, rfl⟩
  have HWB : Hid (Below w.heap.size w wb) := Lib.hid (by rw [hwb]; exact (Below.refl _ _).alloc (Nat.le_refl _) _)
  have hbx : wb.heap[w.heap.size]? = some (.cells #[.slice a L.length c, .int .i64 F, .slice b S.length d] 29 (0, 0)) := by rw [hwb]; exact halloc_at _ _ _ rfl
  have hwz : w.heap.size < wb.heap.size := (Array.getElem?_eq_some_iff.1 hbx).1
  have HBX := Lib.hid hbx
  have f0 := Joins.cell_of_block hbx 0
  have f1 := Joins.cell_of_block hbx 1
  have f2 := Joins.cell_of_block hbx 2
  simp only [List.getElem?_toArray, List.getElem?_cons_zero, List.getElem?_cons_succ] at f0 f1 f2
  have HAC := Lib.hid (iacc_any L hl F S hs a b c d hc0 wb (h1.below HWB.out) (h2.below HWB.out))
  clear hbx
  cases hA : accB L F S
  · rw [hA] at HAC
    rw [cntL_no (by rw [cntC_bad hA]; decide), cntC_bad hA]
    clear hA h1 h2
    go_enter Try.func23, Try.ntmps23
    go_wp2_with fail
    rw [← hwb]
    clear hwb
    go_wp2_with fail
    refine HAC.out.mono ?_
    rintro e w1 ⟨rfl, hb⟩
    have HB1 : Hid (Below w.heap.size w w1) := Lib.hid (HWB.out.trans (hb.mono (by omega)))
    clear hb
    go_wp2_with fail
    go_ret2
    exact ⟨none, 0, rfl, ⟨by simp, Or.inl rfl⟩, HB1.out⟩
  by_cases hn : 0 ≤ n ∧ n ≤ 20
  rotate_left
  · rw [hA] at HAC
    rw [cntL_no (by rw [cntC_out hA hn]; decide), cntC_out hA hn]
    clear hA h1 h2
    by_cases hn0 : n < 0
    · clear hn
      go_enter Try.func23, Try.ntmps23
      go_wp2_with fail
      rw [← hwb]
      clear hwb
      go_wp2_with fail
      refine HAC.out.mono ?_
      rintro e w1 ⟨rfl, hb⟩
      have HB1 : Hid (Below w.heap.size w w1) := Lib.hid (HWB.out.trans (hb.mono (by omega)))
      clear hb
      go_wp2_with fail
      go_ret2
      exact ⟨none, 0, rfl, ⟨by simp, Or.inl rfl⟩, HB1.out⟩
    · have hn2 : (20 : Int) < n := by omega
      clear hn
      go_enter Try.func23, Try.ntmps23
      go_wp2_with fail
      rw [← hwb]
      clear hwb
      go_wp2_with fail
      refine HAC.out.mono ?_
      rintro e w1 ⟨rfl, hb⟩
      have HB1 : Hid (Below w.heap.size w w1) := Lib.hid (HWB.out.trans (hb.mono (by omega)))
      clear hb
      go_wp2_with fail
      go_ret2
      exact ⟨none, 0, rfl, ⟨by simp, Or.inl rfl⟩, HB1.out⟩
  obtain ⟨hL, hF0, hF1, hS, _⟩ := accB_true hA
  have hce := cntC_good hA hn
  rw [hA] at HAC
  rw [cntL_yes hce, hce]
  obtain ⟨N, rfl⟩ := Int.eq_ofNat_of_zero_le hn.1
  have hN20 : N ≤ 20 := by have := hn.2; omega
  have hN0 : ¬ ((N : Int) < 0) := by omega
  have hN2 : ¬ ((20 : Int) < (N : Int)) := by omega
  obtain ⟨F, rfl⟩ := Int.eq_ofNat_of_zero_le hF0
  have hfst := hL.fst
  simp only [Int.toNat_natCast]
  obtain ⟨p, hp⟩ : ∃ p, p = (fst0 L).toNat := ⟨_, rfl⟩
  rw [← hp] at hL hfst ⊢
  rw [hfst] at hS
  have hFp : F < p := by omega
  have HRD := Lib.hid fun wx (hb : Below w.heap.size w wx) => ird_any hL (F : Int) S a b c d wx (h1.below hb) (h2.below hb)
  have HIC := Lib.hid fun gr gt cr bx w ht hh => icl_any hL hFp S hs hS gr gt cr bx N (by omega) w ht hh
  have HCL := Lib.hid (cnK_len (nxP L) L.length p F S (N + 1))
  generalize cnK (nxP L) L.length p F S (N + 1) = R at *
  clear hA h1 h2 hn hL hF0 hF1 hS hce hp hfst
  go_enter Try.func23, Try.ntmps23
  go_wp2_with fail
  rw [← hwb]
  clear hwb
  go_wp2_with fail
  refine HAC.out.mono ?_
  rintro e w1 ⟨rfl, hb⟩
  have hz := hb.size
  have HB1 : Hid (Below w.heap.size w w1) := Lib.hid (HWB.out.trans (hb.mono (by omega)))
  have hbx := (hb.block _ (by omega)).trans HBX.out
  have f0 := Joins.cell_of_block hbx 0
  have f1 := Joins.cell_of_block hbx 1
  have f2 := Joins.cell_of_block hbx 2
  simp only [List.getElem?_toArray, List.getElem?_cons_zero, List.getElem?_cons_succ] at f0 f1 f2
  have hsz : w.heap.size < w1.heap.size := by omega
  clear hb hbx HAC
  go_wp2_with fail
  refine (HRD.out _ HB1.out).mono ?_
  rintro e w2 ⟨gr, gt, cr, bx, rfl, ht, hh, hb⟩
  have HB2 : Hid (Below w.heap.size w w2) := Lib.hid (HB1.out.trans (hb.mono (by omega)))
  have hz2 := HB2.out.size
  have HI := Lib.hid (HIC.out gr gt cr bx w2 ht hh)
  clear hb ht hh HIC
  go_wp2_with fail
  refine HI.out.mono ?_
  rintro e w3 ⟨v, rfl, hown, hb⟩
  obtain ⟨a3, c3, rfl, hrd⟩ := own_rd hown (by rw [HCL.out]; omega)
  have HR3 := Lib.hid hrd
  have HB3 : Hid (Below w.heap.size w w3) := Lib.hid (HB2.out.trans (hb.mono (by omega)))
  clear hown hrd hb
  go_wp2_with fail
  go_ret2
  exact ⟨a3, c3, rfl, HR3.out.mono (by omega), HB3.out⟩

end Go.Proofs.Ytgiefgbpcjoieaa
