/- The contracts of spec.l04Right and spec.l04Left. The contract of spec.l04Ideal. -/
import Derived.Test.YtiogagaclhjdaaaIdl
import Derived.Test.YtiogagaclhjdaaaPut
import Derived.Test.YtiogagaclhjdaaaSclo
import Derived.Test.YtiogagaclhjdaaaSels
import Derived.Test.YtiogagaclhjdaaaBck
import Derived.Deep.DeepCutAuto
import Derived.Deep.RegionHeld3
namespace Go.Proofs.Ytiogagaclhjdaaa
open Go Go.RowKit Go.Maps

set_option maxRecDepth 100000 in
set_option maxHeartbeats 2000000 in
theorem srgt_any {p : Int} {K : List Nat} {c : Nat} (hK : ∀ x ∈ K, vld p x) (hc : vld p c) (hn : K.length ≤ 300) (a : Option Addr) (cap : Nat) (w : World) (hr : InRowM w a (mE p K)) :
    Calls Try.prog 60 #[.slice a K.length cap, mv p (dcd c)] w (RetPut w.heap.size (mE p (rgtC p K c)) w) := by
  have HVL := Lib.hid hK
  have HVC := Lib.hid hc
  have HR := Lib.hid hr
  clear hK hc hr
  unfold rgtC
  have HLAST : Hid ((K.map fun x => mulC p c x).take K.length = K.map fun x => mulC p c x) := Lib.hid (List.take_of_length_le (by rw [List.length_map]; omega))
  simp only [mv, mcells]
  go_enter Try.func60, Try.ntmps60
  go_wp2_with fail
  go_loopw [5, 6] (fun v i wr => ∃ (k g cap : Nat), k ≤ K.length ∧ i = .int .i64 k ∧ v = .slice (some ⟨g, 0, none⟩) (srtE ((K.map fun x => mulC p c x).take k)).length cap ∧ PutRow wr w.heap.size g cap (mE p (srtE ((K.map fun x => mulC p c x).take k))) ∧ Below w.heap.size w wr ∧ w.heap.size < wr.heap.size ∧ wr.heap[w.heap.size]? = some (.cells (mcells p (dcd c)) 31 (0, 0))) (fun _ i _ => K.length - (intOf i).toNat)
  case atStart => exact ⟨0, w.heap.size + 1, 0, by omega, rfl, rfl, put_empty (halloc_at _ _ _ (by simp)) (by omega), by (repeat' (first | (with_reducible exact Below.refl _ _) | (with_reducible refine Below.alloc ?_ ?_ _) | (with_reducible refine Below.setCell ?_ ?_ _) | (with_reducible refine Below.drew ?_) | (with_reducible refine below_drewN ?_ _) | (with_reducible refine Below.trans ?_ (Below.mono (Hid.out (by assumption)) ?_)) | omega | (simp; done) | (simp; omega))), by simp; omega, (halloc_lt _ _ _ (by simp)).trans (halloc_at _ _ _ rfl)⟩
  case round =>
    obtain ⟨k, g, cap, hk, rfl, rfl, hput, hb, hsz, hfb⟩ := hrel
    have HBR := Lib.hid hb
    have HFB := Lib.hid hfb
    have hsr := hb.size
    by_cases hkl : k < K.length
    · have hkl' : (k : Int) < (K.length : Int) := by omega
      obtain ⟨b1, o1, rfl, hl1, hat1⟩ := (HR.out.below hb).at6 k (by rw [mE_len]; exact hkl)
      rw [mE_at _ _ _ hkl] at hat1
      have hvx := HVL.out _ (getD_mem hkl)
      have hex : (K.map fun x => mulC p c x).getD k 0 = mulC p c (K.getD k 0) := by
        rw [List.getD_eq_getElem?_getD, List.getElem?_map, List.getElem?_eq_getElem hkl, List.getD_eq_getElem?_getD, List.getElem?_eq_getElem hkl]; rfl
      have htk := take_app (K.map fun x => mulC p c x) k (by rw [List.length_map]; exact hkl)
      rw [hex] at htk
      have hsub : ∀ t ∈ srtE ((K.map fun x => mulC p c x).take k), vld p t := fun t ht => by
        obtain ⟨y, hy, rfl⟩ := List.mem_map.1 (List.mem_of_mem_take ((srtE_mem _ t).1 ht))
        exact mulC_vld HVC.out (HVL.out y hy)
      have hsl : (srtE ((K.map fun x => mulC p c x).take k)).length ≤ 1000 := by
        have := nodup_le (srtd_nodup (srtE_srt ((K.map fun x => mulC p c x).take k))) (fun a ha => (srtE_mem _ a).1 ha)
        rw [List.length_take, List.length_map] at this
        omega
      have hq1 := fun w => times_num HVC.out hvx w
      have HP := Lib.hid fun (z : World) (hz : Below wr.heap.size wr z) => put_any (B' := w.heap.size) hsub (srtE_srt _) (mulC_vld HVC.out hvx) hsl g cap w.heap.size z (fun _ => Nat.le_refl _) (by have := hz.size; omega) (hput.below hz)
      simp only [← srtE_app, ← htk] at HP
      obtain ⟨x0, x1, x2, x3, x4, x5⟩ := hat1
      simp only [] at x0 x1 x2 x3 x4 x5
      have HLE : Hid (∀ M : List Nat, (mE p M).length = M.length) := Lib.hid fun M => mE_len p M
      unfold RetPut at HP
      simp only [mE_len] at HP
      generalize hMN : (srtE ((K.map fun x => mulC p c x).take (k + 1))) = MN at *
      have HMN := Lib.hid hMN
      clear hMN
      generalize (srtE ((K.map fun x => mulC p c x).take k)) = MM at *
      generalize mulC p c (K.getD k 0) = m at *
      generalize K.getD k 0 = x at *
      simp only [mv, mcells] at hq1 HP
      have HQ1 := Lib.hid hq1
      obtain ⟨r0, r1, r2, r3, r4, r5⟩ := belN_cells (B := wr.heap.size) hsz hfb
      have y0 : ∀ z, Below wr.heap.size wr z → z.cell? ⟨b1, _, none⟩ = _ := fun z hz => (hz.cell (p := ⟨b1, _, none⟩) hl1).trans x0
      have y1 : ∀ z, Below wr.heap.size wr z → z.cell? ⟨b1, _, none⟩ = _ := fun z hz => (hz.cell (p := ⟨b1, _, none⟩) hl1).trans x1
      have y2 : ∀ z, Below wr.heap.size wr z → z.cell? ⟨b1, _, none⟩ = _ := fun z hz => (hz.cell (p := ⟨b1, _, none⟩) hl1).trans x2
      have y3 : ∀ z, Below wr.heap.size wr z → z.cell? ⟨b1, _, none⟩ = _ := fun z hz => (hz.cell (p := ⟨b1, _, none⟩) hl1).trans x3
      have y4 : ∀ z, Below wr.heap.size wr z → z.cell? ⟨b1, _, none⟩ = _ := fun z hz => (hz.cell (p := ⟨b1, _, none⟩) hl1).trans x4
      have y5 : ∀ z, Below wr.heap.size wr z → z.cell? ⟨b1, _, none⟩ = _ := fun z hz => (hz.cell (p := ⟨b1, _, none⟩) hl1).trans x5
      clear hq1 hb hfb hput hvx hex htk hsub x0 x1 x2 x3 x4 x5
      go_upto_region 5 with fail
      go_region_held3 (fun w' => Below wr.heap.size wr w') (first | (with_reducible assumption) | ((repeat' (first | (with_reducible exact Below.refl _ _) | (with_reducible refine Below.alloc ?_ ?_ _) | (with_reducible refine Below.setCell ?_ ?_ _) | (with_reducible refine Below.drew ?_) | (with_reducible refine below_drewN ?_ _) | (with_reducible refine Below.trans ?_ (Below.mono (Hid.out (by assumption)) ?_)) | omega | (simp; done) | (simp; omega))); done)) (first | (go_at_call 69; (with_reducible refine (HQ1.out _).mono ?_); rintro e w1 ⟨rfl, hb⟩; skip; obtain ⟨hc, hf⟩ := bcell hb; have hz := hb.size; have Hb := Lib.hid hb; (try simp at hz hc hf); (try (have hy := Nat.lt_of_succ_le hz)); have hz0 : wr.heap.size ≤ w1.heap.size := (by omega); (try (have hz1 : wr.heap.size < w1.heap.size := (by omega))); clear hb) | (go_at_call 89; (with_reducible refine (HP.out _ (by assumption)).mono ?_); rintro e w5 ⟨g5, c5, rfl, hp5, hb⟩; obtain ⟨hc, hf⟩ := bcell hb; have hz := hb.size; have Hb := Lib.hid hb; have HP5 := Lib.hid hp5; (try simp at hz hc hf); have hz0 : wr.heap.size ≤ w5.heap.size := (by omega); clear hb hp5))
      all_goals go_wp2_with fail
      all_goals go_roundw
      case rel => exact ⟨k + 1, _, _, by omega, by go_num, by rw [HMN.out], by rw [HMN.out]; exact HP5.out.below (by (repeat' (first | (with_reducible exact Below.refl _ _) | (with_reducible refine Below.alloc ?_ ?_ _) | (with_reducible refine Below.setCell ?_ ?_ _) | (with_reducible refine Below.drew ?_) | (with_reducible refine below_drewN ?_ _) | (with_reducible refine Below.trans ?_ (Below.mono (Hid.out (by assumption)) ?_)) | omega | (simp; done) | (simp; omega)))), HBR.out.trans (Below.mono (show Below wr.heap.size wr _ by (repeat' (first | (with_reducible exact Below.refl _ _) | (with_reducible refine Below.alloc ?_ ?_ _) | (with_reducible refine Below.setCell ?_ ?_ _) | (with_reducible refine Below.drew ?_) | (with_reducible refine below_drewN ?_ _) | (with_reducible refine Below.trans ?_ (Below.mono (Hid.out (by assumption)) ?_)) | omega | (simp; done) | (simp; omega)))) hsr), Nat.lt_of_lt_of_le hsz (show Below wr.heap.size wr _ by (repeat' (first | (with_reducible exact Below.refl _ _) | (with_reducible refine Below.alloc ?_ ?_ _) | (with_reducible refine Below.setCell ?_ ?_ _) | (with_reducible refine Below.drew ?_) | (with_reducible refine below_drewN ?_ _) | (with_reducible refine Below.trans ?_ (Below.mono (Hid.out (by assumption)) ?_)) | omega | (simp; done) | (simp; omega)))).size, bel_at (show Below wr.heap.size wr _ by (repeat' (first | (with_reducible exact Below.refl _ _) | (with_reducible refine Below.alloc ?_ ?_ _) | (with_reducible refine Below.setCell ?_ ?_ _) | (with_reducible refine Below.drew ?_) | (with_reducible refine below_drewN ?_ _) | (with_reducible refine Below.trans ?_ (Below.mono (Hid.out (by assumption)) ?_)) | omega | (simp; done) | (simp; omega)))) HFB.out⟩
      case measure => simp [intOf]; omega
    · obtain rfl : k = K.length := by omega
      rw [HLAST.out] at hput ⊢
      have HP := Lib.hid hput
      clear hput hb hfb
      go_wp2_with fail
      go_ret
      exact ⟨g, cap, by rw [mE_len]; rfl, HP.out, HBR.out⟩

set_option maxRecDepth 100000 in
set_option maxHeartbeats 2000000 in
theorem slft_any {p : Int} {K : List Nat} {c : Nat} (hK : ∀ x ∈ K, vld p x) (hc : vld p c) (hn : K.length ≤ 300) (a : Option Addr) (cap : Nat) (w : World) (hr : InRowM w a (mE p K)) :
    Calls Try.prog 63 #[.slice a K.length cap, mv p (dcd c)] w (RetPut w.heap.size (mE p (lftC p K c)) w) := by
  have HVL := Lib.hid hK
  have HVC := Lib.hid hc
  have HR := Lib.hid hr
  clear hK hc hr
  unfold lftC
  have HLAST : Hid ((K.map fun x => mulC p x c).take K.length = K.map fun x => mulC p x c) := Lib.hid (List.take_of_length_le (by rw [List.length_map]; omega))
  simp only [mv, mcells]
  go_enter Try.func63, Try.ntmps63
  go_wp2_with fail
  go_loopw [5, 6] (fun v i wr => ∃ (k g cap : Nat), k ≤ K.length ∧ i = .int .i64 k ∧ v = .slice (some ⟨g, 0, none⟩) (srtE ((K.map fun x => mulC p x c).take k)).length cap ∧ PutRow wr w.heap.size g cap (mE p (srtE ((K.map fun x => mulC p x c).take k))) ∧ Below w.heap.size w wr ∧ w.heap.size < wr.heap.size ∧ wr.heap[w.heap.size]? = some (.cells (mcells p (dcd c)) 31 (0, 0))) (fun _ i _ => K.length - (intOf i).toNat)
  case atStart => exact ⟨0, w.heap.size + 1, 0, by omega, rfl, rfl, put_empty (halloc_at _ _ _ (by simp)) (by omega), by (repeat' (first | (with_reducible exact Below.refl _ _) | (with_reducible refine Below.alloc ?_ ?_ _) | (with_reducible refine Below.setCell ?_ ?_ _) | (with_reducible refine Below.drew ?_) | (with_reducible refine below_drewN ?_ _) | (with_reducible refine Below.trans ?_ (Below.mono (Hid.out (by assumption)) ?_)) | omega | (simp; done) | (simp; omega))), by simp; omega, (halloc_lt _ _ _ (by simp)).trans (halloc_at _ _ _ rfl)⟩
  case round =>
    obtain ⟨k, g, cap, hk, rfl, rfl, hput, hb, hsz, hfb⟩ := hrel
    have HBR := Lib.hid hb
    have HFB := Lib.hid hfb
    have hsr := hb.size
    by_cases hkl : k < K.length
    · have hkl' : (k : Int) < (K.length : Int) := by omega
      obtain ⟨b1, o1, rfl, hl1, hat1⟩ := (HR.out.below hb).at6 k (by rw [mE_len]; exact hkl)
      rw [mE_at _ _ _ hkl] at hat1
      have hvx := HVL.out _ (getD_mem hkl)
      have hex : (K.map fun x => mulC p x c).getD k 0 = mulC p (K.getD k 0) c := by
        rw [List.getD_eq_getElem?_getD, List.getElem?_map, List.getElem?_eq_getElem hkl, List.getD_eq_getElem?_getD, List.getElem?_eq_getElem hkl]; rfl
      have htk := take_app (K.map fun x => mulC p x c) k (by rw [List.length_map]; exact hkl)
      rw [hex] at htk
      have hsub : ∀ t ∈ srtE ((K.map fun x => mulC p x c).take k), vld p t := fun t ht => by
        obtain ⟨y, hy, rfl⟩ := List.mem_map.1 (List.mem_of_mem_take ((srtE_mem _ t).1 ht))
        exact mulC_vld (HVL.out y hy) HVC.out
      have hsl : (srtE ((K.map fun x => mulC p x c).take k)).length ≤ 1000 := by
        have := nodup_le (srtd_nodup (srtE_srt ((K.map fun x => mulC p x c).take k))) (fun a ha => (srtE_mem _ a).1 ha)
        rw [List.length_take, List.length_map] at this
        omega
      have hq1 := fun w => times_num hvx HVC.out w
      have HP := Lib.hid fun (z : World) (hz : Below wr.heap.size wr z) => put_any (B' := w.heap.size) hsub (srtE_srt _) (mulC_vld hvx HVC.out) hsl g cap w.heap.size z (fun _ => Nat.le_refl _) (by have := hz.size; omega) (hput.below hz)
      simp only [← srtE_app, ← htk] at HP
      obtain ⟨x0, x1, x2, x3, x4, x5⟩ := hat1
      simp only [] at x0 x1 x2 x3 x4 x5
      have HLE : Hid (∀ M : List Nat, (mE p M).length = M.length) := Lib.hid fun M => mE_len p M
      unfold RetPut at HP
      simp only [mE_len] at HP
      generalize hMN : (srtE ((K.map fun x => mulC p x c).take (k + 1))) = MN at *
      have HMN := Lib.hid hMN
      clear hMN
      generalize (srtE ((K.map fun x => mulC p x c).take k)) = MM at *
      generalize mulC p (K.getD k 0) c = m at *
      generalize K.getD k 0 = x at *
      simp only [mv, mcells] at hq1 HP
      have HQ1 := Lib.hid hq1
      obtain ⟨r0, r1, r2, r3, r4, r5⟩ := belN_cells (B := wr.heap.size) hsz hfb
      have y0 : ∀ z, Below wr.heap.size wr z → z.cell? ⟨b1, _, none⟩ = _ := fun z hz => (hz.cell (p := ⟨b1, _, none⟩) hl1).trans x0
      have y1 : ∀ z, Below wr.heap.size wr z → z.cell? ⟨b1, _, none⟩ = _ := fun z hz => (hz.cell (p := ⟨b1, _, none⟩) hl1).trans x1
      have y2 : ∀ z, Below wr.heap.size wr z → z.cell? ⟨b1, _, none⟩ = _ := fun z hz => (hz.cell (p := ⟨b1, _, none⟩) hl1).trans x2
      have y3 : ∀ z, Below wr.heap.size wr z → z.cell? ⟨b1, _, none⟩ = _ := fun z hz => (hz.cell (p := ⟨b1, _, none⟩) hl1).trans x3
      have y4 : ∀ z, Below wr.heap.size wr z → z.cell? ⟨b1, _, none⟩ = _ := fun z hz => (hz.cell (p := ⟨b1, _, none⟩) hl1).trans x4
      have y5 : ∀ z, Below wr.heap.size wr z → z.cell? ⟨b1, _, none⟩ = _ := fun z hz => (hz.cell (p := ⟨b1, _, none⟩) hl1).trans x5
      clear hq1 hb hfb hput hvx hex htk hsub x0 x1 x2 x3 x4 x5
      go_upto_region 5 with fail
      go_region_held3 (fun w' => Below wr.heap.size wr w') (first | (with_reducible assumption) | ((repeat' (first | (with_reducible exact Below.refl _ _) | (with_reducible refine Below.alloc ?_ ?_ _) | (with_reducible refine Below.setCell ?_ ?_ _) | (with_reducible refine Below.drew ?_) | (with_reducible refine below_drewN ?_ _) | (with_reducible refine Below.trans ?_ (Below.mono (Hid.out (by assumption)) ?_)) | omega | (simp; done) | (simp; omega))); done)) (first | (go_at_call 69; (with_reducible refine (HQ1.out _).mono ?_); rintro e w1 ⟨rfl, hb⟩; skip; obtain ⟨hc, hf⟩ := bcell hb; have hz := hb.size; have Hb := Lib.hid hb; (try simp at hz hc hf); (try (have hy := Nat.lt_of_succ_le hz)); have hz0 : wr.heap.size ≤ w1.heap.size := (by omega); (try (have hz1 : wr.heap.size < w1.heap.size := (by omega))); clear hb) | (go_at_call 89; (with_reducible refine (HP.out _ (by assumption)).mono ?_); rintro e w5 ⟨g5, c5, rfl, hp5, hb⟩; obtain ⟨hc, hf⟩ := bcell hb; have hz := hb.size; have Hb := Lib.hid hb; have HP5 := Lib.hid hp5; (try simp at hz hc hf); have hz0 : wr.heap.size ≤ w5.heap.size := (by omega); clear hb hp5))
      all_goals go_wp2_with fail
      all_goals go_roundw
      case rel => exact ⟨k + 1, _, _, by omega, by go_num, by rw [HMN.out], by rw [HMN.out]; exact HP5.out.below (by (repeat' (first | (with_reducible exact Below.refl _ _) | (with_reducible refine Below.alloc ?_ ?_ _) | (with_reducible refine Below.setCell ?_ ?_ _) | (with_reducible refine Below.drew ?_) | (with_reducible refine below_drewN ?_ _) | (with_reducible refine Below.trans ?_ (Below.mono (Hid.out (by assumption)) ?_)) | omega | (simp; done) | (simp; omega)))), HBR.out.trans (Below.mono (show Below wr.heap.size wr _ by (repeat' (first | (with_reducible exact Below.refl _ _) | (with_reducible refine Below.alloc ?_ ?_ _) | (with_reducible refine Below.setCell ?_ ?_ _) | (with_reducible refine Below.drew ?_) | (with_reducible refine below_drewN ?_ _) | (with_reducible refine Below.trans ?_ (Below.mono (Hid.out (by assumption)) ?_)) | omega | (simp; done) | (simp; omega)))) hsr), Nat.lt_of_lt_of_le hsz (show Below wr.heap.size wr _ by (repeat' (first | (with_reducible exact Below.refl _ _) | (with_reducible refine Below.alloc ?_ ?_ _) | (with_reducible refine Below.setCell ?_ ?_ _) | (with_reducible refine Below.drew ?_) | (with_reducible refine below_drewN ?_ _) | (with_reducible refine Below.trans ?_ (Below.mono (Hid.out (by assumption)) ?_)) | omega | (simp; done) | (simp; omega)))).size, bel_at (show Below wr.heap.size wr _ by (repeat' (first | (with_reducible exact Below.refl _ _) | (with_reducible refine Below.alloc ?_ ?_ _) | (with_reducible refine Below.setCell ?_ ?_ _) | (with_reducible refine Below.drew ?_) | (with_reducible refine below_drewN ?_ _) | (with_reducible refine Below.trans ?_ (Below.mono (Hid.out (by assumption)) ?_)) | omega | (simp; done) | (simp; omega)))) HFB.out⟩
      case measure => simp [intOf]; omega
    · obtain rfl : k = K.length := by omega
      rw [HLAST.out] at hput ⊢
      have HP := Lib.hid hput
      clear hput hb hfb
      go_wp2_with fail
      go_ret
      exact ⟨g, cap, by rw [mE_len]; rfl, HP.out, HBR.out⟩

end Go.Proofs.Ytiogagaclhjdaaa

namespace Go.Proofs.Ytiogagaclhjdaaa
open Go Go.RowKit

set_option maxRecDepth 100000 in
set_option maxHeartbeats 2000000 in
theorem sidl_any {p : Int} {K : List Nat} {c : Nat} (hmon : Mon p K) (hc : c ∈ K) (a : Option Addr) (cap : Nat) (w : World) (hr : InRowM w a (mE p K)) :
    Calls Try.prog 64 #[.slice a K.length cap, mv p (dcd c)] w (RetPut w.heap.size (mE p (idlC p K c)) w) := by
  have HMON := Lib.hid hmon
  have HR := Lib.hid hr
  have hb0 : Below w.heap.size w (w.alloc (.cells (mcells p (dcd c)) 31)) := (Below.refl _ _).alloc (Nat.le_refl _) _
  have HL := Lib.hid (slft_any hmon.vl (hmon.vl c hc) hmon.le a cap _ (hr.below hb0))
  have HB0 := Lib.hid hb0
  have HLK : Hid (∀ l ∈ lftC p K c, l ∈ K) := Lib.hid (hmon.lft hc)
  have hLl : (lftC p K c).length ≤ 300 := hmon.len (srtE_srt _) (hmon.lft hc)
  have HRG := Lib.hid fun (l : Nat) (hl : l ∈ K) (z : World) (hz : InRowM z a (mE p K)) => srgt_any hmon.vl (hmon.vl l hl) hmon.le a cap z hz
  have HRK : Hid (∀ l ∈ K, (∀ x ∈ rgtC p K l, x ∈ K) ∧ (rgtC p K l).length ≤ 300) := Lib.hid fun l hl => ⟨hmon.rgt hl, hmon.len (srtE_srt _) (hmon.rgt hl)⟩
  unfold idlC
  unfold RetPut at HL HRG
  simp only [mE_len] at HL HRG
  clear hb0 hr hc hmon
  generalize lftC p K c = LF at *
  generalize rgtC p K = R at *
  have HPK : Hid (∀ (E F : List Nat), (∀ x ∈ E, x ∈ K) → (srtE E).length ≤ 300 ∧ (∀ t ∈ srtE E, vld p t)) := Lib.hid fun E F h => ⟨HMON.out.len (srtE_srt _) (fun x hx => h x ((srtE_mem _ x).1 hx)), fun t ht => HMON.out.vl t (h t ((srtE_mem _ t).1 ht))⟩
  have HPR : Hid (∀ i, ∀ x ∈ (LF.take i).flatMap R, x ∈ K) := Lib.hid fun i x hx => by
    obtain ⟨l, hl, hx⟩ := List.mem_flatMap.1 hx
    exact (HRK.out l (HLK.out l (List.mem_of_mem_take hl))).1 x hx
  simp only [mv, mcells] at HL HB0 HRG ⊢
  go_enter Try.func64, Try.ntmps64
  go_wp2_with fail
  refine HL.out.mono ?_
  rintro e w1 ⟨gL, cL, rfl, hpL, hb1⟩
  have HB1 := Lib.hid (HB0.out.trans (hb1.mono (by simp)))
  have HPL := Lib.hid hpL
  have hs1 : w.heap.size < w1.heap.size := by have := hb1.size; simp at this; omega
  clear hb1 hpL HL
  go_wp2_with fail
  go_loopw [6, 7, 8, 9] (fun v i _ _ wr => ∃ (k g cap : Nat), k ≤ LF.length ∧ i = .int .i64 k ∧ v = .slice (some ⟨g, 0, none⟩) (srtE ((LF.take k).flatMap R)).length cap ∧ PutRow wr w1.heap.size g cap (mE p (srtE ((LF.take k).flatMap R))) ∧ Below w1.heap.size w1 wr) (fun _ i _ _ _ => LF.length - (intOf i).toNat)
  case atStart => exact ⟨0, w1.heap.size, 0, by omega, rfl, rfl, put_empty (halloc_at _ _ _ rfl) (Nat.le_refl _), (Below.refl _ _).alloc (Nat.le_refl _) _⟩
  case round =>
    obtain ⟨k, g, cap, hk, rfl, rfl, hput, hb⟩ := hrel
    have HBR := Lib.hid hb
    have HPUT := Lib.hid hput
    have hsr := hb.size
    clear hb hput
    by_cases hkl : k < LF.length
    · have hkl' : (k : Int) < (LF.length : Int) := by omega
      obtain ⟨b1, o1, e1, hl1, hat1⟩ := (HPL.out.below HBR.out).inRow.at6 k (by rw [mE_len]; exact hkl)
      injection e1 with e1
      injection e1 with eb eo _
      subst eb eo
      rw [mE_at _ _ _ hkl] at hat1
      have hlK := HLK.out _ (getD_mem hkl)
      obtain ⟨hRK, hRl⟩ := HRK.out _ hlK
      have HRKx := Lib.hid hRK
      have HQ := Lib.hid (HRG.out _ hlK wr (HR.out.below (HB1.out.trans (HBR.out.mono (by omega)))))
      have HTK : Hid ((LF.take (k + 1)).flatMap R = (LF.take k).flatMap R ++ R (LF.getD k 0)) := Lib.hid (by rw [take_app LF k hkl, List.flatMap_append]; simp)
      have HPRk := Lib.hid (HPR.out k)
      obtain ⟨x0, x1, x2, x3, x4, x5⟩ := hat1
      simp only [Nat.zero_add] at x0 x1 x2 x3 x4 x5
      have HLEN : Hid ((R (LF.getD k 0)).take (R (LF.getD k 0)).length = R (LF.getD k 0)) := Lib.hid (List.take_length)
      have HNIL : Hid ((LF.take k).flatMap R = (LF.take k).flatMap R ++ (R (LF.getD k 0)).take 0) := Lib.hid (by simp)
      clear hRK
      generalize hPR : (LF.take k).flatMap R = PR at *
      generalize hPR2 : (LF.take (k + 1)).flatMap R = PR2 at *
      have HPR2 := Lib.hid hPR2
      clear hPR hPR2
      generalize hRL : R (LF.getD k 0) = RL at *
      clear hRL
      generalize LF.getD k 0 = x at *
      go_wp2_with fail
      refine HQ.out.mono ?_
      rintro e w2 ⟨gR, cR, rfl, hpR, hb2⟩
      have HPR := Lib.hid hpR
      have HB2 := Lib.hid hb2
      have hs2 := hb2.size
      have HPUT2 := Lib.hid (HPUT.out.below hb2)
      clear hb2 hpR x0 x1 x2 x3 x4 x5
      obtain ⟨wo, hwo⟩ : ∃ wo, wo = wr := ⟨_, rfl⟩
      subst hwo
      go_wp2_with fail
      go_loopw [6, 9] (fun v i wr => ∃ (j g cap : Nat), j ≤ RL.length ∧ i = .int .i64 j ∧ v = .slice (some ⟨g, 0, none⟩) (srtE (PR ++ RL.take j)).length cap ∧ PutRow wr w1.heap.size g cap (mE p (srtE (PR ++ RL.take j))) ∧ Below w2.heap.size w2 wr) (fun _ i _ => RL.length - (intOf i).toNat)
      case atStart => exact ⟨0, g, cap, by omega, rfl, by rw [← HNIL.out], by rw [← HNIL.out]; exact HPUT2.out, Below.refl _ _⟩
      case round =>
        obtain ⟨j, g3, cap3, hj, rfl, rfl, hput3, hb3⟩ := hrel
        have HBI := Lib.hid hb3
        have hsi := hb3.size
        by_cases hjl : j < RL.length
        · have hjl' : (j : Int) < (RL.length : Int) := by omega
          obtain ⟨b2, o2, e1, hl2, hat2⟩ := (HPR.out.below HBI.out).inRow.at6 j (by rw [mE_len]; exact hjl)
          injection e1 with e1
          injection e1 with eb eo _
          subst eb eo
          rw [mE_at _ _ _ hjl] at hat2
          have hxK := HRKx.out _ (getD_mem hjl)
          have htk := take_app RL j hjl
          obtain ⟨hpl, hpv⟩ := HPK.out (PR ++ RL.take j) [] (fun y hy => by
            rcases List.mem_append.1 hy with h | h
            · exact HPRk.out y h
            · exact HRKx.out y (List.mem_of_mem_take h))
          have hP := put_any (B' := w1.heap.size) hpv (srtE_srt _) (HMON.out.vl _ hxK) (by omega) g3 cap3 w1.heap.size wr (fun _ => Nat.le_refl _) (by omega) hput3
          rw [← srtE_app, List.append_assoc, ← htk] at hP
          unfold RetPut at hP
          simp only [mE_len] at hP
          have HP := Lib.hid hP
          clear hP hput3 hb3 htk hpv hxK
          obtain ⟨x0, x1, x2, x3, x4, x5⟩ := hat2
          simp only [Nat.zero_add] at x0 x1 x2 x3 x4 x5
          generalize hMN : srtE (PR ++ RL.take (j + 1)) = MN at *
          have HMN := Lib.hid hMN
          clear hMN
          generalize srtE (PR ++ RL.take j) = MM at *
          generalize RL.getD j 0 = y at *
          simp only [mv, mcells] at HP
          go_wp2_with fail
          refine HP.out.mono ?_
          rintro e w3 ⟨g4, c4, rfl, hp4, hb4⟩
          have HP4 := Lib.hid hp4
          have HB4 := Lib.hid hb4
          clear hp4 hb4
          go_wp2_with fail
          go_roundw
          case rel => exact ⟨j + 1, g4, c4, by omega, by go_num, by rw [HMN.out], by rw [HMN.out]; exact HP4.out, HBI.out.trans (HB4.out.mono hsi)⟩
          case measure => simp [intOf]; omega
        · obtain rfl : j = RL.length := by omega
          rw [HLEN.out, ← HTK.out] at hput3 ⊢
          have HP := Lib.hid hput3
          clear hput3 hb3
          go_wp2_with fail
          go_roundw
          case rel => exact ⟨k + 1, g3, cap3, by omega, by go_num, by rw [HPR2.out], by rw [HPR2.out]; exact HP.out, HBR.out.trans ((HB2.out.trans (HBI.out.mono hs2)).mono hsr)⟩
          case measure => simp [intOf]; omega
    · obtain rfl : k = LF.length := by omega
      rw [List.take_length] at HPUT ⊢
      go_wp2_with fail
      go_ret
      exact ⟨g, cap, by rw [mE_len]; rfl, HPUT.out.mono (by omega), HB1.out.trans (HBR.out.mono (by omega))⟩

end Go.Proofs.Ytiogagaclhjdaaa
