/- The contract of spec.l01Same. -/
import Derived.Test.YtpkapgidpgmdoaaChk
import Derived.Deep.RegionHeld3
namespace Go.Proofs.Ytpkapgidpgmdoaa
open Go.RowKit

set_option maxRecDepth 100000 in
set_option maxHeartbeats 2000000 in
theorem same_any (L : List MapN) (hall : allB L = true) (hl : L.length ≤ 1048576) (a : Option Addr) (c : Nat) (w : World) (h : InRowM w a L) :
    Calls Try.prog 107 #[.slice a L.length c] w fun e w' => e = .returned (.bool (sizeB L && sameB (fst0 L) L)) ∧ Below w.heap.size w w' := by
  have HR := Lib.hid h
  have HI := Lib.hid fun (x : MapN) w => lis_any x.1 x.2 w
  have HALL := Lib.hid fun k hk => allB_at hall k hk
  clear h hall
  by_cases hs : 1 ≤ L.length ∧ L.length ≤ 6
  · have hsz : sizeB L = true := by unfold sizeB; simp; exact hs
    rw [hsz, Bool.true_and]
    obtain ⟨hs1, hs6⟩ := hs
    have hpos : 0 < L.length := by omega
    have hlo : ¬ ((L.length : Int) < 1) := by omega
    have hhi : ¬ (6 < (L.length : Int)) := by omega
    clear hsz
    go_enter Try.func107, Try.ntmps107
    go_wp2_with fail
    go_loopw [3] (fun i wr => ∃ k : Nat, k ≤ L.length ∧ i = .int .i64 k ∧ (∀ j, j < k → (L.getD j z0).1 = fst0 L) ∧ Below w.heap.size w wr) (fun i _ => L.length - (intOf i).toNat)
    case atStart => exact ⟨0, by omega, rfl, by omega, Below.refl _ _⟩
    case round =>
      obtain ⟨k, hk, rfl, hok, hb⟩ := hrel
      have HB := Lib.hid hb
      have HOK := Lib.hid hok
      have hsz := hb.size
      clear hb hok
      by_cases hkm : k < L.length
      · have hkm' : (k : Int) < (L.length : Int) := by omega
        have hrow := HR.out.below HB.out
        obtain ⟨b, off, rfl, hbl, hat⟩ := hrow.at6 k hkm
        obtain ⟨b', off', e, hbl', hat0⟩ := hrow.at0 (by omega)
        cases e
        obtain ⟨x0, x1, x2, x3, x4, x5⟩ := hat
        obtain ⟨y0, _⟩ := hat0
        have hf0 : (L.getD 0 z0).1 = fst0 L := rfl
        rw [hf0] at y0
        have HXX := Lib.hid (sameB_false (p := fst0 L) k hkm)
        have HG : Hid ((L.getD k z0).1 = fst0 L → ∀ j, j < k + 1 → (L.getD j z0).1 = fst0 L) := Lib.hid fun h j hj => by
          by_cases e : j = k
          · rw [e]; exact h
          · exact HOK.out j (by omega)
        have hv := HALL.out k hkm
        have HQ := HI.out (L.getD k z0)
        rw [hv] at HQ
        have HQ := Lib.hid HQ
        clear hf0 hrow hv hbl'
        generalize hp0 : fst0 L = p0 at *
        have HP0 := Lib.hid hp0
        clear hp0
        generalize L.getD k z0 = X at *
        obtain ⟨p, t⟩ := X
        simp only [] at x0 x1 x2 x3 x4 x5
        have r0 : ∀ x, Below wr.heap.size wr x → x.cell? ⟨b, off + k * 6, none⟩ = some (.int .i64 p) := fun x h => (h.cell (p := ⟨b, _, none⟩) hbl).trans x0
        have r1 : ∀ x, Below wr.heap.size wr x → x.cell? ⟨b, off + k * 6 + 1, none⟩ = some (.int .i64 (t 0)) := fun x h => (h.cell (p := ⟨b, _, none⟩) hbl).trans x1
        have r2 : ∀ x, Below wr.heap.size wr x → x.cell? ⟨b, off + k * 6 + 2, none⟩ = some (.int .i64 (t 1)) := fun x h => (h.cell (p := ⟨b, _, none⟩) hbl).trans x2
        have r3 : ∀ x, Below wr.heap.size wr x → x.cell? ⟨b, off + k * 6 + 3, none⟩ = some (.int .i64 (t 2)) := fun x h => (h.cell (p := ⟨b, _, none⟩) hbl).trans x3
        have r4 : ∀ x, Below wr.heap.size wr x → x.cell? ⟨b, off + k * 6 + 4, none⟩ = some (.int .i64 (t 3)) := fun x h => (h.cell (p := ⟨b, _, none⟩) hbl).trans x4
        have r5 : ∀ x, Below wr.heap.size wr x → x.cell? ⟨b, off + k * 6 + 5, none⟩ = some (.int .i64 (t 4)) := fun x h => (h.cell (p := ⟨b, _, none⟩) hbl).trans x5
        have r6 : ∀ x, Below wr.heap.size wr x → x.cell? ⟨b, off, none⟩ = some (.int .i64 p0) := fun x h => (h.cell (p := ⟨b, _, none⟩) hbl).trans y0
        clear x0 x1 x2 x3 x4 x5 y0
        by_cases hv : p = p0
        · have HG := Lib.hid (HG.out hv)
          have hne : (p != p0) = false := by simp [hv]
          clear hv
          simp only [mv, mcells] at *
          go_wp2_with fail
          go_region_held3 (fun w' => Below wr.heap.size wr w') (first | (with_reducible assumption) | ((repeat' (first | (with_reducible exact Below.refl _ _) | (with_reducible refine Below.alloc ?_ ?_ _) | (with_reducible refine Below.setCell ?_ ?_ _) | (with_reducible refine Below.drew ?_) | (with_reducible refine below_drewN ?_ _) | (with_reducible refine Below.trans ?_ (Below.mono (Hid.out (by assumption)) ?_)) | omega | (simp; done) | (simp; omega))); done)) (first | (go_at_call 106; (with_reducible refine (HQ.out _).mono ?_); rintro e w2 ⟨rfl, hb2⟩; have hz2 := hb2.size; have HB2 := Lib.hid hb2; clear hb2))
          all_goals go_wp2_with fail
          all_goals go_roundw
          all_goals
            first
            | (case rel => exact ⟨k + 1, by omega, by go_num, HG.out, by (repeat' (first | (with_reducible exact Below.refl _ _) | (with_reducible refine Below.alloc ?_ ?_ _) | (with_reducible refine Below.setCell ?_ ?_ _) | (with_reducible refine Below.drew ?_) | (with_reducible refine below_drewN ?_ _) | (with_reducible refine Below.trans ?_ (Below.mono (Hid.out (by assumption)) ?_)) | omega | (simp; done) | (simp; omega)))⟩; done)
            | (case measure => simp [intOf]; omega; done)
        · have HF := Lib.hid (HXX.out hv)
          have hne : (p != p0) = true := by simp [hv]
          clear hv
          simp only [mv, mcells] at *
          go_wp2_with fail
          go_region_held3 (fun w' => Below wr.heap.size wr w') (first | (with_reducible assumption) | ((repeat' (first | (with_reducible exact Below.refl _ _) | (with_reducible refine Below.alloc ?_ ?_ _) | (with_reducible refine Below.setCell ?_ ?_ _) | (with_reducible refine Below.drew ?_) | (with_reducible refine below_drewN ?_ _) | (with_reducible refine Below.trans ?_ (Below.mono (Hid.out (by assumption)) ?_)) | omega | (simp; done) | (simp; omega))); done)) (first | (go_at_call 106; (with_reducible refine (HQ.out _).mono ?_); rintro e w2 ⟨rfl, hb2⟩; have hz2 := hb2.size; have HB2 := Lib.hid hb2; clear hb2))
          all_goals go_wp2_with fail
          all_goals go_ret
          all_goals
            refine ⟨ret_b (by first | exact HF.out.symm | (rw [HP0.out]; exact HF.out.symm)), ?_⟩
            (repeat' (first | (with_reducible exact Below.refl _ _) | (with_reducible refine Below.alloc ?_ ?_ _) | (with_reducible refine Below.setCell ?_ ?_ _) | (with_reducible refine Below.drew ?_) | (with_reducible refine below_drewN ?_ _) | (with_reducible refine Below.trans ?_ (Below.mono (Hid.out (by assumption)) ?_)) | omega | (simp; done) | (simp; omega)))
      · obtain rfl : k = L.length := by omega
        have HS := Lib.hid (sameB_true HOK.out)
        go_wp2_with fail
        go_ret
        exact ⟨ret_b HS.out.symm, HB.out⟩
  · have hsz : sizeB L = false := by unfold sizeB; simp; omega
    rw [hsz, Bool.false_and]
    by_cases hlo : (L.length : Int) < 1
    · clear hs hsz
      go_enter Try.func107, Try.ntmps107
      go_wp2_with fail
      go_ret
      exact ⟨rfl, Below.refl _ _⟩
    · have hhi : 6 < (L.length : Int) := by omega
      clear hs hsz
      go_enter Try.func107, Try.ntmps107
      go_wp2_with fail
      go_ret
      exact ⟨rfl, Below.refl _ _⟩

end Go.Proofs.Ytpkapgidpgmdoaa
