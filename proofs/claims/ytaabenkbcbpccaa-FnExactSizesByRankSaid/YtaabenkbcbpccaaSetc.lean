/- The contract of spec.l01Set. -/
import Derived.Test.YtaabenkbcbpccaaPts
namespace Go.Proofs.Ytaabenkbcbpccaa
open Go.RowKit

theorem ok_nonneg {n : Int} {L : List Int} : ∀ k, (∀ j, j < k + 1 → okK n L j = true) → 0 ≤ L.getD k 0
  | 0, h => by
    have := h 0 (by omega)
    unfold okK before at this
    simp at this
    have := this.1
    simpa using (by omega : (0:Int) ≤ L[0]?.getD 0)
  | k + 1, h => by
    have h0 := ok_nonneg k (fun j hj => h j (by omega))
    have := h (k + 1) (by omega)
    unfold okK at this
    rw [before_succ] at this
    simp only [Bool.and_eq_true, decide_eq_true_eq] at this
    omega

def ptsC (p : Int) (L : List Int) : Int := if ptsB p L = true then 0 else 2

def setC (p : Int) (f : Nat → Int) (L : List Int) : Int := if isB p f = true then ptsC p L else 1

set_option maxHeartbeats 1000000 in
theorem set_any (p : Int) (f : Nat → Int) (L : List Int) (hn : L.length ≤ 1048576) (a : Option Addr) (c : Nat) (w : World) (h : InRow w a L) :
    Calls Try.prog 37 #[mv p f, .slice a L.length c] w fun e w' => e = .returned (.int .i64 (setC p f L)) ∧ Below w.heap.size w w' := by
  have HF := fun w => lis_any p f w
  unfold setC
  cases hf : isB p f
  · rw [if_neg (by simp)]
    rw [hf] at HF
    have HF := Lib.hid HF
    clear h
    simp only [mv, mcells]
    go_enter Try.func37, Try.ntmps37
    go_wp2_with fail
    (refine (HF.out _).mono ?_; rintro e w1 ⟨rfl, hb⟩; obtain ⟨hc, hf⟩ := bcell hb; have hz := hb.size; have Hb := Lib.hid hb; (try simp at hz hc hf); (try (have hy := Nat.lt_of_succ_le hz)); have hz0 : w.heap.size < w1.heap.size := (by omega); clear hb)
    go_wp2_with fail
    go_ret
    refine ⟨rfl, ?_⟩
    (repeat' (first | (with_reducible exact Below.refl _ _) | (with_reducible refine Below.alloc ?_ ?_ _) | (with_reducible refine Below.setCell ?_ ?_ _) | (with_reducible refine Below.drew ?_) | (with_reducible refine below_drewN ?_ _) | (with_reducible refine Below.trans ?_ (Below.mono (Hid.out (by assumption)) ?_)) | omega | (simp; done) | (simp; omega)))
  · rw [if_pos rfl]
    rw [hf] at HF
    obtain ⟨hp1, hp5⟩ := isB_pts hf
    have HF := Lib.hid HF
    have HN := Lib.hid h
    clear h
    simp only [mv, mcells]
    go_enter Try.func37, Try.ntmps37
    go_wp2_with fail
    (refine (HF.out _).mono ?_; rintro e w1 ⟨rfl, hb⟩; obtain ⟨hc, hf⟩ := bcell hb; have hz := hb.size; have Hb := Lib.hid hb; (try simp at hz hc hf); (try (have hy := Nat.lt_of_succ_le hz)); have hz0 : w.heap.size < w1.heap.size := (by omega); clear hb)
    go_wp2_with fail
    go_loopw [5] (fun i wr => ∃ k : Nat, k ≤ L.length ∧ i = .int .i64 k ∧ (∀ j, j < k → okK p L j = true) ∧ Below w.heap.size w wr ∧ w.heap.size < wr.heap.size ∧ wr.heap[w.heap.size]? = some (.cells (mcells p f) 27 (0, 0))) (fun i _ => L.length - (intOf i).toNat)
    case atStart =>
      refine ⟨0, by omega, rfl, by omega, ?_, by omega, ?_⟩
      · (repeat' (first | (with_reducible exact Below.refl _ _) | (with_reducible refine Below.alloc ?_ ?_ _) | (with_reducible refine Below.setCell ?_ ?_ _) | (with_reducible refine Below.drew ?_) | (with_reducible refine below_drewN ?_ _) | (with_reducible refine Below.trans ?_ (Below.mono (Hid.out (by assumption)) ?_)) | omega | (simp; done) | (simp; omega)))
      · exact (Hb.out.block _ (by simp)).trans (halloc_at _ _ _ rfl)
    case round =>
      obtain ⟨k, hk, rfl, hs, hb, hsz, b0⟩ := hrel
      have hp := (blk6 b0).1
      have HR := Lib.hid (HN.out.below hb)
      have HB := Lib.hid hb
      have B0 := Lib.hid b0
      clear hb b0 hc hf hz Hb
      by_cases hkl : k < L.length
      · obtain ⟨b, off, rfl, hlt, hin⟩ := HR.out.resolve_left (fun e => by rw [e] at hkl; simp at hkl)
        have hkl' : (k : Int) < (L.length : Int) := by omega
        have e1 := hin k hkl
        have hsub : IntKind.i64.wrap (p - 1) = p - 1 := IntWalk.i64_in _ (by omega)
        rcases k with _ | k
        · clear hin hs
          simp only [Nat.add_zero] at e1
          have hb0 : before L 0 = -1 := rfl
          cases hi : inB (L.getD 0 0) 0 (p - 1)
          · have HF' := Lib.hid (ptsB_false (n := p) 0 hkl (by
              rw [Bool.eq_false_iff] at hi ⊢
              intro h
              apply hi
              unfold okK at h
              rw [hb0] at h
              simp only [Bool.and_eq_true, decide_eq_true_eq] at h
              exact inB_true.2 (by omega)))
            generalize L.getD 0 0 = X at *
            go_wp2_with fail
            go_quiet ((go_at_call 53; exact Calls.quiet_of_same (in_any _ _ _ _)))
            go_wp2_with fail
            go_ret
            exact ⟨ret_i (by unfold ptsC; rw [HF'.out]; rfl), below_drewN HB.out _⟩
          · have HO : Hid (okK p L 0 = true) := Lib.hid (by
              have := inB_true.1 hi
              unfold okK
              rw [hb0]
              simp only [Bool.and_eq_true, decide_eq_true_eq]
              omega)
            generalize L.getD 0 0 = X at *
            go_wp2_with fail
            go_quiet ((go_at_call 53; exact Calls.quiet_of_same (in_any _ _ _ _)))
            go_wp2_with fail
            go_roundw
            case rel => exact ⟨1, by omega, by go_num, fun j hj => (show j = 0 by omega) ▸ HO.out, below_drewN HB.out _, by simpa using hsz, by simpa using B0.out⟩
            case measure => simp [intOf]; omega
        · have e0 := hin k (by omega)
          have hnn := ok_nonneg k hs
          have HS := Lib.hid hs
          have HA := Lib.hid (before_succ L k)
          have HFF := Lib.hid (fun h => ptsB_false (n := p) (k + 1) hkl h)
          have HO : Hid (inB (L.getD (k + 1) 0) 0 (p - 1) = true → ¬ L.getD (k + 1) 0 ≤ L.getD k 0 → okK p L (k + 1) = true) := Lib.hid fun h1 h2 => by
            have := inB_true.1 h1
            unfold okK
            rw [before_succ]
            simp only [Bool.and_eq_true, decide_eq_true_eq]
            omega
          have HO' : Hid (inB (L.getD (k + 1) 0) 0 (p - 1) = false ∨ L.getD (k + 1) 0 ≤ L.getD k 0 → okK p L (k + 1) = false) := Lib.hid fun h => by
            rw [Bool.eq_false_iff]
            intro h1
            unfold okK at h1
            rw [before_succ] at h1
            simp only [Bool.and_eq_true, decide_eq_true_eq] at h1
            rcases h with h | h
            · rw [Bool.eq_false_iff] at h; exact h (inB_true.2 (by omega))
            · omega
          clear hin hs hnn
          generalize L.getD (k + 1) 0 = X at *
          generalize L.getD k 0 = Y at *
          cases hi : inB X 0 (p - 1)
          · go_wp2_with fail
            go_quiet ((go_at_call 53; exact Calls.quiet_of_same (in_any _ _ _ _)))
            go_wp2_with fail
            go_ret
            exact ⟨ret_i (by unfold ptsC; rw [HFF.out (HO'.out (Or.inl hi))]; rfl), below_drewN HB.out _⟩
          · have hkk : ((k + 1 : Nat) : Int) - 1 = (k : Int) := by omega
            by_cases hle : X ≤ Y
            · go_wp2_with fail
              go_quiet ((go_at_call 53; exact Calls.quiet_of_same (in_any _ _ _ _)))
              go_wp2_with fail
              go_ret
              exact ⟨ret_i (by unfold ptsC; rw [HFF.out (HO'.out (Or.inr hle))]; rfl), below_drewN HB.out _⟩
            · go_wp2_with fail
              go_quiet ((go_at_call 53; exact Calls.quiet_of_same (in_any _ _ _ _)))
              go_wp2_with fail
              go_roundw
              case rel => exact ⟨k + 2, by omega, by go_num, fun j hj => by rcases Nat.lt_succ_iff_lt_or_eq.1 hj with h | h; exact HS.out j h; subst h; exact HO.out hi hle, below_drewN HB.out _, by simpa using hsz, by simpa using B0.out⟩
              case measure => simp [intOf]; omega
      · have HF' := Lib.hid (ptsB_true (n := p) (L := L) (fun j hj => hs j (by omega)))
        clear hs
        go_wp2_with fail
        go_ret
        exact ⟨ret_i (by unfold ptsC; rw [HF'.out]; rfl), HB.out⟩
end Go.Proofs.Ytaabenkbcbpccaa
