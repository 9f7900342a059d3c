/- The contract of spec.l05Set. -/
import Derived.Test.YthdjajelbpccpaaDoorSetc
import Derived.Test.YthdjajelbpccpaaDoorBitm
import Derived.Deep.QuietTactic
import Derived.BigQuiet
namespace Go.Proofs.YthdjajelbpccpaaDoor
open Go Go.RowKit

set_option maxRecDepth 100000 in
set_option maxHeartbeats 2000000 in
theorem set5_any (p : Int) (hp1 : 1 ≤ p) (hp5 : p ≤ 5) (L : List Int) (hn : L.length ≤ 1048576) (a : Option Addr) (c : Nat) (w : World) (h : InRow w a L) :
    Calls Tryd.prog 37 #[.slice a L.length c, .int .i64 p] w fun e w' => e = .returned (.bool (ptsB p L)) ∧ Below w.heap.size w w' := by
  have HN := Lib.hid h
  clear h
  go_enter Tryd.func37, Tryd.ntmps37
  go_wp2_with fail
  go_loopw [5] (fun i wr => ∃ k : Nat, k ≤ L.length ∧ i = .int .i64 k ∧ (∀ j, j < k → okK p L j = true) ∧ Below w.heap.size w wr) (fun i _ => L.length - (intOf i).toNat)
  case atStart => exact ⟨0, by omega, rfl, by omega, Below.refl _ _⟩
  case round =>
    obtain ⟨k, hk, rfl, hs, hb⟩ := hrel
    have HR := Lib.hid (HN.out.below hb)
    have HB := Lib.hid hb
    clear hb
    by_cases hkl : k < L.length
    · obtain ⟨b, off, rfl, hlt, hin⟩ := HR.out.resolve_left (fun e => by rw [e] at hkl; simp at hkl)
      have hkl' : (k : Int) < (L.length : Int) := by omega
      have e1 := hin k hkl
      have hsub : IntKind.i64.wrap (p - 1) = p - 1 := IntWalk.i64_in _ (by omega)
      rcases k with _ | k
      · clear hin hs
        simp only [Nat.add_zero] at e1
        have hb0 : before L 0 = -1 := rfl
        cases hi : inB (L.getD 0 0) 0 (p - 1)
        · have HF' := Lib.hid (ptsB_false (n := p) 0 hkl (by
            rw [Bool.eq_false_iff] at hi ⊢
            intro h
            apply hi
            unfold okK at h
            rw [hb0] at h
            simp only [Bool.and_eq_true, decide_eq_true_eq] at h
            exact inB_true.2 (by omega)))
          generalize L.getD 0 0 = X at *
          go_wp2_with fail
          go_quiet ((go_at_call 50; exact Calls.quiet_of_same (in_any _ _ _ _)))
          go_wp2_with fail
          go_ret
          exact ⟨ret_b (by rw [HF'.out]), below_drewN HB.out _⟩
        · have HO : Hid (okK p L 0 = true) := Lib.hid (by
            have := inB_true.1 hi
            unfold okK
            rw [hb0]
            simp only [Bool.and_eq_true, decide_eq_true_eq]
            omega)
          generalize L.getD 0 0 = X at *
          go_wp2_with fail
          go_quiet ((go_at_call 50; exact Calls.quiet_of_same (in_any _ _ _ _)))
          go_wp2_with fail
          go_roundw
          case rel => exact ⟨1, by omega, by go_num, fun j hj => (show j = 0 by omega) ▸ HO.out, below_drewN HB.out _⟩
          case measure => simp [intOf]; omega
      · have e0 := hin k (by omega)
        have hnn := ok_nonneg k hs
        have HS := Lib.hid hs
        have HA := Lib.hid (before_succ L k)
        have HFF := Lib.hid (fun h => ptsB_false (n := p) (k + 1) hkl h)
        have HO : Hid (inB (L.getD (k + 1) 0) 0 (p - 1) = true → ¬ L.getD (k + 1) 0 ≤ L.getD k 0 → okK p L (k + 1) = true) := Lib.hid fun h1 h2 => by
          have := inB_true.1 h1
          unfold okK
          rw [before_succ]
          simp only [Bool.and_eq_true, decide_eq_true_eq]
          omega
        have HO' : Hid (inB (L.getD (k + 1) 0) 0 (p - 1) = false ∨ L.getD (k + 1) 0 ≤ L.getD k 0 → okK p L (k + 1) = false) := Lib.hid fun h => by
          rw [Bool.eq_false_iff]
          intro h1
          unfold okK at h1
          rw [before_succ] at h1
          simp only [Bool.and_eq_true, decide_eq_true_eq] at h1
          rcases h with h | h
          · rw [Bool.eq_false_iff] at h; exact h (inB_true.2 (by omega))
          · omega
        clear hin hs hnn
        generalize L.getD (k + 1) 0 = X at *
        generalize L.getD k 0 = Y at *
        cases hi : inB X 0 (p - 1)
        · go_wp2_with fail
          go_quiet ((go_at_call 50; exact Calls.quiet_of_same (in_any _ _ _ _)))
          go_wp2_with fail
          go_ret
          exact ⟨ret_b (by rw [HFF.out (HO'.out (Or.inl hi))]), below_drewN HB.out _⟩
        · have hkk : ((k + 1 : Nat) : Int) - 1 = (k : Int) := by omega
          by_cases hle : X ≤ Y
          · go_wp2_with fail
            go_quiet ((go_at_call 50; exact Calls.quiet_of_same (in_any _ _ _ _)))
            go_wp2_with fail
            go_ret
            exact ⟨ret_b (by rw [HFF.out (HO'.out (Or.inr hle))]), below_drewN HB.out _⟩
          · go_wp2_with fail
            go_quiet ((go_at_call 50; exact Calls.quiet_of_same (in_any _ _ _ _)))
            go_wp2_with fail
            go_roundw
            case rel => exact ⟨k + 2, by omega, by go_num, fun j hj => by rcases Nat.lt_succ_iff_lt_or_eq.1 hj with h | h; exact HS.out j h; subst h; exact HO.out hi hle, below_drewN HB.out _⟩
            case measure => simp [intOf]; omega
    · have HF' := Lib.hid (ptsB_true (n := p) (L := L) (fun j hj => hs j (by omega)))
      clear hs
      go_wp2_with fail
      go_ret
      exact ⟨ret_b (by rw [HF'.out]), HB.out⟩

end Go.Proofs.YthdjajelbpccpaaDoor
