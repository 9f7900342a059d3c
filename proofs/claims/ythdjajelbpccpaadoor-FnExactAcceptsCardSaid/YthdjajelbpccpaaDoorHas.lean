/- The contracts of slices.Index and slices.Contains at a list of integers. -/
import Derived.Test.YthdjajelbpccpaaDoorSl
namespace Go.Proofs.YthdjajelbpccpaaDoor
open Go.RowKit

/-- The call returns a number of at least 0 just if x is on the list. -/
def RetIdx (L : List Int) (x : Int) (w : World) (e : Ending) (w' : World) : Prop := ∃ n : Int, e = .returned (.int .i64 n) ∧ decide (0 ≤ n) = L.contains x ∧ w' = w

theorem has_at {L : List Int} {x : Int} (k : Nat) (hk : k < L.length) (h : L.getD k 0 = x) : decide (0 ≤ (k : Int)) = L.contains x := by
  have hmem : x ∈ L := by
    rw [← h]; simp [hk]
  rw [List.contains_iff_mem.2 hmem]; simp

theorem has_none {L : List Int} {x : Int} (hb : ∀ j, j < L.length → L.getD j 0 ≠ x) : decide (0 ≤ (-1 : Int)) = L.contains x := by
  have : ¬ (L.contains x = true) := fun hc => by
    rw [List.contains_iff_mem] at hc
    obtain ⟨j, hj, e⟩ := List.mem_iff_getElem.1 hc
    exact hb j hj (by simp [hj, e])
  rw [Bool.not_eq_true] at this
  rw [this]; rfl

set_option maxHeartbeats 1000000 in
theorem index_any (L : List Int) (x : Int) (hn : L.length ≤ 2000000) (a : Option Addr) (c : Nat) (w : World) (h : InRow w a L) :
    Calls Tryd.prog 70 #[.slice a L.length c, .int .i64 x] w (RetIdx L x w) := by
  have HN := Lib.hid h
  clear h
  go_enter Tryd.func70, Tryd.ntmps70
  go_wp2_with fail
  go_loopw [5, 8] (fun _ i wr => ∃ k : Nat, k ≤ L.length ∧ i = .int .i64 k ∧ (∀ j, j < k → L.getD j 0 ≠ x) ∧ wr = w) (fun _ i _ => L.length - (intOf i).toNat)
  case atStart => exact ⟨0, by omega, rfl, by omega, rfl⟩
  case round =>
    obtain ⟨k, hk, rfl, hs, rfl⟩ := hrel
    have HS := Lib.hid hs
    clear hs
    by_cases hkl : k < L.length
    · obtain ⟨b, off, rfl, hlt, hin⟩ := HN.out.resolve_left (fun e => by rw [e] at hkl; simp at hkl)
      have hkl' : (k : Int) < (L.length : Int) := by omega
      have e1 := hin k hkl
      clear hin
      by_cases he : L.getD k 0 = x
      · have HI := Lib.hid (has_at k hkl he)
        have he2 : (x == L.getD k 0) = true := by rw [he]; exact beq_self_eq_true _
        clear he
        generalize L.getD k 0 = X at *
        go_wp2_with fail
        go_ret
        exact ⟨_, rfl, HI.out, rfl⟩
      · have HE := Lib.hid he
        have he2 : (x == L.getD k 0) = false := by rw [beq_eq_false_iff_ne]; exact fun e => he e.symm
        clear he
        generalize hX : L.getD k 0 = X at e1 he2
        have HX := Lib.hid hX
        clear hX
        go_wp2_with fail
        go_roundw
        case rel => exact ⟨k + 1, by omega, by go_num, fun j hj => by rcases Nat.lt_succ_iff_lt_or_eq.1 hj with h | h; exact HS.out j h; subst h; exact HE.out, trivial⟩
        case measure => simp [intOf]; omega
    · have HI := Lib.hid (has_none (L := L) (x := x) (fun j hj => HS.out j (by omega)))
      go_wp2_with fail
      go_ret
      exact ⟨_, rfl, HI.out, rfl⟩

theorem contains_any (L : List Int) (x : Int) (hn : L.length ≤ 2000000) (a : Option Addr) (c : Nat) (w : World) (h : InRow w a L) :
    Calls Tryd.prog 48 #[.slice a L.length c, .int .i64 x] w fun e w' => e = .returned (.bool (L.contains x)) ∧ w' = w := by
  have HI := Lib.hid (index_any L x hn a c w h)
  clear h
  go_enter Tryd.func48, Tryd.ntmps48
  go_wp2_with fail
  refine HI.out.mono ?_
  rintro e w1 ⟨n, rfl, hn0, rfl⟩
  have HN := Lib.hid hn0
  clear hn0 HI
  go_wp2_with fail
  go_ret
  exact ⟨ret_b HN.out, rfl⟩
end Go.Proofs.YthdjajelbpccpaaDoor
