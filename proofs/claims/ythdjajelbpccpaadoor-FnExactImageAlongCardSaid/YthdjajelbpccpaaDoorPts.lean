/- Whether a list is an ascending list of points: the contract of impl.areAscendingPoints. -/
import Derived.Test.YthdjajelbpccpaaDoorSl
namespace Go.Proofs.YthdjajelbpccpaaDoor
open Go.RowKit

/-- The number before place k, and -1 before the first. -/
def before (L : List Int) (k : Nat) : Int := if k = 0 then -1 else L.getD (k - 1) 0

def okK (n : Int) (L : List Int) (k : Nat) : Bool := decide (before L k < L.getD k 0) && decide (L.getD k 0 < n)

def ptsB (n : Int) (L : List Int) : Bool := (List.range L.length).all (okK n L)

theorem ptsB_true {n : Int} {L : List Int} (h : ∀ k, k < L.length → okK n L k = true) : ptsB n L = true := by
  unfold ptsB; rw [List.all_eq_true]; intro k hk; exact h k (by simpa using hk)

theorem ptsB_false {n : Int} {L : List Int} (k : Nat) (hk : k < L.length) (h : okK n L k = false) : ptsB n L = false := by
  unfold ptsB; rw [List.all_eq_false]; exact ⟨k, by simpa using hk, by rw [h]; exact Bool.false_ne_true⟩

theorem before_succ (L : List Int) (k : Nat) : before L (k + 1) = L.getD k 0 := by
  unfold before; rw [if_neg (by omega)]; rfl

set_option maxHeartbeats 1000000 in
theorem aap_any (n : Int) (L : List Int) (hn : L.length ≤ 1048576) (a : Option Addr) (c : Nat) (w : World) (h : InRow w a L) :
    Calls Tryd.prog 65 #[.slice a L.length c, .int .i64 n] w fun e w' => e = .returned (.bool (ptsB n L)) ∧ ∃ m, w' = w.drewN m := by
  have HN := Lib.hid h
  clear h
  go_enter Tryd.func65, Tryd.ntmps65
  go_wp2_with fail
  go_loopw [5, 10] (fun v i wr => ∃ k : Nat, k ≤ L.length ∧ i = .int .i64 k ∧ v = .int .i64 (before L k) ∧ (∀ j, j < k → okK n L j = true) ∧ wr = w) (fun _ i _ => L.length - (intOf i).toNat)
  case atStart => exact ⟨0, by omega, rfl, rfl, by omega, rfl⟩
  case round =>
    obtain ⟨k, hk, rfl, rfl, hs, rfl⟩ := hrel
    by_cases hkl : k < L.length
    · obtain ⟨b, off, rfl, hlt, hin⟩ := HN.out.resolve_left (fun e => by rw [e] at hkl; simp at hkl)
      have hkl' : (k : Int) < (L.length : Int) := by omega
      have e1 := hin k hkl
      clear hin
      cases ho : okK n L k
      · have HF := Lib.hid (ptsB_false k hkl ho)
        have hor : L.getD k 0 ≤ before L k ∨ (¬ L.getD k 0 ≤ before L k ∧ n ≤ L.getD k 0) := by
          unfold okK at ho; simp at ho
          by_cases h : L.getD k 0 ≤ before L k
          · exact Or.inl h
          · exact Or.inr ⟨h, by have := ho (by simpa using h); simpa using this⟩
        clear hs ho
        generalize L.getD k 0 = X at *
        generalize before L k = Y at *
        rcases hor with h | ⟨h, h'⟩
        · go_wp2_with fail
          go_ret
          exact ⟨ret_b HF.out.symm, 0, rfl⟩
        · go_wp2_with fail
          go_ret
          exact ⟨ret_b HF.out.symm, 0, rfl⟩
      · have HO := Lib.hid ho
        have HS := Lib.hid hs
        have h1 : ¬ L.getD k 0 ≤ before L k := by unfold okK at ho; simp at ho; simpa using ho.1
        have h2 : ¬ n ≤ L.getD k 0 := by unfold okK at ho; simp at ho; simpa using ho.2
        have HB := Lib.hid (before_succ L k)
        clear hs ho
        generalize hX : L.getD k 0 = X at h1 h2 e1 HB
        generalize before L k = Y at *
        clear hX
        go_wp2_with fail
        go_roundw
        case rel => exact ⟨k + 1, by omega, by go_num, by rw [HB.out], fun j hj => by rcases Nat.lt_succ_iff_lt_or_eq.1 hj with h | h; exact HS.out j h; subst h; exact HO.out, trivial⟩
        case measure => simp [intOf]; omega
    · have HF := Lib.hid (ptsB_true (n := n) (L := L) (fun j hj => hs j (by omega)))
      clear hs
      go_wp2_with fail
      go_ret
      exact ⟨ret_b HF.out.symm, 0, rfl⟩
end Go.Proofs.YthdjajelbpccpaaDoor
