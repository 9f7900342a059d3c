/- The contract of (pointSet).ascending: the ascending list of a set, in new memory. -/
import Derived.Test.YtadljicbegemlaaSet
namespace Go.Proofs.Ytadljicbegemlaa
open Go.RowKit

/-- The call returns a list of its own. -/
def RetOwn (B : Nat) (L : List Int) (w : World) (e : Ending) (w' : World) : Prop := ∃ v, e = .returned v ∧ Own w' B v L ∧ Below w.heap.size w w'

theorem idx5b (s : Nat → Bool) (k : Nat) (hk : k < 5) (w : World) :
    (Instr.index 74 (.agg #[.bool (s 0), .bool (s 1), .bool (s 2), .bool (s 3), .bool (s 4)]) (.int .i64 (k : Int))).run Try.prog w = .ok (.bool (s k)) w := by
  rcases (by omega : k = 0 ∨ k = 1 ∨ k = 2 ∨ k = 3 ∨ k = 4) with rfl | rfl | rfl | rfl | rfl <;> kernel_rfl

set_option maxHeartbeats 1000000 in
theorem asc_any (s : Nat → Bool) (w : World) :
    Calls Try.prog 67 #[.agg (cells5 s)] w (RetOwn w.heap.size (asc s) w) := by
  obtain ⟨i0, hi, hz0, hz1, hz2⟩ := info_parts info_int
  simp only [cells5]
  go_enter Try.func67, Try.ntmps67
  go_wp2_with fail
  go_loopw [3, 4, 5, 7] (fun v _ _ i wr => ∃ k : Nat, k ≤ 5 ∧ i = .int .i64 k ∧ wr.ownsRow (w.heap.size + 1) 2 1 v (ascK s k).length ((ascK s k).map (Value.int .i64)) ∧ Below (w.heap.size + 1) (w.alloc (.cells (cells5 s) 74)) wr) (fun _ _ _ i _ => 5 - (intOf i).toNat)
  case atStart => exact ⟨0, by omega, rfl, World.ownsRow_nil _ _ _ _, Below.refl _ _⟩
  case round =>
    obtain ⟨k, hk, rfl, hown, hb⟩ := hrel
    have Hb := Lib.hid hb
    have hsz := hb.size
    simp at hsz
    clear hb
    by_cases hk5 : k < 5
    · have hk5' : (k : Int) < 5 := by omega
      have hix := idx5b s k hk5
      have hlen := ascK_len s k
      cases hs : s k
      · have hown' : Hid (wr.ownsRow (w.heap.size + 1) 2 1 u3 (ascK s (k + 1)).length ((ascK s (k + 1)).map (Value.int .i64))) := by rw [ascK_succ, if_neg (by rw [hs]; exact Bool.false_ne_true)]; exact hown
        clear hown
        rw [hs] at hix
        clear hs
        go_wp2_with fail
        go_roundw
        case rel => exact ⟨k + 1, by omega, by go_num, hown'.out, Hb.out⟩
        case measure => simp [intOf]; omega
      · have hst := hs
        have Hst := Lib.hid hst
        rw [hs] at hix
        clear hs hst
        go_wp2_with (at_builtin; refine wpList_append_own _ rfl _ _ 34 rfl (w.heap.size + 1) 2 i0 (.int .i64 0) 1 8 Try.underlying34 hi hz0 hz1 hz2 rfl (by decide) _ _ _ rfl (hown.alloc _) ⟨wr.heap.size, 0, none⟩ 1 1 [.int .i64 k] rfl rfl ?c1 ?c2 ?c3 ?c4 ?c5 ?_)
        case c1 =>
          intro j u hj
          match j, hj with
          | 0, hj => simp at hj; subst hj; simp [Addr.add]
        case c2 => intro u hu; simp at hu; subst hu; rfl
        case c3 => unfold maxLen; omega
        case c4 => omega
        case c5 => simp; omega
        intro v' w1 hown' hgrow _
        have hown2 : Hid (w1.ownsRow (w.heap.size + 1) 2 1 v' (ascK s (k + 1)).length ((ascK s (k + 1)).map (Value.int .i64))) := by
          refine Lib.hid ?_
          rw [ascK_succ, if_pos Hst.out]; simpa using hown'
        have hb2 : Hid (Below (w.heap.size + 1) (w.alloc (.cells (cells5 s) 74)) w1) :=
          (Hb.out.alloc (by omega) _).grown hgrow (by simp; omega) (fun b hbk => by
            rcases hown.2 with ⟨hv, _⟩ | ⟨g, cap, cur, hv, hg, _⟩
            · rw [hv] at hbk; cases hbk
            · rw [hv] at hbk; cases hbk; exact hg)
        clear hown' hgrow hown
        go_wp2_with fail
        go_roundw
        case rel => exact ⟨k + 1, by omega, by go_num, hown2.out, hb2.out⟩
        case measure => simp [intOf]; omega
    · obtain rfl : k = 5 := by omega
      have Hown := Lib.hid hown
      clear hown
      go_wp2_with fail
      go_ret
      exact ⟨_, rfl, Joins.ownsRow_le Hown.out (by omega), bel_new Hb.out (by omega)⟩
end Go.Proofs.Ytadljicbegemlaa
