/- The contract of spec.l01Points: the ascending list of a set that is told by digits in base 2. -/
import Derived.Test.YthblbamiammodaaBitm
import Derived.Test.YthblbamiammodaaSl
namespace Go.Proofs.Ythblbamiammodaa
open Go.RowKit

set_option maxHeartbeats 1000000 in
theorem spoints_any (s : Nat → Bool) (w : World) :
    Calls Try.prog 47 #[.int .i64 (mask s)] w (RetOwn w.heap.size (asc s) w) := by
  obtain ⟨i0, hi, hz0', hz1', hz2'⟩ := info_parts info_int
  have hMd := mask_bd s
  have HA := Lib.hid fun j => and_mask_all s j
  have HE := Lib.hid (asc_cut5 s 62 (by omega))
  generalize mask s = S at *
  generalize asc s = R at *
  generalize cut5 s = z at *
  go_enter Try.func47, Try.ntmps47
  go_wp2_with fail
  go_loopw [3, 4] (fun v i wr => ∃ k : Nat, k ≤ 62 ∧ i = .int .i64 k ∧ wr.ownsRow w.heap.size 2 1 v (ascK z k).length ((ascK z k).map (Value.int .i64)) ∧ Below w.heap.size w wr) (fun _ i _ => 62 - (intOf i).toNat)
  case atStart => exact ⟨0, by omega, rfl, own_empty _ _ (Nat.le_refl _), (Below.refl _ _).alloc (Nat.le_refl _) _⟩
  case round =>
    obtain ⟨k, hk, rfl, hown, hb⟩ := hrel
    have Hb := Lib.hid hb
    have hsz := hb.size
    clear hb
    by_cases hk6 : k < 62
    · have hk6' : (k : Int) < 62 := by omega
      have hand := HA.out k
      have hlen := ascK_len z k
      cases hs : z k
      · have hown' : Hid (wr.ownsRow w.heap.size 2 1 u3 (ascK z (k + 1)).length ((ascK z (k + 1)).map (Value.int .i64))) := by
          refine Lib.hid ?_
          rw [ascK_succ, if_neg (by rw [hs]; exact Bool.false_ne_true)]; exact hown
        rw [hs] at hand
        clear hown hs
        go_wp2_with fail
        go_roundw
        case rel => exact ⟨k + 1, by omega, by go_num, hown'.out, Hb.out⟩
        case measure => simp [intOf]; omega
      · have Hst := Lib.hid hs
        rw [hs] at hand
        clear hs
        go_wp2_with (at_builtin; refine wpList_append_own _ rfl _ _ 34 rfl w.heap.size 2 i0 (.int .i64 0) 1 8 Try.underlying34 hi hz0' hz1' hz2' rfl (by decide) _ _ _ rfl (hown.alloc _) ⟨wr.heap.size, 0, none⟩ 1 1 [.int .i64 k] rfl rfl ?c1 ?c2 ?c3 ?c4 ?c5 ?_)
        case c1 =>
          intro j u hj
          match j, hj with
          | 0, hj => simp at hj; subst hj; simp [Addr.add]
        case c2 => intro u hu; simp at hu; subst hu; rfl
        case c3 => unfold maxLen; omega
        case c4 => omega
        case c5 => simp; omega
        intro v' w1 hown' hgrow _
        have hown2 : Hid (w1.ownsRow w.heap.size 2 1 v' (ascK z (k + 1)).length ((ascK z (k + 1)).map (Value.int .i64))) := by
          refine Lib.hid ?_
          rw [ascK_succ, if_pos Hst.out]; simpa using hown'
        have hb2 : Hid (Below w.heap.size w w1) :=
          (Hb.out.alloc (by omega) _).grown hgrow (by simp; omega) (fun b hbk => by
            rcases hown.2 with ⟨hv, _⟩ | ⟨g, cap, cur, hv, hg, _⟩
            · rw [hv] at hbk; cases hbk
            · rw [hv] at hbk; cases hbk; exact hg)
        clear hown' hgrow hown
        go_wp2_with fail
        go_roundw
        case rel => exact ⟨k + 1, by omega, by go_num, hown2.out, hb2.out⟩
        case measure => simp [intOf]; omega
    · obtain rfl : k = 62 := by omega
      have Hown := Lib.hid hown
      clear hown
      go_wp2_with fail
      go_ret
      exact ⟨_, rfl, by rw [← HE.out]; exact Hown.out, Hb.out⟩
end Go.Proofs.Ythblbamiammodaa
