/- spec.l01Less. -/
import Derived.Test.YtaabenkbcbpccaaCmp
namespace Go.Proofs.Ytaabenkbcbpccaa
open Go.RowKit

theorem sg_lt (a b : Int) : decide (sg a b = -1) = decide (a < b) := by
  unfold sg; congr 1; apply propext; split <;> (try split) <;> constructor <;> intro h <;> omega

set_option maxHeartbeats 1000000 in
theorem less_any (p q : Int) (t u : Nat → Int) (hp : 1 ≤ p ∧ p ≤ 5) (w : World) :
    Calls Try.prog 70 #[mv p t, mv q u] w fun e w' => e = .returned (.bool (decide (co p q t u = -1))) ∧ Below w.heap.size w w' := by
  by_cases hpq : p = q
  · subst hpq
    obtain ⟨hp1, hp5⟩ := hp
    unfold co
    rw [if_pos rfl]
    simp only [mv, mcells]
    go_enter Try.func70, Try.ntmps70
    go_wp2_with fail
    go_loopw [5] (fun i wr => ∃ (k : Nat), (k : Int) ≤ p ∧ i = .int .i64 k ∧ (∀ j, j < k → t j = u j) ∧ Below (w.heap.size + 2) ((w.alloc (.cells (mcells p t) 27)).alloc (.cells (mcells p u) 27)) wr) (fun i _ => 5 - (intOf i).toNat)
    case atStart => exact ⟨0, by omega, rfl, by omega, Below.refl _ _⟩
    case round =>
      obtain ⟨k, hk, rfl, hs, hb⟩ := hrel
      have b1 : wr.heap[w.heap.size]? = some (.cells (mcells p t) 27 (0, 0)) := (hb.block _ (by omega)).trans ((halloc_lt _ _ _ (by simp)).trans (halloc_at _ _ _ rfl))
      have b2 : wr.heap[w.heap.size + 1]? = some (.cells (mcells p u) 27 (0, 0)) := (hb.block _ (by omega)).trans (halloc_at _ _ _ (by simp))
      have hc0 := (blk6 b1).1
      have Hb : Hid (Below w.heap.size w wr) := Lib.hid (bel_new (bel_new hb (by simp)) (by simp))
      have H0 := Lib.hid hb
      clear hb
      by_cases hkp : (k : Int) < p
      · have hk5 : k < 5 := by omega
        have hk5' : (k : Int) < 5 := by omega
        have hc1 := blk_at b1 k hk5
        have hc2 := blk_at b2 k hk5
        clear b1 b2
        by_cases he : t k = u k
        · have HS := Lib.hid hs
          have HE := Lib.hid he
          rw [← he] at hc2
          clear hs he
          go_wp2_with fail
          go_quiet (fail)
          go_wp2_with fail
          go_roundw
          case rel => exact ⟨k + 1, by omega, by go_num, fun j hj => by rcases Nat.lt_succ_iff_lt_or_eq.1 hj with h | h; exact HS.out j h; subst h; exact HE.out, below_drewN H0.out _⟩
          case measure => simp [intOf]; omega
        · have hne : (t k != u k) = true := by simp [he]
          have HF : Hid (decide (cm t u p.toNat = -1) = decide (t k < u k)) := Lib.hid (by rw [cm_first t u k hs he p.toNat (by omega), sg_lt])
          clear hs he
          go_wp2_with fail
          go_quiet (fail)
          go_wp2_with fail
          go_quiet (fail)
          go_wp2_with fail
          go_ret
          exact ⟨ret_b HF.out.symm, below_drewN (below_drewN Hb.out _) _⟩
      · have HF : Hid (decide (cm t u p.toNat = -1) = false) := Lib.hid (by rw [cm_same t u p.toNat (fun j hj => hs j (by omega))]; rfl)
        clear hs b1 b2
        go_wp2_with fail
        go_ret
        exact ⟨ret_b HF.out.symm, Hb.out⟩
  · unfold co
    rw [if_neg hpq, sg_lt]
    have hpq' : (p != q) = true := by simp [hpq]
    simp only [mv, mcells]
    go_enter Try.func70, Try.ntmps70
    go_wp2_with fail
    go_ret
    refine ⟨rfl, ?_⟩
    (repeat' (first | (with_reducible exact Below.refl _ _) | (with_reducible refine Below.alloc ?_ ?_ _) | (with_reducible refine Below.setCell ?_ ?_ _) | (with_reducible refine Below.drew ?_) | (with_reducible refine below_drewN ?_ _) | (with_reducible refine Below.trans ?_ (Below.mono (Hid.out (by assumption)) ?_)) | omega | (simp; done) | (simp; omega)))
end Go.Proofs.Ytaabenkbcbpccaa
