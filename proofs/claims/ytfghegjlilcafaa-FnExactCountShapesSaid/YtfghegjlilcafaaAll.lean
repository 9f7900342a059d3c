/- The contract of spec.l01All. -/
import Derived.Test.YtfghegjlilcafaaDgt
import Derived.Test.YtfghegjlilcafaaConc
import Derived.Test.YtfghegjlilcafaaOwn
import Derived.Maps.AppendAt
namespace Go.Proofs.Ytfghegjlilcafaa
open Go Go.RowKit

theorem own_empty6 {w : World} {b base : Nat} (h : w.heap[b]? = some (.cells #[] 28 (0, 0))) (hb : base ≤ b) : OwnM w base (.slice (some ⟨b, 0, none⟩) 0 0) [] :=
  ⟨rfl, Or.inr ⟨_, 0, #[], rfl, hb, h, Nat.le_refl _, Nat.zero_le _, rfl, rfl⟩⟩

theorem OwnM.bel {w w' : World} {B : Nat} {v : Value} {M : List MapN} (h : OwnM w B v M) (hb : Below w.heap.size w w') : OwnM w' B v M := by
  unfold OwnM at *
  exact h.kept (row := none) ⟨hb.os, hb.tape, hb.output, hb.size, fun j hj _ => hb.block j hj⟩ (by cases hv : v.ownBlock <;> simp)

theorem at_one6 {w : World} {b T : Nat} {p : Int} {t : Nat → Int} (h : w.heap[b]? = some (.cells (mcells p t) T (0, 0))) : ∀ j, j < [((p, t) : MapN)].length → AtM w b 0 j ([((p, t) : MapN)].getD j z0) := by
  intro j hj
  have : j = 0 := by simpa using hj
  subst this
  obtain ⟨x0, x1, x2, x3, x4, x5⟩ := blk6 h
  exact ⟨x0, x1, x2, x3, x4, x5⟩

/-- A map is appended to a list of one's own. -/
theorem wpList_app6 {ops : Array Oper} {rest : List Oper} {o : Oper} {ac : Act} {Q : Exit → Act → World → Prop} {w : World} (hgd : o.guard = none) (s x : Operand)
    (ho : o.op = .call { callee := .builtin .append, args := #[s, x], argTypes := #[62, 62] })
    (base : Nat) (v : Value) (M : List MapN) (hs : ac.eval s = v) (hown : OwnM w base v M) (b c : Nat) (y : MapN) (hx : ac.eval x = .slice (some ⟨b, 0, none⟩) 1 c) (hb : w.heap[b]? = some (.cells (mcells y.1 y.2) 28 (0, 0)))
    (hlen : M.length ≤ 1000000) (hbase : base ≤ w.heap.size)
    (h : ∀ v' w', OwnM w' base v' (M ++ [y]) → w.grownBy w' v.ownBlock → (v'.ownBlock = v.ownBlock ∨ v'.ownBlock = some w.heap.size) → wpList Try.prog ops Q rest (ac.put o.dst v') w') : wpList Try.prog ops Q (o :: rest) ac w := by
  obtain ⟨i0, hi, hz0, hz1, hz2⟩ := info_parts info_map
  refine wpList_append_own_at w hgd s x _ ho base 28 i0 _ 6 48 Try.underlying62 hi hz0 hz1 hz2 rfl (by decide) v M.length (mcels M) hs hown ⟨b, 0, none⟩ 1 c (mcels [y]) hx rfl (rowM_cells (L := [y]) (at_one6 hb)) (mcels_one [y]) (by unfold maxLen; omega) (by omega) hbase ?_
  intro v' w' h1 h2 _ h4
  refine h v' w' ?_ h2 h4
  unfold OwnM
  rw [mcels_app, List.length_append]
  exact h1

set_option maxRecDepth 100000 in
set_option maxHeartbeats 2000000 in
theorem sall_any (n : Nat) (h1 : 1 ≤ n) (h5 : n ≤ 5) (w : World) :
    Calls Try.prog 71 #[.int .i64 (n : Int)] w (RetOwnM w.heap.size (allM n (n ^ n)) w) := by
  have hN := pow_le h1 h5
  have HLEN := Lib.hid (allM_len n)
  have HSUC := Lib.hid (allM_succ n)
  go_enter Try.func71, Try.ntmps71
  go_wp2_with fail
  go_loopw [3, 5] (fun a i wr => ∃ k : Nat, k ≤ n ∧ i = .int .i64 k ∧ a = .int .i64 ((n ^ k : Nat) : Int) ∧ wr = w.alloc (.cells #[] 28)) (fun _ i _ => n - (intOf i).toNat)
  case atStart => exact ⟨0, by omega, rfl, by rw [Nat.pow_zero]; rfl, rfl⟩
  case round =>
    obtain ⟨k, hk, rfl, rfl, rfl⟩ := hrel
    by_cases hkn : k < n
    · have hkn' : (k : Int) < (n : Int) := by omega
      have hp := powk_le h1 h5 (show k + 1 ≤ n from hkn)
      have hE : Hid (((n ^ k : Nat) : Int) * (n : Int) = ((n ^ (k + 1) : Nat) : Int)) := Lib.hid (by rw [Nat.pow_succ, Int.natCast_mul])
      have b1 : 0 ≤ ((n ^ k : Nat) : Int) * (n : Int) := by rw [hE.out]; omega
      have b2 : ((n ^ k : Nat) : Int) * (n : Int) ≤ 3125 := by rw [hE.out]; omega
      clear hp
      generalize n ^ k = x at *
      go_wp2_with fail
      go_roundw
      case rel => exact ⟨k + 1, by omega, by go_num, by rw [hE.out], trivial⟩
      case measure => simp [intOf]; omega
    · obtain rfl : k = n := by omega
      go_wp2_with fail
      obtain ⟨N, hNe⟩ : ∃ N, N = k ^ k := ⟨_, rfl⟩
      have HNE := Lib.hid hNe
      rw [← hNe] at hN ⊢
      clear hNe hk hkn
      have hk1 : (0 : Int) < (k : Int) := by omega
      have hk5 : (k : Int) ≤ 5 := by omega
      obtain ⟨w0, hw0⟩ : ∃ w0, w0 = w.alloc (.cells #[] 28) := ⟨_, rfl⟩
      have HOE : Hid (OwnM w0 w.heap.size (.slice (some ⟨w.heap.size, 0, none⟩) 0 0) []) := Lib.hid (by rw [hw0]; exact own_empty6 (halloc_at _ _ _ rfl) (Nat.le_refl _))
      have HB0 : Hid (Below w.heap.size w w0) := Lib.hid (by rw [hw0]; exact (Below.refl _ _).alloc (Nat.le_refl _) _)
      rw [← hw0]
      clear hw0
      go_loopw [4, 6, 7, 8, 9] (fun v i _ _ _ wr => ∃ c : Nat, c ≤ N ∧ i = .int .i64 c ∧ OwnM wr w.heap.size v (allM k c) ∧ Below w.heap.size w wr) (fun _ i _ _ _ _ => N - (intOf i).toNat)
      case atStart => exact ⟨0, by omega, rfl, HOE.out, HB0.out⟩
      case round =>
        obtain ⟨c, hc, rfl, hown, hb⟩ := hrel
        have HO := Lib.hid hown
        have HB := Lib.hid hb
        have hsz := hb.size
        clear hown hb
        obtain ⟨wo, hwo⟩ : ∃ wo, wo = wr := ⟨_, rfl⟩
        subst hwo
        by_cases hcN : c < N
        · have hcN' : (c : Int) < (N : Int) := by omega
          have hc9 : c ≤ 3125 := by omega
          have HBX : Hid ((wo.alloc (.cells (mcells (k : Int) (dgS k c 0)) 28)).heap[wo.heap.size]? = some (.cells (mcells (k : Int) (dgS k c 0)) 28 (0, 0))) := Lib.hid (halloc_at _ _ _ rfl)
          have hd0 : mcells (k : Int) (dgS k c 0) = #[.int .i64 (k : Int), .int .i64 0, .int .i64 0, .int .i64 0, .int .i64 0, .int .i64 0] := by simp only [mcells, dgS_zero]
          rw [hd0] at HBX
          have HD0 := Lib.hid hd0
          clear hd0
          have HSJ := Lib.hid (HSUC.out c)
          have HLJ := Lib.hid (HLEN.out c)
          go_wp2_with fail
          go_loopw [8, 9] (fun r i wx => ∃ j : Nat, j ≤ k ∧ i = .int .i64 ((k : Int) - 1 - (j : Int)) ∧ r = .int .i64 ((c / k ^ j : Nat) : Int) ∧ wx.heap[wo.heap.size]? = some (.cells (mcells (k : Int) (dgS k c j)) 28 (0, 0)) ∧ Below wo.heap.size wo wx) (fun _ i _ => (intOf i + 1).toNat)
          case atStart => exact ⟨0, by omega, by rw [Int.natCast_zero, Int.sub_zero], by rw [Nat.pow_zero, Nat.div_one], by rw [HD0.out]; exact HBX.out, (Below.refl _ _).alloc (Nat.le_refl _) _⟩
          case round =>
            obtain ⟨j, hj, rfl, rfl, hbx, hbw⟩ := hrel
            have HX := Lib.hid hbx
            have HW := Lib.hid hbw
            have hzx : wo.heap.size < wr.heap.size := (Array.getElem?_eq_some_iff.1 hbx).1
            by_cases hjk : j < k
            · obtain ⟨q, hq⟩ : ∃ q : Nat, (q : Int) = (k : Int) - 1 - (j : Int) := ⟨k - 1 - j, by omega⟩
              have hq2 : q = k - 1 - j := by omega
              have hq5 : (q : Int) < 5 := by omega
              have hq0 : (0 : Int) ≤ (q : Int) := by omega
              have hok := blk_at hbx q (by omega)
              have hfr := blk_free hbx (1 + q)
              have HST := Lib.hid (dgS_step (c := c) hjk)
              rw [← hq2] at HST
              have HRS := Lib.hid (rest_step c k j)
              have hx9 : c / k ^ j ≤ 3125 := Nat.le_trans (Nat.div_le_self _ _) hc9
              have HM : Hid (((c / k ^ j : Nat) : Int) % (k : Int) = ((c / k ^ j % k : Nat) : Int)) := Lib.hid (Int.natCast_emod _ _).symm
              have HD : Hid (((c / k ^ j : Nat) : Int) / (k : Int) = ((c / k ^ j / k : Nat) : Int)) := Lib.hid (Int.natCast_ediv _ _).symm
              have d1 : 0 ≤ ((c / k ^ j : Nat) : Int) / (k : Int) := by rw [HD.out]; exact Int.natCast_nonneg _
              have d2 : ((c / k ^ j : Nat) : Int) / (k : Int) ≤ 3125 := by
                rw [HD.out]
                have := Nat.div_le_self (c / k ^ j) k
                omega
              have hq1 : Hid ((q : Int) - 1 = (k : Int) - 1 - ((j + 1 : Nat) : Int)) := Lib.hid (by omega)
              have hms : (((q : Int) - 1) + 1).toNat < ((q : Int) + 1).toNat := by omega
              rw [← hq]
              clear hbx hbw hq hq2
              generalize c / k ^ j = x at *
              go_wp2_with fail
              go_roundw
              case rel =>
                refine ⟨j + 1, by omega, by rw [hq1.out], by rw [HD.out, HRS.out], ?_, HW.out.setCell (Nat.le_refl _) _⟩
                rw [HM.out, ← HST.out]
                exact blk_set HX.out q (by omega) _
              case measure => simp [intOf] <;> omega
            · obtain rfl : j = k := by omega
              have hz : (j : Int) - 1 - (j : Int) = -1 := by omega
              rw [hz]
              rw [dgS_full] at hbx
              have HX := Lib.hid hbx
              obtain ⟨e0, e1, e2, e3, e4, e5⟩ := blk6 hbx
              clear hz hbx hbw
              have HO2 : Hid (OwnM wr w.heap.size u4 (allM j c)) := Lib.hid (OwnM.bel HO.out HW.out)
              have hzw := HW.out.size
              go_wp2_with (at_builtin; refine wpList_app6 rfl _ _ rfl w.heap.size _ (allM j c) rfl (HO2.out.alloc _) wr.heap.size 1 ((j : Int), dgF j c) rfl (halloc_at _ _ _ rfl) (by rw [HLJ.out]; omega) (by simp; omega) ?_; intro v' w5 ho hg _)
              have hne := fun (r : Nat) (e : u4.ownBlock = some r) => (HO2.out.lt r e).1
              have hb3 : Below w.heap.size w w5 := ((HB.out.trans (HW.out.mono (by omega))).alloc (by omega) _).grown hg (by simp; omega) (fun r e => hne r e)
              rw [← HSJ.out] at ho
              have HO3 := Lib.hid ho
              have HB3 := Lib.hid hb3
              clear ho hg hb3 hne e0 e1 e2 e3 e4 e5
              go_wp2_with fail
              go_roundw
              case rel => exact ⟨c + 1, by omega, by go_num, HO3.out, HB3.out⟩
              case measure => simp [intOf]; omega
        · obtain rfl : c = N := by omega
          have hcN' : ¬ ((c : Int) < (c : Int)) := by omega
          go_wp2_with fail
          go_ret
          exact ⟨_, rfl, by rw [← HNE.out]; exact HO.out, HB.out⟩

end Go.Proofs.Ytfghegjlilcafaa
