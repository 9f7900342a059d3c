/- The contract of spec.CountByRank. -/
import Derived.Test.YtfghegjlilcafaaCni
import Derived.Test.YtfghegjlilcafaaNi
import Derived.Deep.RegionHeld3
import Derived.StillTailTactics
namespace Go.Proofs.Ytfghegjlilcafaa
open Go Go.RowKit

theorem dpN_mono (n : Nat) (hn : n ≤ 12) : ∀ (m k : Nat), k ≤ 12 → dpN n m k ≤ 24 ^ m
  | 0, 0, _ => Nat.le_refl _
  | 0, _ + 1, _ => Nat.zero_le _
  | m + 1, 0, _ => Nat.zero_le _
  | m + 1, k + 1, h => by
    have h1 := dpN_mono n hn m (k + 1) h
    have h2 := dpN_mono n hn m k (by omega)
    show dpN n m (k + 1) * (k + 1) + dpN n m k * (n - k) ≤ 24 ^ (m + 1)
    rw [Nat.pow_succ]
    calc dpN n m (k + 1) * (k + 1) + dpN n m k * (n - k) ≤ 24 ^ m * 12 + 24 ^ m * 12 := Nat.add_le_add (Nat.mul_le_mul h1 h) (Nat.mul_le_mul h2 (by omega))
      _ = 24 ^ m * 24 := by omega
theorem dpN_bd {n m k : Nat} (hn : n ≤ 12) (hm : m ≤ 12) (hk : k ≤ 12) : dpN n m k ≤ 36520347436056576 := Nat.le_trans (dpN_mono n hn m k hk) (Nat.le_trans (Nat.pow_le_pow_right (by omega) hm) (by decide))

/-- What lies at r already, when its turn comes. -/
def paN (n i : Nat) : Nat → Nat
  | 0 => 0
  | r + 1 => dpN n i r * (n - r)
theorem dp_pa (n i r : Nat) : dpN n (i + 1) r = paN n i r + dpN n i r * r := by
  cases r with
  | zero => rfl
  | succ r => show dpN n i (r + 1) * (r + 1) + dpN n i r * (n - r) = dpN n i r * (n - r) + dpN n i (r + 1) * (r + 1); omega
def inN (n i r : Nat) : Nat → Int := fun k => if k < r then (dpN n (i + 1) k : Int) else if k = r then (paN n i r : Int) else 0
theorem inN_zero (n i k : Nat) : inN n i 0 k = 0 := by
  unfold inN
  rw [if_neg (by omega)]
  by_cases h : k = 0
  · rw [if_pos h]; rfl
  · rw [if_neg h]
theorem inN_at (n i r : Nat) : inN n i r r = (paN n i r : Int) := by unfold inN; rw [if_neg (by omega), if_pos rfl]
theorem inN_half (n i r k : Nat) : upd (inN n i r) r (dpN n (i + 1) r : Int) k = if k < r + 1 then (dpN n (i + 1) k : Int) else 0 := by
  unfold upd inN
  by_cases h : k = r
  · subst h; rw [if_pos rfl, if_pos (by omega)]
  · rw [if_neg h]
    by_cases h2 : k < r
    · rw [if_pos h2, if_pos (by omega)]
    · rw [if_neg h2, if_neg h, if_neg (by omega)]
theorem inN_next (n i r k : Nat) : upd (upd (inN n i r) r (dpN n (i + 1) r : Int)) (r + 1) (paN n i (r + 1) : Int) k = inN n i (r + 1) k := by
  show (if k = r + 1 then (paN n i (r + 1) : Int) else upd (inN n i r) r (dpN n (i + 1) r : Int) k) = _
  rw [inN_half]
  unfold inN
  by_cases h : k = r + 1
  · rw [if_pos h, if_neg (by omega), if_pos h]
  · rw [if_neg h]
    by_cases h2 : k < r + 1
    · rw [if_pos h2, if_pos h2]
    · rw [if_neg h2, if_neg h2, if_neg h]

theorem wrap_small {x : Int} (h0 : 0 ≤ x) (h1 : x ≤ 4000000000000000000) : IntKind.i64.wrap x = x := IntWalk.i64_in _ (by omega)

/-- The call returns a list that can be read and a code. -/
def RetRowI (L : List Int) (c : Int) (w : World) (e : Ending) (w' : World) : Prop :=
  ∃ a cap, e = .returned (.tuple #[.slice a L.length cap, .int .i64 c]) ∧ InRow w' a L ∧ Below w.heap.size w w'

theorem RetRow.inRow {B : Nat} {L : List Int} {c : Int} {w w' : World} {e : Ending} (h : RetRow B L c w e w') : RetRowI L c w e w' := by
  obtain ⟨a, cap, h1, h2, h3⟩ := h
  exact ⟨a, cap, h1, h2.inRow, h3⟩

theorem wrapN {x : Nat} (h : x ≤ 4000000000000000000) : IntKind.i64.wrap (x : Int) = (x : Int) := wrap_small (Int.natCast_nonneg _) (by omega)

set_option maxRecDepth 100000 in
set_option maxHeartbeats 4000000 in
theorem scbr_any (n : Int) (w : World) :
    Calls Try.prog 27 #[.int .i64 n] w (RetRowI (cmL9 0 1 n) (rgC n 12) w) := by
  have HIN := Lib.hid fun w => in_any n 1 12 w
  by_cases hn : 1 ≤ n ∧ n ≤ 12
  rotate_left
  · have hin : inB n 1 12 = false := by rw [Bool.eq_false_iff]; intro h; exact hn (inB_true.1 h)
    rw [hin] at HIN
    rw [cmL9_no hn, rg_no hn]
    clear hn hin
    go_enter Try.func27, Try.ntmps27
    go_wp2_with fail
    refine (HIN.out _).mono ?_
    rintro e w2 ⟨rfl, rfl⟩
    go_wp2_with fail
    go_ret2
    exact ⟨none, 0, rfl, Or.inl rfl, Below.refl _ _⟩
  have hin : inB n 1 12 = true := inB_true.2 hn
  rw [hin] at HIN
  rw [cmL9_yes hn, rg_yes hn]
  obtain ⟨m, rfl⟩ := Int.eq_ofNat_of_zero_le (show 0 ≤ n by omega)
  simp only [Int.toNat_natCast]
  have hm1 : 1 ≤ m := by omega
  have hm2 : m ≤ 12 := by omega
  have hm1' : 1 ≤ (m : Int) := hn.1
  have hm2' : (m : Int) ≤ 12 := hn.2
  have hL : Hid ((cnL 0 m 1 (m + 1 - 1)).length = m ∧ ∀ j, j < m → (cnL 0 m 1 (m + 1 - 1)).getD j 0 = (dpN m m (j + 1) : Int)) := Lib.hid ⟨by simp [cnL], fun j hj => by
    rw [show m + 1 - 1 = m by omega]
    simp only [cnL, List.getD_eq_getElem?_getD, List.getElem?_map, List.getElem?_range hj, Option.map_some, Option.getD_some]
    rw [← on_dp hm2 (show j + 1 ≤ m by omega), Nat.add_comm 1 j]
    rfl⟩
  have hmk := make_ints9 (m + 1) (by omega)
  have hcast : ((m + 1 : Nat) : Int) = (m : Int) + 1 := by omega
  rw [hcast] at hmk
  generalize cnL 0 m 1 (m + 1 - 1) = R at *
  clear hn hin hcast
  go_enter Try.func27, Try.ntmps27
  go_wp2_with fail
  refine (HIN.out _).mono ?_
  rintro e w2 ⟨rfl, rfl⟩
  have hni := ni_one (m + 1) 0 (by omega) w2
  have HNI := Lib.hid hni
  obtain ⟨e0, e1⟩ := (ni_new (m + 1) w2).2 0 (by omega)
  clear hni
  go_wp2_with fail
  clear e0 e1
  go_loopw [4, 5, 6, 7] (fun nw i _ _ wr => ∃ (k g1 : Nat), k ≤ m ∧ i = .int .i64 k ∧ nw = .slice (some ⟨g1, 0, none⟩) (m + 1) (m + 1) ∧ Ni wr g1 (m + 1) (fun r => (dpN m k r : Int)) ∧ w2.heap.size ≤ g1 ∧ Below w2.heap.size w2 wr) (fun _ i _ _ _ => m - (intOf i).toNat)
  case atStart =>
    refine ⟨0, w2.heap.size, by omega, rfl, rfl, HNI.out.congr (fun j _ => ?_), Nat.le_refl _, (Below.refl _ _).alloc (Nat.le_refl _) _⟩
    unfold upd
    cases j with
    | zero => rfl
    | succ j => rw [if_neg (by omega)]; rfl
  case round =>
    obtain ⟨k, g1, hk, rfl, rfl, hni, hg1, hb⟩ := hrel
    have HNK := Lib.hid hni
    have HB := Lib.hid hb
    have hzr := hb.size
    have hg1l := hni.1
    obtain ⟨wo, hwo⟩ : ∃ wo, wo = wr := ⟨_, rfl⟩
    subst hwo
    by_cases hkm : k < m
    · have hkm' : (k : Int) < (m : Int) := by omega
      have hk12 : k + 1 ≤ 12 := by omega
      have HN0 : Hid (Ni (wo.alloc (.cells (Array.replicate (m + 1) (.int .i64 0)) 2)) wo.heap.size (m + 1) (inN m k 0)) := Lib.hid ((ni_new (m + 1) wo).congr fun j _ => (inN_zero m k j).symm)
      clear hni hb
      go_wp2_with fail
      go_loopw [7] (fun i wx => ∃ r : Nat, r ≤ m + 1 ∧ i = .int .i64 r ∧ Ni wx wo.heap.size (m + 1) (inN m k r) ∧ Below wo.heap.size wo wx) (fun i _ => m + 1 - (intOf i).toNat)
      case atStart => exact ⟨0, by omega, rfl, HN0.out, (Below.refl _ _).alloc (Nat.le_refl _) _⟩
      case round =>
        obtain ⟨r, hr, rfl, hnx, hbx⟩ := hrel
        have HNX := Lib.hid hnx
        have HBX := Lib.hid hbx
        have hzx := hbx.size
        have hxl := hnx.1
        by_cases hrm : r ≤ m
        · have hrm' : (r : Int) ≤ (m : Int) := by omega
          have hrm2 : (r : Int) < (m : Int) + 1 := by omega
          obtain ⟨x0, x1⟩ := hnx.2 r (by omega)
          rw [inN_at] at x0
          have y0 : wr.cell? ⟨g1, r, none⟩ = some (.int .i64 (dpN m k r : Int)) := ((HNK.out.below hbx).2 r (by omega)).1
          have Y00 : Hid (wo.cell? ⟨g1, r, none⟩ = some (.int .i64 (dpN m k r : Int))) := Lib.hid (HNK.out.2 r (by omega)).1
          have b1 := dpN_bd (n := m) (m := k + 1) (k := r) hm2 hk12 (by omega)
          have b0 := dp_pa m k r
          have wr1 : IntKind.i64.wrap ((dpN m k r : Int) * (r : Int)) = ((dpN m k r * r : Nat) : Int) := by rw [← Int.natCast_mul]; exact wrap_small (by omega) (by omega)
          have wr2 : IntKind.i64.wrap ((paN m k r : Int) + ((dpN m k r * r : Nat) : Int)) = (dpN m (k + 1) r : Int) := by rw [b0]; rw [Int.natCast_add]; exact wrap_small (by omega) (by omega)
          have wr3 : IntKind.i64.wrap ((r : Int) + 1) = (r : Int) + 1 := wrap_small (by omega) (by omega)
          have wr5 : IntKind.i64.wrap ((m : Int) - (r : Int)) = (m : Int) - (r : Int) := wrap_small (by omega) (by omega)
          have HHALF := Lib.hid fun (x : World) (h : Ni x wo.heap.size (m + 1) (inN m k r)) => h.set r (by omega) (dpN m (k + 1) r : Int)
          have HP : Hid (paN m k (r + 1) = dpN m k r * (m - r)) := Lib.hid rfl
          have HAT : Hid (r < m → upd (inN m k r) r (dpN m (k + 1) r : Int) (r + 1) = 0) := Lib.hid fun _ => by rw [inN_half, if_neg (by omega)]
          have HCG := Lib.hid fun j => inN_next m k r j
          have b4 : r < m → dpN m k r * (m - r) ≤ 36520347436056576 := fun h => by
            have q1 := dpN_bd (n := m) (m := k + 1) (k := r + 1) hm2 hk12 (by omega)
            have q2 : dpN m (k + 1) (r + 1) = dpN m k (r + 1) * (r + 1) + dpN m k r * (m - r) := rfl
            omega
          have HB4 := Lib.hid b4
          clear hnx hbx b0 b1 b4
          generalize hX : inN m k r = X at *
          generalize dpN m (k + 1) r = Z at *
          generalize paN m k (r + 1) = Q at *
          generalize paN m k r = A at *
          generalize hP1 : dpN m k r * r = P1 at *
          generalize dpN m k r = D at *
          obtain ⟨wq, hwq⟩ : ∃ wq, wq = wr := ⟨_, rfl⟩
          subst hwq
          by_cases hrlt : r < m
          · have hrlt' : (r : Int) < (m : Int) := by omega
            have e5 : (m : Int) - (r : Int) = ((m - r : Nat) : Int) := by omega
            have hQ : Q ≤ 36520347436056576 := by rw [HP.out]; exact HB4.out hrlt
            have wr4 : IntKind.i64.wrap ((D : Int) * ((m : Int) - (r : Int))) = (Q : Int) := by
              rw [e5, ← Int.natCast_mul, ← HP.out]
              exact wrapN (by omega)
            have wr6 : IntKind.i64.wrap (0 + (Q : Int)) = (Q : Int) := by
              rw [Int.zero_add]
              exact wrapN (by omega)
            clear e5 hX hP1
            go_wp2_with fail
            go_still_tail 14, (by kernel_rfl)
            go_wp2_with fail
            obtain ⟨wz, hwz⟩ : ∃ wz, wz = (wq.setCell ⟨wo.heap.size, r, none⟩ (.int .i64 (Z : Int))).drew := ⟨_, rfl⟩
            have hnz : Ni wz wo.heap.size (m + 1) (upd X r (Z : Int)) := by rw [hwz]; exact (HHALF.out _ HNX.out).below (Below.refl _ _).drew
            have HBZ : Hid (Below wo.heap.size wo wz) := Lib.hid (by rw [hwz]; exact (HBX.out.setCell (Nat.le_refl _) _).drew)
            rw [← hwz]
            clear hwz
            have HNZ := Lib.hid hnz
            have hzl := hnz.1
            obtain ⟨z0, z1⟩ := hnz.2 (r + 1) (by omega)
            rw [HAT.out hrlt] at z0
            have y1 : wz.cell? ⟨g1, r, none⟩ = some (.int .i64 (D : Int)) := (HBZ.out.cell (p := ⟨g1, r, none⟩) hg1l).trans Y00.out
            clear hnz x0 x1 y0
            go_wp2_with fail
            have i1 : ((r : Int) + 1).toNat = r + 1 := by omega
            have i2 : 0 ≤ (r : Int) + 1 := by omega
            have i3 : (r : Int) + 1 < (m : Int) + 1 := by omega
            go_still_tail 18, (by kernel_rfl)
            go_wp2_with fail
            go_roundw
            case rel =>
              refine ⟨r + 1, by omega, by go_num, ?_, ?_⟩
              · exact ((HNZ.out.set (r + 1) (by omega) (Q : Int)).below (Below.refl _ _).drew).congr fun j _ => HCG.out j
              · exact (HBZ.out.setCell (Nat.le_refl _) _).drew
            case measure => simp [intOf]; omega
          · have hrm3 : ¬ ((r : Int) < (m : Int)) := by omega
            clear hX hP1
            go_wp2_with fail
            go_still_tail 14, (by kernel_rfl)
            go_wp2_with fail
            go_roundw
            case rel =>
              refine ⟨r + 1, by omega, by go_num, ?_, ?_⟩
              · refine ((HHALF.out _ HNX.out).below (Below.refl _ _).drew).congr fun j hj => ?_
                rw [← HCG.out j]
                show _ = (if j = r + 1 then _ else _)
                rw [if_neg (by omega)]
              · exact (HBX.out.setCell (Nat.le_refl _) _).drew
            case measure => simp [intOf]; omega
        · have hrm' : ¬ ((r : Int) ≤ (m : Int)) := by omega
          obtain rfl : r = m + 1 := by omega
          have HNE : Hid (Ni wr wo.heap.size (m + 1) (fun r => (dpN m (k + 1) r : Int))) := Lib.hid (hnx.congr fun j hj => by unfold inN; rw [if_pos hj])
          clear hnx hbx
          go_wp2_with fail
          go_roundw
          case rel => exact ⟨k + 1, wo.heap.size, by omega, by go_num, rfl, HNE.out, hzr, HB.out.trans (HBX.out.mono hzr)⟩
          case measure => simp [intOf]; omega
    · have hkm' : ¬ ((k : Int) < (m : Int)) := by omega
      obtain rfl : k = m := by omega
      clear hni hb
      go_wp2_with fail
      go_ret2
      have he : Ending.returned (.tuple #[.slice (some ⟨g1, 1, none⟩) k k, .int .i64 0]) = .returned (.tuple #[.slice (some ⟨g1, 1, none⟩) R.length k, .int .i64 0]) := by rw [hL.out.1]
      refine ⟨some ⟨g1, 1, none⟩, k, he, Or.inr ⟨g1, 1, rfl, hg1l, fun j hj => ?_⟩, HB.out⟩
      · rw [hL.out.2 j (by rw [← hL.out.1]; exact hj), Nat.add_comm 1 j]
        exact (HNK.out.2 (j + 1) (by rw [hL.out.1] at hj; omega)).1

set_option maxHeartbeats 1000000 in
theorem eqI_same (L : List Int) (a1 a2 : Option Addr) (c1 c2 B1 : Nat) (w : World) (h1 : Rd w B1 a1 L) (h2 : InRow w a2 L) :
    Calls Try.prog 21 #[.slice a1 L.length c1, .slice a2 L.length c2] w fun e w' => e = .returned (.bool true) ∧ Below w.heap.size w w' := by
  have hn := h1.1
  have h1' := h1.2
  have h2' : L = [] ∨ _ := h2
  clear h1 h2
  by_cases hL : L = []
  · subst hL
    clear h1' h2'
    simp only [List.length_nil]
    go_enter Try.func21, Try.ntmps21
    go_wp2_with fail
    refine wp_loop_rounds 1 ?_
    rw [rounds_succ]
    go_wp2_with fail
    go_ret
    exact ⟨rfl, Below.refl _ _⟩
  · obtain ⟨g1, rfl, _, _, hc1⟩ := h1'.resolve_left hL
    obtain ⟨g2, o2, rfl, _, hc2⟩ := h2'.resolve_left hL
    have HC1 := Lib.hid hc1
    have HC2 := Lib.hid hc2
    clear h1' h2' hc1 hc2 hL
    go_enter Try.func21, Try.ntmps21
    go_wp2_with fail
    go_loopw [5] (fun i wr => ∃ k m : Nat, k ≤ L.length ∧ i = .int .i64 k ∧ wr = w.drewN m) (fun i _ => L.length - (intOf i).toNat)
    case atStart => exact ⟨0, 0, by omega, rfl, rfl⟩
    case round =>
      obtain ⟨k, m, hk, rfl, rfl⟩ := hrel
      by_cases hkl : k < L.length
      · have hkl' : (k : Int) < (L.length : Int) := by omega
        have e1 := (HC1.out k hkl).1
        have e2 := HC2.out k hkl
        generalize L.getD k 0 = X at *
        go_wp2_with fail
        go_quiet (fail)
        go_wp2_with fail
        go_roundw
        case rel => exact ⟨k + 1, m + nq, by omega, by go_num, by simp⟩
        case measure => simp [intOf]; omega
      · go_wp2_with fail
        go_ret
        exact ⟨rfl, below_drewN (Below.refl _ _) _⟩

end Go.Proofs.Ytfghegjlilcafaa
