/- The contract of spec.ProductTable. -/
import Derived.Test.YtgiefgbpcjoieaaPrq
import Derived.Test.YtgiefgbpcjoieaaOwn
import Derived.Deep.RegionHeld3
namespace Go.Proofs.Ytgiefgbpcjoieaa
open Go Go.RowKit

set_option maxRecDepth 100000 in
set_option maxHeartbeats 4000000 in
theorem sPrt_any (A : List (List Int)) (hn : A.length ≤ 1048576) (hl : ∀ j, j < A.length → (A.getD j []).length ≤ 1048576) (B : List (List Int)) (hn2 : B.length ≤ 1048576) (hl2 : ∀ j, j < B.length → (B.getD j []).length ≤ 1048576) (a1 : Option Addr) (c1 : Nat) (a2 : Option Addr) (c2 : Nat) (w : World) (h1 : InRowL w a1 A) (h2 : InRowL w a2 B) :
    Calls Try.prog 49 #[.slice a1 A.length c1, .slice a2 B.length c2] w (RetT w.heap.size (prL A B) (prC A B) w) := by
  obtain ⟨i0, hi, hz0, hz1, hz2⟩ := info_parts info_int
  have HA := Lib.hid (sis8_any A hn hl a1 c1 w h1)
  have HB := Lib.hid fun wx (hb : Below w.heap.size w wx) => sis8_any B hn2 hl2 a2 c2 wx (h2.below hb)
  cases hA : tblB A
  · rw [hA] at HA
    rw [prL_a hA, prC_a hA]
    clear hA h1 h2 hl hl2
    go_enter Try.func49, Try.ntmps49
    go_wp2_with fail
    refine HA.out.mono ?_
    rintro e w1 ⟨rfl, hb⟩
    have HB1 := Lib.hid hb
    clear hb
    go_wp2_with fail
    go_ret2
    exact retT_nil HB1.out 2
  cases hB : tblB B
  · rw [hA] at HA
    rw [hB] at HB
    rw [prL_b hB, prC_b hA hB]
    clear hA hB h1 h2 hl hl2
    go_enter Try.func49, Try.ntmps49
    go_wp2_with fail
    refine HA.out.mono ?_
    rintro e w0 ⟨rfl, hb⟩
    have HB1 := Lib.hid hb
    have hy1 := hb.size
    clear hb
    go_wp2_with fail
    refine (HB.out _ HB1.out).mono ?_
    rintro e w1 ⟨rfl, hb⟩
    have HB2 : Hid (Below w.heap.size w w1) := Lib.hid (HB1.out.trans (hb.mono (by omega)))
    have hsz := HB2.out.size
    clear hb
    go_wp2_with fail
    go_ret2
    exact retT_nil HB2.out 2
  have hnA := tblB_n hA
  have hnB := tblB_n hB
  obtain ⟨N, hN⟩ : ∃ N : Nat, N = A.length * B.length := ⟨_, rfl⟩
  have hNI : (A.length : Int) * (B.length : Int) = (N : Int) := by rw [hN]; simp
  have hN9 : N ≤ 1600 := by rw [hN]; exact Nat.mul_le_mul hnA.2 hnB.2
  have hwr : IntKind.i64.wrap (N : Int) = (N : Int) := IntWalk.i64_in _ (by omega)
  by_cases h40 : A.length * B.length ≤ 40
  rotate_left
  · rw [hA] at HA
    rw [hB] at HB
    rw [prL_n h40, prC_n hA hB h40]
    rw [← hN] at h40
    have h40' : (40 : Int) < (N : Int) := by omega
    clear hA hB h1 h2 hl hl2 hN
    go_enter Try.func49, Try.ntmps49
    go_wp2_with fail
    refine HA.out.mono ?_
    rintro e w0 ⟨rfl, hb⟩
    have HB1 := Lib.hid hb
    have hy1 := hb.size
    clear hb
    go_wp2_with fail
    refine (HB.out _ HB1.out).mono ?_
    rintro e w1 ⟨rfl, hb⟩
    have HB2 : Hid (Below w.heap.size w w1) := Lib.hid (HB1.out.trans (hb.mono (by omega)))
    have hsz := HB2.out.size
    clear hb
    go_wp2_with fail
    go_ret2
    exact retT_nil HB2.out 3
  have hTA := h1.tbl hA
  have hTB := h2.tbl hB
  rw [hA] at HA
  rw [hB] at HB
  rw [prL_0 hA hB h40, prC_0 hA hB h40]
  have hN1 : 1 ≤ N := by rw [hN]; exact Nat.mul_le_mul hnA.1 hnB.1
  have HDV : Hid (∀ i, i < N → i / B.length < A.length ∧ i % B.length < B.length) := Lib.hid fun i hi => ⟨Nat.div_lt_of_lt_mul (by rw [Nat.mul_comm, ← hN]; exact hi), Nat.mod_lt _ hnB.1⟩
  rw [← hN] at h40 ⊢
  have h40' : ¬ ((40 : Int) < (N : Int)) := by omega
  obtain ⟨b1, o1, g1, r1, d1, rfl, hT1⟩ := hTA
  obtain ⟨b2, o2, g2, r2, d2, rfl, hT2⟩ := hTB
  have HT1 := Lib.hid hT1
  have HT2 := Lib.hid hT2
  have hnA4 := hnA.2
  have hnB4 := hnB.2
  have hm0 : ¬ ((B.length : Int) = 0) := by omega
  have HF : Hid (∀ x y, prF B.length (mp A) (mp B) x y = (B.length : Int) * (mp A (x / B.length) (y / B.length) : Int) + (mp B (x % B.length) (y % B.length) : Int)) := Lib.hid fun _ _ => rfl
  clear hA hB h1 h2 hl hl2 hN hT1 hT2 hn hn2 hnA hnB
  generalize prF B.length (mp A) (mp B) = f at *
  generalize mp A = mu at *
  generalize mp B = nu at *
  generalize A.length = n1 at *
  generalize B.length = m at *
  go_enter Try.func49, Try.ntmps49
  go_wp2_with fail
  refine HA.out.mono ?_
  rintro e w0 ⟨rfl, hb⟩
  have HB1 := Lib.hid hb
  have hy1 := hb.size
  clear hb
  go_wp2_with fail
  refine (HB.out _ HB1.out).mono ?_
  rintro e w1 ⟨rfl, hb⟩
  have HB2 : Hid (Below w.heap.size w w1) := Lib.hid (HB1.out.trans (hb.mono (by omega)))
  have hsz := HB2.out.size
  clear hb
  go_wp2_with fail
  go_loopw [6, 8, 9, 10] (fun v i _ _ wr => ∃ (k : Nat) (us : List Value), k ≤ N ∧ i = .int .i64 k ∧ Trw wr w.heap.size v us (tbL f N k) ∧ Below w.heap.size w wr) (fun _ i _ _ _ => N - (intOf i).toNat)
  case atStart => exact ⟨0, [], by omega, rfl, trw_nil w1 w.heap.size hsz, HB2.out.alloc hsz _⟩
  case round =>
    obtain ⟨k, us, hk, rfl, hown, hb⟩ := hrel
    have HO := Lib.hid hown
    have HBR := Lib.hid hb
    have hzw := hb.size
    clear hb hown
    obtain ⟨wo, hwo⟩ : ∃ wo, wo = wr := ⟨_, rfl⟩
    subst hwo
    by_cases hkn : k < N
    · have hkn' : (k : Int) < (N : Int) := by omega
      go_wp2_with fail
      go_loopw [9, 10] (fun q i wr => ∃ j : Nat, j ≤ N ∧ i = .int .i64 j ∧ Own wr wo.heap.size q (rwL f k j) ∧ Below wo.heap.size wo wr) (fun _ i _ => N - (intOf i).toNat)
      case atStart => exact ⟨0, by omega, rfl, own_empty wo wo.heap.size (Nat.le_refl _), (Below.refl _ _).alloc (Nat.le_refl _) _⟩
      case round =>
        obtain ⟨j, hj, rfl, hown2, hb2⟩ := hrel
        have HB2 := Lib.hid hb2
        have hz2w := hb2.size
        clear hb2
        by_cases hjn : j < N
        · have hjn' : (j : Int) < (N : Int) := by omega
          obtain ⟨li, ki⟩ := HDV.out k hkn
          obtain ⟨lj, kj⟩ := HDV.out j hjn
          obtain ⟨qi, hqi⟩ : ∃ q, q = k / m := ⟨_, rfl⟩
          obtain ⟨qj, hqj⟩ : ∃ q, q = j / m := ⟨_, rfl⟩
          obtain ⟨si, hsi⟩ : ∃ q, q = k % m := ⟨_, rfl⟩
          obtain ⟨sj, hsj⟩ : ∃ q, q = j % m := ⟨_, rfl⟩
          have t1 : Int.tdiv (k : Int) (m : Int) = (qi : Int) := by rw [tdiv_nat, hqi]
          have t2 : Int.tdiv (j : Int) (m : Int) = (qj : Int) := by rw [tdiv_nat, hqj]
          have t3 : Int.tmod (k : Int) (m : Int) = (si : Int) := by rw [tmod_nat, hsi]
          have t4 : Int.tmod (j : Int) (m : Int) = (sj : Int) := by rw [tmod_nat, hsj]
          have hfv := HF.out k j
          rw [← hqi, ← hqj, ← hsi, ← hsj] at hfv
          rw [← hqi] at li
          rw [← hqj] at lj
          rw [← hsi] at ki
          rw [← hsj] at kj
          have HCE : Hid (∀ z, Below wr.heap.size wr z → z.cell? ⟨b1, o1 + qi, none⟩ = some (.slice (some ⟨g1 qi, r1 qi, none⟩) n1 (d1 qi)) ∧ z.cell? ⟨g1 qi, r1 qi + qj, none⟩ = some (.int .i64 (mu qi qj : Nat)) ∧ z.cell? ⟨b2, o2 + si, none⟩ = some (.slice (some ⟨g2 si, r2 si, none⟩) m (d2 si)) ∧ z.cell? ⟨g2 si, r2 si + sj, none⟩ = some (.int .i64 (nu si sj : Nat))) := Lib.hid fun z hz => by
            have hT := ((HT1.out.below HBR.out).below HB2.out).below hz
            have hU := ((HT2.out.below HBR.out).below HB2.out).below hz
            exact ⟨hT.row qi li, hT.val qi qj li lj, hU.row si ki, hU.val si sj ki kj⟩
          have HCF : Hid (∀ z, Below wo.heap.size wo z → z.cell? ⟨b1, o1 + qi, none⟩ = some (.slice (some ⟨g1 qi, r1 qi, none⟩) n1 (d1 qi)) ∧ z.cell? ⟨g1 qi, r1 qi + qj, none⟩ = some (.int .i64 (mu qi qj : Nat)) ∧ z.cell? ⟨b2, o2 + si, none⟩ = some (.slice (some ⟨g2 si, r2 si, none⟩) m (d2 si)) ∧ z.cell? ⟨g2 si, r2 si + sj, none⟩ = some (.int .i64 (nu si sj : Nat))) := Lib.hid fun z hz => by
            have hT := (HT1.out.below HBR.out).below hz
            have hU := (HT2.out.below HBR.out).below hz
            exact ⟨hT.row qi li, hT.val qi qj li lj, hU.row si ki, hU.val si sj ki kj⟩
          have m1 := HT1.out.mlt qi qj li lj
          have m2 := HT2.out.mlt si sj ki kj
          obtain ⟨e1, e2, e3, e4⟩ := HCE.out wr (Below.refl _ _)
          have hlen := rwL_len f k j
          have HSU := Lib.hid (rwL_succ f k j)
          rw [hfv] at HSU
          clear hqi hqj hsi hsj hfv
          generalize mu qi qj = X at *
          generalize nu si sj = Y at *
          have hp0 : (m : Int) * (X : Int) ≤ 40 * 40 := Int.mul_le_mul (by omega) (by omega) (by omega) (by omega)
          have hp1 : 0 ≤ (m : Int) * (X : Int) := Int.mul_nonneg (by omega) (by omega)
          have hw1 : IntKind.i64.wrap ((m : Int) * (X : Int)) = (m : Int) * (X : Int) := IntWalk.i64_in _ (by omega)
          have hw2 : IntKind.i64.wrap ((m : Int) * (X : Int) + (Y : Int)) = (m : Int) * (X : Int) + (Y : Int) := IntWalk.i64_in _ (by omega)
          have v1 : IntKind.i64.wrap (qi : Int) = (qi : Int) := IntWalk.i64_in _ (by omega)
          have v2 : IntKind.i64.wrap (qj : Int) = (qj : Int) := IntWalk.i64_in _ (by omega)
          have v3 : IntKind.i64.wrap (si : Int) = (si : Int) := IntWalk.i64_in _ (by omega)
          have v4 : IntKind.i64.wrap (sj : Int) = (sj : Int) := IntWalk.i64_in _ (by omega)
          have hmn : ¬ m = 0 := by omega
          have hm1 : 1 ≤ m := by omega
          have li' : (qi : Int) < (n1 : Int) := by omega
          have lj' : (qj : Int) < (n1 : Int) := by omega
          have ki' : (si : Int) < (m : Int) := by omega
          have kj' : (sj : Int) < (m : Int) := by omega
          obtain ⟨CL, hCL⟩ : ∃ CL, CL = rwL f k j := ⟨_, rfl⟩
          rw [← hCL] at hown2 hlen HSU
          have HHL := Lib.hid hlen
          have HOL := Lib.hid hown2
          clear hCL hlen hp0 hp1
          go_wp2_with fail
          go_region_held3 (fun w' => w'.cell? ⟨b1, o1 + qi, none⟩ = some (.slice (some ⟨g1 qi, r1 qi, none⟩) n1 (d1 qi)) ∧ w'.cell? ⟨g1 qi, r1 qi + qj, none⟩ = some (.int .i64 (X : Nat)) ∧ w'.cell? ⟨b2, o2 + si, none⟩ = some (.slice (some ⟨g2 si, r2 si, none⟩) m (d2 si)) ∧ w'.cell? ⟨g2 si, r2 si + sj, none⟩ = some (.int .i64 (Y : Nat))) (first | exact ⟨e1, e2, e3, e4⟩ | exact HCE.out _ ((Below.refl _ _).alloc (Nat.le_refl _) _) | exact HCE.out _ ((Below.refl _ _).alloc (Nat.le_refl _) _).drew | exact ⟨y1, y2, y3, y4⟩)
            (first
              | (refine step_append_own rfl (.tmp 47) (.tmp 73) 23 rfl wo.heap.size 2 i0 (.int .i64 0) 1 8 Try.underlying23 hi hz0 hz1 hz2 rfl (by decide) u9 CL.length (CL.map (Value.int .i64)) rfl (World.ownsRow.alloc HOL.out _) ⟨wr.heap.size, 0, none⟩ 1 1 [Value.int .i64 ((m : Int) * (X : Int) + (Y : Int))] rfl rfl (cell_one_new _ _ _) (ints_oneCell .i64 [(m : Int) * (X : Int) + (Y : Int)]) (by unfold maxLen; rw [HHL.out]; omega) (by rw [HHL.out]; omega) (Nat.le_trans hz2w (by simp)) ?_; intro v' w3 hown' hgrow; have HOW := Lib.hid hown'; have HB7 : Hid (Below wo.heap.size wo w3) := Lib.hid (Below.grown (w := (wr.alloc (.cells #[.int .i64 ((m : Int) * (X : Int) + (Y : Int))] 2)).drew) (HB2.out.alloc hz2w _).drew hgrow (Nat.le_trans hz2w (by simp)) (fun r e => (World.ownsRow.lt HOL.out r e).1)); obtain ⟨y1, y2, y3, y4⟩ := HCF.out w3 HB7.out; clear hown' hgrow))
          all_goals (
            have hown3 : Hid (Own w3 wo.heap.size v' (rwL f k (j + 1))) := by
              refine Lib.hid ?_
              unfold Own
              have h9 := HOW.out
              rw [HSU.out, List.map_append, List.length_append]
              exact h9
            have hb3 := HB7
            clear hown2 HOW HB7
            go_wp2_with fail
            go_roundw
            case rel => exact ⟨j + 1, by omega, by go_num, hown3.out, hb3.out⟩
            case measure => simp [intOf]; omega)
        · obtain rfl : j = N := by omega
          have hrl := rwL_len f k j
          obtain ⟨gu, cu, rfl, hgu, hgul⟩ := own_blk hown2 (fun e => by rw [e] at hrl; simp at hrl; omega)
          have HNE : Hid (rwL f k j ≠ []) := Lib.hid (fun e => by rw [e] at hrl; simp at hrl; omega)
          have HSU := Lib.hid (tbL_succ f j k)
          have HML := Lib.hid (tbL_len f j k)
          have HT3 := Lib.hid (HO.out.below HB2.out)
          have HOU := Lib.hid hown2
          have HNW : Hid (∀ i, i < (tbL f j k).length → (us.getD i undef).ownBlock ≠ (Value.slice (some ⟨gu, 0, none⟩) (rwL f k j).length cu).ownBlock) := Lib.hid fun i hi e => by
            obtain ⟨g2, c2, e2, _, hl2⟩ := own_blk (HO.out.row i hi) (HO.out.full i hi)
            rw [e2] at e
            simp [Value.ownBlock] at e
            omega
          have HBD := Lib.hid (halloc_at wr (.cells #[.slice (some ⟨gu, 0, none⟩) (rwL f k j).length cu] 23) _ rfl)
          clear hown2 hrl
          rw [rwL_len] at HOU HNW HBD ⊢
          obtain ⟨L, hL⟩ : ∃ L, L = rwL f k j := ⟨_, rfl⟩
          rw [← hL] at HNE HSU HOU
          clear hL
          go_wp2_with (at_builtin; refine wpList_appT rfl _ _ rfl w.heap.size _ us (tbL f j k) rfl (HT3.out.below ((Below.refl _ _).alloc (Nat.le_refl _) _)) wr.heap.size 1 _ L ((Turn.of_below (S := fun _ => False) ((Below.refl _ _).alloc (Nat.le_refl _) _)).own (Joins.ownsRow_le HOU.out hzw) (fun _ _ h => h)) HNE.out HNW.out rfl HBD.out (by rw [HML.out]; omega) (by simp; omega) ?_; intro v4 w4 hown4 hgrow4; have HO4 := Lib.hid hown4; have HB5 := Lib.hid (((HBR.out.trans (HB2.out.mono hzw)).alloc (by omega) _).grown hgrow4 (by simp; omega) (fun q e => (World.ownsRow.lt HT3.out.own q e).1)); clear hown4 hgrow4)
          go_roundw
          case rel => exact ⟨k + 1, _, by omega, by go_num, by rw [HSU.out]; exact HO4.out, HB5.out⟩
          case measure => simp [intOf]; omega
    · obtain rfl : k = N := by omega
      obtain ⟨ac, cc, rfl, hrd⟩ := HO.out.rdT (by rw [tbL_len]; omega) (fun j hj => by rw [tbL_len] at hj; rw [tbL_at _ _ _ _ hj, rwL_len]; omega)
      have HRD := Lib.hid hrd
      clear hrd HO
      go_wp2_with fail
      go_ret2
      exact ⟨ac, cc, rfl, HRD.out, mkF_tb300 f (by omega), HBR.out⟩

end Go.Proofs.Ytgiefgbpcjoieaa
