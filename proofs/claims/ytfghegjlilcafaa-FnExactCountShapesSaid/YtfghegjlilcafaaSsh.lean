/- The contract of spec.CountShapes. -/
import Derived.Test.YtfghegjlilcafaaMkb
import Derived.Deep.RegionLaw
namespace Go.Proofs.Ytfghegjlilcafaa
open Go Go.RowKit

theorem d5_lt (y i : Nat) : d5 y i < 5 := by
  unfold d5
  repeat' split
  all_goals exact Nat.mod_lt _ (by omega)
theorem idK_lt {n y : Nat} (h5 : n ≤ 5) : ∀ t, idK n y t < 5 ^ t
  | 0 => by simp [idK]
  | t + 1 => by
    have := idK_lt (y := y) h5 t
    have hd := d5_lt y t
    have e : idK n y (t + 1) = idK n y t * n + d5 y t := rfl
    have h2 : idK n y t * n ≤ idK n y t * 5 := Nat.mul_le_mul_left _ h5
    rw [e, Nat.pow_succ]
    omega

set_option maxRecDepth 100000 in
set_option maxHeartbeats 4000000 in
theorem sshp_ok (n : Nat) (hn1 : 1 ≤ n) (hn5 : n ≤ 5) (w : World) :
    Calls Try.prog 33 #[.int .i64 (n : Int)] w fun e w' => e = .returned (.tuple #[.int .i64 (shK n (n ^ n) : Int), .int .i64 0]) ∧ Below w.heap.size w w' := by
  have HI := fun w => in_any (n : Int) 1 5 w
  rw [show inB (n : Int) 1 5 = true by simp [inB]; omega] at HI
  have HI := Lib.hid HI
  have HO := Lib.hid fun g cap w h => sord0 n hn1 hn5 g cap w h
  have HA := Lib.hid fun w => sall_any n hn1 hn5 w
  have HLN := Lib.hid (ol_len hn1 hn5)
  have HAL := Lib.hid (allM_len n (n ^ n))
  have HAT := Lib.hid fun k (h : k < n ^ n) => allM_at (n := n) h z0
  have hN := pow_le hn1 hn5
  have hmk := make_boolsN (n ^ n) hN
  have HSO : Hid (∀ i, mtB n i (cdN n i) = true → shK n (i + 1) = shK n i) := Lib.hid fun i h => shK_old h
  have HSN : Hid (∀ i, mtB n i (cdN n i) = false → shK n (i + 1) = shK n i + 1) := Lib.hid fun i h => shK_new h
  have HRV : Hid (∀ i k, k < (olN n).length → vld (n : Int) (rnC n (cdN n i) ((olN n).getD k 0))) := Lib.hid fun i k hk => rn_vld hn1 hn5 (cdN_vld hn1 hn5) (getD_in k hk)
  have HRN : Hid (∀ i k, k < (olN n).length → ∀ w, Calls Try.prog 62 #[mv (n : Int) (dgF n i), mv (n : Int) (dcd ((olN n).getD k 0))] w fun e w' => e = .returned (mv (n : Int) (dcd (rnC n (cdN n i) ((olN n).getD k 0)))) ∧ Below w.heap.size w w') := Lib.hid fun i k hk w => by
    have h := srn_any hn1 hn5 (cdN_vld (k := i) hn1 hn5) (getD_in k hk) w
    have e : mv (n : Int) (dcd (cdN n i)) = mv (n : Int) (dgF n i) := by unfold mv cdN; rw [mcells_ecd (dgF_ok hn1 hn5)]
    rw [e] at h
    exact h
  have HID : Hid (∀ y, vld (n : Int) y → idN n y < n ^ n) := Lib.hid fun y h => (id_any hn1 hn5 h).1
  have HHS : Hid (∀ i k j, hitB n (cdN n i) (olN n) (k + 1) j = (hitB n (cdN n i) (olN n) k j || (idN n (rnC n (cdN n i) ((olN n).getD k 0)) == j))) := Lib.hid fun i k j => hitB_succ _ _ _ _ _
  have HHA : Hid (∀ i j, j < n ^ n → hitB n (cdN n i) (olN n) (olN n).length j = (lfC n (cdN n i) == lfC n (cdN n j))) := Lib.hid fun i j hj => hitB_all hn1 hn5 hj
  have HSL := Lib.hid (shK_le n)
  obtain ⟨O, hO⟩ : ∃ O, O = olN n := ⟨_, rfl⟩
  rw [← hO] at HO HLN HRV HRN HHS HHA
  obtain ⟨N, hNe⟩ : ∃ N, N = n ^ n := ⟨_, rfl⟩
  rw [← hNe] at HA HAL HAT hN hmk HID HHA ⊢
  clear hO hNe
  go_enter Try.func33, Try.ntmps33
  go_wp2_with (go_at_call 66; refine (HI.out _).mono ?_; rintro e w ⟨rfl, rfl⟩)
  refine (HO.out _ _ _ (by simp)).mono ?_
  rintro e w3 ⟨v3, rfl, ho3, hb3⟩
  obtain ⟨a3, cap3, rfl, hr3⟩ := ownM_rd ho3 (by rw [moL_len]; have := HLN.out; omega)
  rw [moL_len] at *
  have hs3 := hb3.size
  have HB3 := Lib.hid hb3
  have HR3 := Lib.hid hr3
  clear ho3 hb3 hr3
  go_wp2_with fail
  refine (HA.out _).mono ?_
  rintro e w5 ⟨v5, rfl, ho5, hb5⟩
  obtain ⟨a5, cap5, rfl, hr5⟩ := ownM_rd ho5 (by rw [HAL.out]; omega)
  rw [HAL.out]
  have hs5 := hb5.size
  have HR5 := Lib.hid hr5
  have HR35 := Lib.hid (HR3.out.below hb5)
  have HB5 := Lib.hid hb5
  clear ho5 hb5 hr5
  go_wp2_with fail
  have HMT0 : Hid (MtS (w5.alloc (.cells (madeCells #[.bool false] N) 4)) w5.heap.size N (fun j => mtB n 0 (cdN n j))) := Lib.hid (mtS_new1 N w5)
  clear hmk
  go_loopw [7, 8, 9, 10, 11, 12] (fun s7 s8 _ _ _ _ wr => ∃ i : Nat, i ≤ N ∧ s8 = .int .i64 (i : Int) ∧ s7 = .int .i64 (shK n i : Int) ∧ MtS wr w5.heap.size N (fun j => mtB n i (cdN n j)) ∧ Below w5.heap.size w5 wr) (fun _ s8 _ _ _ _ _ => N - (intOf s8).toNat)
  case atStart => exact ⟨0, by omega, rfl, rfl, HMT0.out, (Below.refl _ _).alloc (Nat.le_refl _) _⟩
  case round =>
    obtain ⟨i, hi, rfl, rfl, hmt, hb⟩ := hrel
    have HMT := Lib.hid hmt
    have HBR := Lib.hid hb
    have hsr := hb.size
    have hsl := HSL.out i
    have hmtl := hmt.1
    clear hb
    by_cases hiN : i < N
    · have hiN' : (i : Int) < (N : Int) := by omega
      have c0 : wr.cell? ⟨w5.heap.size, i, none⟩ = some (.bool (mtB n i (cdN n i))) := (hmt.2 i hiN).1
      cases hm : mtB n i (cdN n i)
      · have HS1 := Lib.hid (HSN.out i hm)
        rw [hm] at c0
        clear hm hmt
        obtain ⟨wo, hwo⟩ : ∃ wo, wo = wr := ⟨_, rfl⟩
        subst hwo
        generalize shK n i = z at *
        go_wp2_with fail
        go_loopw [9, 10, 11, 12] (fun s9 _ _ _ wq => ∃ k : Nat, k ≤ O.length ∧ s9 = .int .i64 (k : Int) ∧ MtS wq w5.heap.size N (fun j => mtB n i (cdN n j) || hitB n (cdN n i) O k j) ∧ Below w5.heap.size w5 wq) (fun s9 _ _ _ _ => O.length - (intOf s9).toNat)
        case atStart => exact ⟨0, by omega, rfl, HMT.out.congr (fun j _ => by rw [hitB_zero, Bool.or_false]), HBR.out⟩
        case round =>
          obtain ⟨k, hk, rfl, hmt, hb⟩ := hrel
          have hlo := HLN.out
          have HMK := Lib.hid hmt
          have HBK := Lib.hid hb
          have hsk := hb.size
          have hmkl := hmt.1
          clear hmt
          by_cases hkO : k < O.length
          · have hkO' : (k : Int) < (O.length : Int) := by omega
            have hra := HR5.out.below hb
            obtain ⟨ga, rfl, hat⟩ := hra.at6 i (by rw [HAL.out]; exact hiN)
            have hgal := hra.lt9 (by rw [HAL.out]; omega)
            rw [HAT.out i hiN] at hat
            obtain ⟨x0, x1, x2, x3, x4, x5⟩ := hat
            have hro := HR35.out.below hb
            obtain ⟨go, rfl, hat⟩ := hro.at6 k (by rw [moL_len]; exact hkO)
            have hgol := hro.lt9 (by rw [moL_len]; omega)
            rw [moL_at (n : Int) O k hkO] at hat
            obtain ⟨y0, y1, y2, y3, y4, y5⟩ := hat
            simp only [] at x0 x1 x2 x3 x4 x5 y0 y1 y2 y3 y4 y5
            have hrn := HRN.out i k hkO
            have hrv := HRV.out i k hkO
            have HHS1 := Lib.hid (HHS.out i k)
            have HID1 := Lib.hid (HID.out _ hrv)
            generalize rnC n (cdN n i) (O.getD k 0) = R at *
            generalize O.getD k 0 = q at *
            generalize dgF n i = f at *
            simp only [mv, mcells] at hrn
            have HRN1 := Lib.hid hrn
            have HVR := Lib.hid hrv
            clear hrn hrv hra hro hb c0
            go_upto_region 13 with fail
            go_cut [10, 11] from 42 to 50 (fun s10 s11 wx => s10 = .int .i64 0 ∧ ∃ b, s11 = .pointer (some ⟨b, 0, none⟩) ∧ wr.heap.size ≤ b ∧ At5 wx b (n : Int) R ∧ Below wr.heap.size wr wx)
            case first =>
              go_region_law (first | (go_simp; go_at_call 62; refine (HRN1.out _).mono ?_; rintro e w1 ⟨rfl, hb⟩; have Hb := Lib.hid hb; have hz := hb.size; (try (have hq := (hb.block wr.heap.size (by simp)).trans (show (wr.alloc (.cells (mcells 0 fun _ => 0) 28)).drew.heap[wr.heap.size]? = some (.cells (mcells 0 fun _ => 0) 28 (0, 0)) from halloc_at _ _ _ rfl); obtain ⟨q0, q1, q2, q3, q4, q5⟩ := blk6 hq; have hfz := blk_free hq; have HQ := Lib.hid hq; have hzq : wr.heap.size < w1.heap.size := (Array.getElem?_eq_some_iff.1 hq).1; clear hq)); clear hb; (try simp at hz)))
              all_goals (go_wp2_with fail)
              all_goals (go_meet)
              all_goals refine ⟨rfl, ?_⟩
              all_goals first
                | exact ⟨_, rfl, ((Below.refl wr.heap.size wr).drew.trans Hb.out).size, halloc_at _ _ _ rfl, ((Below.refl wr.heap.size wr).drew.trans Hb.out).alloc ((Below.refl wr.heap.size wr).drew.trans Hb.out).size _⟩
                | exact ⟨_, rfl, Nat.le_refl _, set6_at5 (t := dcd R) HQ.out, below_set6 (((Below.refl wr.heap.size wr).alloc (Nat.le_refl _) _).drew.trans (Hb.out.mono (by simp))) (Nat.le_refl _)⟩
            case rest =>
              obtain ⟨rfl, b, rfl, hbl, hbo, hbc⟩ := hcut
              have HBC := Lib.hid hbc
              have HBO := Lib.hid hbo
              have HMC := Lib.hid (HMK.out.below hbc)
              clear x0 x1 x2 x3 x4 x5 y0 y1 y2 y3 y4 y5 hbo hbc
              go_wp2_with fail
              go_loop [10, 12] (fun s10 s12 => ∃ t : Nat, t ≤ n ∧ s12 = .int .i64 (t : Int) ∧ s10 = .int .i64 (idK n R t : Int)) (fun _ s12 => n - (intOf s12).toNat)
              case atStart => exact ⟨0, by omega, rfl, rfl⟩
              case round =>
                obtain ⟨t, ht, rfl, rfl⟩ := hrel
                have hi1 := idK_lt (n := n) (y := R) hn5 t
                have hp5 : 5 ^ t ≤ 5 ^ 5 := Nat.pow_le_pow_right (by omega) (by omega)
                have h55 : (5 : Nat) ^ 5 = 3125 := by decide
                by_cases htn : t < n
                · have htn' : (t : Int) < (n : Int) := by omega
                  have ht5 : (t : Int) < 5 := by omega
                  have e0 := blk_at HBO.out t (by omega)
                  rw [dcd_d5 R t (by omega)] at e0
                  have hd := d5_lt R t
                  have HIK : Hid (((idK n R (t + 1) : Nat) : Int) = (idK n R t : Int) * (n : Int) + (d5 R t : Int)) := Lib.hid (by
                    show ((idK n R t * n + d5 R t : Nat) : Int) = _
                    rw [Int.natCast_add, Int.natCast_mul])
                  have hb1 : (idK n R t : Int) * (n : Int) ≤ 3125 * 5 := by
                    have h2 : idK n R t * n ≤ 3125 * 5 := Nat.mul_le_mul (by omega) hn5
                    have h3 : ((idK n R t * n : Nat) : Int) = (idK n R t : Int) * (n : Int) := Int.natCast_mul _ _
                    omega
                  have hb0 : 0 ≤ (idK n R t : Int) * (n : Int) := Int.mul_nonneg (by omega) (by omega)
                  clear hp5 h55 hi1
                  generalize idK n R t = I0 at *
                  generalize d5 R t = D at *
                  go_wp2_with fail
                  go_round
                  case rel => exact ⟨t + 1, by omega, by go_num, by rw [HIK.out]⟩
                  case measure => simp [intOf]; omega
                · obtain rfl : t = n := by omega
                  have hid := HID1.out
                  have hidI : ((idK t R t : Nat) : Int) < (N : Int) := by have : idN t R = idK t R t := rfl; omega
                  have HMS := Lib.hid (HMC.out.set (idK t R t) hid)
                  have c1 := (HMC.out.2 (idK t R t) hid).1
                  have c2 := (HMC.out.2 (idK t R t) hid).2
                  have HEQ : Hid (idN t R = idK t R t) := Lib.hid rfl
                  rw [HEQ.out] at HHS1
                  generalize idK t R t = I0 at *
                  go_wp2_with fail
                  refine ⟨⟨k + 1, by omega, by go_num, HMS.out.congr (fun j _ => ?_), (HBK.out.trans (HBC.out.mono hsk)).setCell (Nat.le_refl _) _⟩, by simp [intOf]; omega⟩
                  rw [HHS1.out]
                  unfold setB9
                  by_cases e : j = I0
                  · rw [if_pos e, e]; simp
                  · rw [if_neg e, show (I0 == j) = false from by rw [beq_eq_false_iff_ne]; exact fun q => e q.symm, Bool.or_false]
          · obtain rfl : k = O.length := by omega
            have hkO' : ¬ ((O.length : Int) < (O.length : Int)) := by omega
            go_wp2_with fail
            go_roundw
            case rel =>
              refine ⟨i + 1, by omega, by go_num, by rw [HS1.out]; rfl, HMK.out.congr (fun j hj => ?_), HBK.out⟩
              rw [HHA.out i j hj, mtB_succ]
            case measure => simp [intOf]; omega
      · have HS1 := Lib.hid (HSO.out i hm)
        have HOLD := Lib.hid (mtB_old hm)
        rw [hm] at c0
        clear hm hmt
        go_wp2_with fail
        go_roundw
        case rel => exact ⟨i + 1, by omega, by go_num, by rw [HS1.out], HMT.out.congr (fun j hj => by rw [HOLD.out]), HBR.out⟩
        case measure => simp [intOf]; omega
    · obtain rfl : i = N := by omega
      have hiN' : ¬ ((i : Int) < (i : Int)) := by omega
      clear hmt
      go_wp2_with fail
      go_ret2
      exact ⟨rfl, (((Below.refl w.heap.size w).alloc (Nat.le_refl _) _).trans (HB3.out.mono (by simp))).trans ((HB5.out.trans (HBR.out.mono hs5)).mono (by simp at hs3; omega))⟩

set_option maxHeartbeats 1000000 in
theorem sshp_any (x : Int) (w : World) :
    Calls Try.prog 33 #[.int .i64 x] w fun e w' => e = .returned (shV x) ∧ Below w.heap.size w w' := by
  by_cases hx : 1 ≤ x ∧ x ≤ 5
  · obtain ⟨n, rfl⟩ := Int.eq_ofNat_of_zero_le (show 0 ≤ x by omega)
    rw [shV_yes (by omega) (by omega)]
    exact sshp_ok n (by omega) (by omega) w
  · rw [shV_no hx]
    have HI := fun w => in_any x 1 5 w
    have hf : inB x 1 5 = false := by
      rw [Bool.eq_false_iff]
      intro h
      exact hx (inB_true.1 h)
    rw [hf] at HI
    have HI := Lib.hid HI
    clear hf hx
    go_enter Try.func33, Try.ntmps33
    go_wp2_with (go_at_call 66; refine (HI.out _).mono ?_; rintro e w ⟨rfl, rfl⟩)
    go_ret2
    exact ⟨rfl, Below.refl _ _⟩

end Go.Proofs.Ytfghegjlilcafaa
