/- Tables of products in memory; the contract of (productTable).bringTogether. -/
import Derived.Test.YtoagpklippdlmaaNm
import Derived.StillTailTactics
namespace Go.Proofs.Ytoagpklippdlmaa
open Go.RowKit

/-- The products mu of the numbers below m lie in rows of blocks below K. -/
structure Tb (w : World) (K : Nat) (a : Option Addr) (m : Nat) (mu : Nat → Nat → Nat) : Prop where
  hK : K ≤ w.heap.size
  rows : ∃ b, a = some ⟨b, 0, none⟩ ∧ b < K ∧ ∀ i, i < m → ∃ g o c, g < K ∧ w.cell? ⟨b, i, none⟩ = some (.slice (some ⟨g, o, none⟩) m c) ∧ ∀ j, j < m → w.cell? ⟨g, o + j, none⟩ = some (.int .i64 (mu i j : Nat))

theorem Tb.below {w w' : World} {K : Nat} {a : Option Addr} {m : Nat} {mu : Nat → Nat → Nat} (h : Tb w K a m mu) (hb : Below K w w') : Tb w' K a m mu := by
  obtain ⟨b, ha, hbK, hr⟩ := h.rows
  refine ⟨Nat.le_trans h.hK hb.size, b, ha, hbK, fun i hi => ?_⟩
  obtain ⟨g, o, c, hg, hc, hcs⟩ := hr i hi
  exact ⟨g, o, c, hg, (hb.cell (p := ⟨b, i, none⟩) hbK).trans hc, fun j hj => (hb.cell (p := ⟨g, o + j, none⟩) hg).trans (hcs j hj)⟩

theorem Tb.up {w : World} {K K' : Nat} {a : Option Addr} {m : Nat} {mu : Nat → Nat → Nat} (h : Tb w K a m mu) (h1 : K ≤ K') (h2 : K' ≤ w.heap.size) : Tb w K' a m mu := by
  obtain ⟨b, ha, hbK, hr⟩ := h.rows
  refine ⟨h2, b, ha, by omega, fun i hi => ?_⟩
  obtain ⟨g, o, c, hg, hc, hcs⟩ := hr i hi
  exact ⟨g, o, c, by omega, hc, hcs⟩

theorem pro_succ (mu : Nat → Nat → Nat) (a b k i j : Nat) : (Pro mu false a b k i j ∨ (i = mu a k ∧ j = mu b k)) ↔ Pro mu false a b (k + 1) i j := by
  constructor
  · rintro (⟨c, hc, h⟩ | ⟨h1, h2⟩)
    · exact ⟨c, by omega, h⟩
    · exact ⟨k, by omega, Or.inl ⟨h1, h2⟩⟩
  · rintro ⟨c, hc, ⟨h1, h2⟩ | ⟨h1, _⟩⟩
    · rcases Nat.lt_succ_iff_lt_or_eq.1 hc with h | h
      · exact Or.inl ⟨c, h, Or.inl ⟨h1, h2⟩⟩
      · subst h; exact Or.inr ⟨h1, h2⟩
    · cases h1

theorem pro_succ2 (mu : Nat → Nat → Nat) (a b k i j : Nat) : ((Pro mu true a b k i j ∨ (i = mu a k ∧ j = mu b k)) ∨ (i = mu k a ∧ j = mu k b)) ↔ Pro mu true a b (k + 1) i j := by
  constructor
  · rintro ((⟨c, hc, h⟩ | ⟨h1, h2⟩) | ⟨h1, h2⟩)
    · exact ⟨c, by omega, h⟩
    · exact ⟨k, by omega, Or.inl ⟨h1, h2⟩⟩
    · exact ⟨k, by omega, Or.inr ⟨rfl, h1, h2⟩⟩
  · rintro ⟨c, hc, h⟩
    rcases Nat.lt_succ_iff_lt_or_eq.1 hc with e | e
    · exact Or.inl (Or.inl ⟨c, e, h⟩)
    · subst e
      rcases h with ⟨h1, h2⟩ | ⟨_, h1, h2⟩
      · exact Or.inl (Or.inr ⟨h1, h2⟩)
      · exact Or.inr ⟨h1, h2⟩

theorem pro_zero (mu : Nat → Nat → Nat) (s : Bool) (a b i j : Nat) : ¬ Pro mu s a b 0 i j := by rintro ⟨c, hc, _⟩; omega

/-- What bringing two numbers together comes to. -/
def Bt (m : Nat) (mu : Nat → Nat → Nat) (s : Bool) (r : Nat → Int) (a b : Nat) : Prop := ∀ (aT : Option Addr) (cT g K cN : Nat) (w : World), K ≤ g → Tb w K aT m mu → Nm w g m r →
  Calls Try.prog 84 #[.slice aT m cT, .slice (some ⟨g, 0, none⟩) m cN, .int .i64 (a : Nat), .int .i64 (b : Nat), .bool s] w fun e w' =>
    e = .returned (.tuple #[]) ∧ ∃ r', Nm w' g m r' ∧ Below K w w' ∧ Brg m mu s r r' (fun i j => i = a ∧ j = b)

set_option maxRecDepth 100000 in
set_option maxHeartbeats 2000000 in
theorem bt_same (m : Nat) (_ : m ≤ 300) (mu : Nat → Nat → Nat) (s : Bool) (r : Nat → Int) (a b : Nat) (ha : a < m) (hb : b < m) (he : r a = r b) : Bt m mu s r a b := by
  intro aT cT g K cN w hK ht hn
  have HN := Lib.hid hn
  have e1 := hn.cell ha
  have e2 := hn.cell hb
  have ha' : (a : Int) < (m : Int) := by omega
  have hb' : (b : Int) < (m : Int) := by omega
  rw [he] at e1
  have HE := Lib.hid (Brg.refl m mu s r (fun i j => i = a ∧ j = b) (by rintro i j _ _ ⟨rfl, rfl⟩; exact he))
  clear hn he ht
  generalize r b = Z at *
  go_enter Try.func84, Try.ntmps84
  go_wp2_with fail
  go_quiet (fail)
  go_wp2_with fail
  refine bodyPost_ret (results_none rfl _ _ _) rfl ?_
  exact ⟨rfl, r, HN.out.below (below_drewN (Below.refl _ _) _), below_drewN (Below.refl _ _) _, HE.out⟩

set_option maxRecDepth 100000 in
set_option maxHeartbeats 4000000 in
theorem bt_right (m : Nat) (hm : m ≤ 300) (mu : Nat → Nat → Nat) (hmu : ∀ a b, a < m → b < m → mu a b < m) (n : Nat) (hih : ∀ r, rkK r m ≤ n → ∀ a b, a < m → b < m → Bt m mu false r a b)
    (r : Nat → Int) (hr : rkK r m ≤ n + 1) (a b : Nat) (ha : a < m) (hb : b < m) (hne : r a ≠ r b) : Bt m mu false r a b := by
  intro aT cT g K cN w hK ht hn
  have hrk := rkK_rn r m a b ha hb hne
  have HN := Lib.hid hn
  have HT := Lib.hid ht
  have HMU := Lib.hid hmu
  have HIH := Lib.hid hih
  have e1 := hn.cell ha
  have e2 := hn.cell hb
  have ha' : (a : Int) < (m : Int) := by omega
  have hb' : (b : Int) < (m : Int) := by omega
  have hq : (r a == r b) = false := by simpa using hne
  have HNE := Lib.hid hne
  have HRN := Lib.hid fun w h => rename_any m (by omega) r g K cN (r a) (r b) w hK h
  have hr0 : ∃ r0, r0 = rn r (r a) (r b) := ⟨_, rfl⟩
  obtain ⟨r0, hr0⟩ := hr0
  rw [← hr0] at hrk HRN
  have HR0 := Lib.hid hr0
  clear hn hne ht hmu hih hr0
  obtain ⟨X, hX⟩ : ∃ X, X = r a := ⟨_, rfl⟩
  obtain ⟨Y, hY⟩ : ∃ Y, Y = r b := ⟨_, rfl⟩
  rw [← hX] at e1 hq HRN
  rw [← hY] at e2 hq HRN
  clear hX hY
  go_enter Try.func84, Try.ntmps84
  go_wp2_with fail
  go_quiet (fail)
  obtain ⟨wq, hwq⟩ : ∃ wq, wq = w.drewN nq := ⟨_, rfl⟩
  have HBQ : Hid (Below w.heap.size w wq) := Lib.hid (by rw [hwq]; exact below_drewN (Below.refl _ _) _)
  rw [← hwq]
  have HNQ := Lib.hid (HN.out.below HBQ.out)
  have e1 := HBQ.out.cell (p := ⟨g, a, none⟩) HN.out.lt |>.trans e1
  have e2 := HBQ.out.cell (p := ⟨g, b, none⟩) HN.out.lt |>.trans e2
  clear hwq
  go_wp2_with fail
  go_still_tail 9, (by kernel_rfl)
  go_wp2_with fail
  refine (HRN.out _ (HNQ.out.below (below_drewN (Below.refl _ _) _))).mono ?_
  rintro e w1 ⟨rfl, hn1, hb1⟩
  have hKw : K ≤ w.heap.size := HT.out.hK
  have HN1 := Lib.hid hn1
  have HB1 : Hid (Below K w w1) := Lib.hid ((below_drewN (HBQ.out.mono hKw) _).trans hb1)
  clear hn1 hb1 e1 e2
  go_wp2_with fail
  go_loopw [10, 32] (fun _ i wr => ∃ (k : Nat) (r' : Nat → Int), k ≤ m ∧ i = .int .i64 k ∧ Nm wr g m r' ∧ Below K w wr ∧ Brg m mu false r0 r' (Pro mu false a b k)) (fun _ i _ => m - (intOf i).toNat)
  case atStart => exact ⟨0, r0, by omega, rfl, HN1.out, HB1.out, Brg.refl m mu false r0 _ (fun i j _ _ h => absurd h (pro_zero mu false a b i j))⟩
  case round =>
    obtain ⟨k, r1, hk, rfl, hn1, hb1, hbr⟩ := hrel
    have HN2 := Lib.hid hn1
    have HB2 := Lib.hid hb1
    have HBR := Lib.hid hbr
    have hrk1 := hbr.rk
    clear hn1 hb1 hbr
    by_cases hkm : k < m
    · have hkm' : (k : Int) < (m : Int) := by omega
      obtain ⟨bT, rfl, hbT, hrows⟩ := (HT.out.below HB2.out).rows
      obtain ⟨ga, oa, ca, hga, hca, hcsa⟩ := hrows a ha
      obtain ⟨gb, ob, cb, hgb, hcb, hcsb⟩ := hrows b hb
      have x1 := hcsa k hkm
      have x2 := hcsb k hkm
      have hm1 := HMU.out a k ha hkm
      have hm2 := HMU.out b k hb hkm
      have hm3 := HMU.out k a hkm ha
      have hm4 := HMU.out k b hkm hb
      clear hrows hcsa hcsb
      go_wp2_with fail
      go_still_tail 17, (by kernel_rfl)
      go_wp2_with fail
      refine (HIH.out r1 (by omega) (mu a k) (mu b k) hm1 hm2 _ _ _ _ _ _ hK (HT.out.below (below_drewN HB2.out _)) (HN2.out.below (below_drewN (Below.refl _ _) _))).mono ?_
      rintro e w2 ⟨rfl, r2, hn2, hb2, hbr2⟩
      have HB2' : Hid (Below K w w2) := Lib.hid ((below_drewN HB2.out _).trans hb2)
      have HBR2 := Lib.hid ((HBR.out.trans HMU.out hbr2).weak (fun i j => pro_succ mu a b k i j))
      have hrk2 := hbr2.rk
      have HN2' := Lib.hid hn2
      clear hn2 hb2 hbr2 HN2 HB2
      have HN2 := HN2'
      have HB2 := HB2'
      clear HN2' HB2' x1 x2 hca hcb
      go_wp2_with fail
      go_roundw
      case rel => exact ⟨k + 1, r2, by omega, by go_num, HN2.out, HB2.out, HBR2.out⟩
      case measure => simp [intOf]; omega
    · obtain rfl : k = m := by omega
      go_wp2_with fail
      go_end0
      have hfin := HBR.out
      rw [HR0.out] at hfin
      exact ⟨rfl, r1, HN2.out, HB2.out, hfin.round HMU.out ha hb HNE.out⟩

set_option maxRecDepth 100000 in
set_option maxHeartbeats 4000000 in
theorem bt_both (m : Nat) (hm : m ≤ 300) (mu : Nat → Nat → Nat) (hmu : ∀ a b, a < m → b < m → mu a b < m) (n : Nat) (hih : ∀ r, rkK r m ≤ n → ∀ a b, a < m → b < m → Bt m mu true r a b)
    (r : Nat → Int) (hr : rkK r m ≤ n + 1) (a b : Nat) (ha : a < m) (hb : b < m) (hne : r a ≠ r b) : Bt m mu true r a b := by
  intro aT cT g K cN w hK ht hn
  have hrk := rkK_rn r m a b ha hb hne
  have HN := Lib.hid hn
  have HT := Lib.hid ht
  have HMU := Lib.hid hmu
  have HIH := Lib.hid hih
  have e1 := hn.cell ha
  have e2 := hn.cell hb
  have ha' : (a : Int) < (m : Int) := by omega
  have hb' : (b : Int) < (m : Int) := by omega
  have hq : (r a == r b) = false := by simpa using hne
  have HNE := Lib.hid hne
  have HRN := Lib.hid fun w h => rename_any m (by omega) r g K cN (r a) (r b) w hK h
  have hr0 : ∃ r0, r0 = rn r (r a) (r b) := ⟨_, rfl⟩
  obtain ⟨r0, hr0⟩ := hr0
  rw [← hr0] at hrk HRN
  have HR0 := Lib.hid hr0
  clear hn hne ht hmu hih hr0
  obtain ⟨X, hX⟩ : ∃ X, X = r a := ⟨_, rfl⟩
  obtain ⟨Y, hY⟩ : ∃ Y, Y = r b := ⟨_, rfl⟩
  rw [← hX] at e1 hq HRN
  rw [← hY] at e2 hq HRN
  clear hX hY
  go_enter Try.func84, Try.ntmps84
  go_wp2_with fail
  go_quiet (fail)
  obtain ⟨wq, hwq⟩ : ∃ wq, wq = w.drewN nq := ⟨_, rfl⟩
  have HBQ : Hid (Below w.heap.size w wq) := Lib.hid (by rw [hwq]; exact below_drewN (Below.refl _ _) _)
  rw [← hwq]
  have HNQ := Lib.hid (HN.out.below HBQ.out)
  have e1 := HBQ.out.cell (p := ⟨g, a, none⟩) HN.out.lt |>.trans e1
  have e2 := HBQ.out.cell (p := ⟨g, b, none⟩) HN.out.lt |>.trans e2
  clear hwq
  go_wp2_with fail
  go_still_tail 9, (by kernel_rfl)
  go_wp2_with fail
  refine (HRN.out _ (HNQ.out.below (below_drewN (Below.refl _ _) _))).mono ?_
  rintro e w1 ⟨rfl, hn1, hb1⟩
  have hKw : K ≤ w.heap.size := HT.out.hK
  have HN1 := Lib.hid hn1
  have HB1 : Hid (Below K w w1) := Lib.hid ((below_drewN (HBQ.out.mono hKw) _).trans hb1)
  clear hn1 hb1 e1 e2
  go_wp2_with fail
  go_loopw [10, 32] (fun _ i wr => ∃ (k : Nat) (r' : Nat → Int), k ≤ m ∧ i = .int .i64 k ∧ Nm wr g m r' ∧ Below K w wr ∧ Brg m mu true r0 r' (Pro mu true a b k)) (fun _ i _ => m - (intOf i).toNat)
  case atStart => exact ⟨0, r0, by omega, rfl, HN1.out, HB1.out, Brg.refl m mu true r0 _ (fun i j _ _ h => absurd h (pro_zero mu true a b i j))⟩
  case round =>
    obtain ⟨k, r1, hk, rfl, hn1, hb1, hbr⟩ := hrel
    have HN2 := Lib.hid hn1
    have HB2 := Lib.hid hb1
    have HBR := Lib.hid hbr
    have hrk1 := hbr.rk
    clear hn1 hb1 hbr
    by_cases hkm : k < m
    · have hkm' : (k : Int) < (m : Int) := by omega
      obtain ⟨bT, rfl, hbT, hrows⟩ := (HT.out.below HB2.out).rows
      obtain ⟨ga, oa, ca, hga, hca, hcsa⟩ := hrows a ha
      obtain ⟨gb, ob, cb, hgb, hcb, hcsb⟩ := hrows b hb
      have x1 := hcsa k hkm
      have x2 := hcsb k hkm
      obtain ⟨gk, ok, ck, hgk, hck, hcsk⟩ := hrows k hkm
      have y1 := hcsk a ha
      have y2 := hcsk b hb
      have hm1 := HMU.out a k ha hkm
      have hm2 := HMU.out b k hb hkm
      have hm3 := HMU.out k a hkm ha
      have hm4 := HMU.out k b hkm hb
      clear hrows hcsa hcsb hcsk
      go_wp2_with fail
      go_still_tail 17, (by kernel_rfl)
      go_wp2_with fail
      refine (HIH.out r1 (by omega) (mu a k) (mu b k) hm1 hm2 _ _ _ _ _ _ hK (HT.out.below (below_drewN HB2.out _)) (HN2.out.below (below_drewN (Below.refl _ _) _))).mono ?_
      rintro e w2 ⟨rfl, r2, hn2, hb2, hbr2⟩
      have HB2' : Hid (Below K w w2) := Lib.hid ((below_drewN HB2.out _).trans hb2)
      have HBR2 := Lib.hid ((HBR.out.trans HMU.out hbr2))
      have hrk2 := hbr2.rk
      have z1 := (hb2.cell (p := ⟨bT, k, none⟩) hbT).trans (by first | exact hck | (rw [World.cell?_drewN]; exact hck))
      have z2 := (hb2.cell (p := ⟨gk, ok + a, none⟩) hgk).trans (by first | exact y1 | (rw [World.cell?_drewN]; exact y1))
      have z3 := (hb2.cell (p := ⟨gk, ok + b, none⟩) hgk).trans (by first | exact y2 | (rw [World.cell?_drewN]; exact y2))
      have HN2' := Lib.hid hn2
      clear hn2 hb2 hbr2 HN2 HB2
      have HN2 := HN2'
      have HB2 := HB2'
      clear HN2' HB2' x1 x2 hca hcb hck y1 y2
      go_wp2_with fail
      go_still_tail 17, (by kernel_rfl)
      go_wp2_with fail
      refine (HIH.out r2 (by omega) (mu k a) (mu k b) hm3 hm4 _ _ _ _ _ _ hK (HT.out.below (HB2.out.trans (below_drewN (Below.refl _ _) _))) (HN2.out.below (below_drewN (Below.refl _ _) _))).mono ?_
      rintro e w3 ⟨rfl, r3, hn3, hb3, hbr3⟩
      have HB3 : Hid (Below K w w3) := Lib.hid ((below_drewN HB2.out _).trans hb3)
      have HN3 := Lib.hid hn3
      have HBR3 := Lib.hid ((HBR2.out.trans HMU.out hbr3).weak (fun i j => pro_succ2 mu a b k i j))
      clear hn3 hb3 hbr3
      go_wp2_with fail
      go_roundw
      case rel => exact ⟨k + 1, r3, by omega, by go_num, HN3.out, HB3.out, HBR3.out⟩
      case measure => simp [intOf]; omega
    · obtain rfl : k = m := by omega
      go_wp2_with fail
      go_end0
      have hfin := HBR.out
      rw [HR0.out] at hfin
      exact ⟨rfl, r1, HN2.out, HB2.out, hfin.round HMU.out ha hb HNE.out⟩

theorem bt_any (m : Nat) (hm : m ≤ 300) (mu : Nat → Nat → Nat) (hmu : ∀ a b, a < m → b < m → mu a b < m) (s : Bool) : ∀ (n : Nat) (r : Nat → Int), rkK r m ≤ n → ∀ a b, a < m → b < m → Bt m mu s r a b := by
  intro n
  induction n with
  | zero =>
    intro r hr a b ha _
    have := rkK_pos r m (by omega)
    omega
  | succ n ih =>
    intro r hr a b ha hb
    by_cases he : r a = r b
    · exact bt_same m hm mu s r a b ha hb he
    · cases s
      · exact bt_right m hm mu hmu n ih r hr a b ha hb he
      · exact bt_both m hm mu hmu n ih r hr a b ha hb he

end Go.Proofs.Ytoagpklippdlmaa
