/- Invariant partitions and the maps of classes, told without Go. The contracts of spec.l06Is, spec.l10Partition, spec.l10Given, spec.l06Number and spec.l10Invariant. The contracts of spec.l10Invariant and spec.l06Number. -/
import Derived.Test.YtpphihjbgikjkaaDoorPcl
import Derived.Test.YtpphihjbgikjkaaDoorRso
import Derived.Test.YtpphihjbgikjkaaDoorGiven
import Derived.Deep.DeepCutAuto
namespace Go.Proofs.YtpphihjbgikjkaaDoor
open Go Go.RowKit

/-- Whether a map leads points of one class to points of one class. -/
def invT (P : List Int) (t : Nat → Int) (n : Nat) : Bool := (List.range n).all fun a => (List.range n).all fun b => !(P.getD a 0 == P.getD b 0) || P.getD (t a).toNat 0 == P.getD (t b).toNat 0
theorem invT_iff {P : List Int} {t : Nat → Int} {n : Nat} : invT P t n = true ↔ ∀ a, a < n → ∀ b, b < n → P.getD a 0 = P.getD b 0 → P.getD (t a).toNat 0 = P.getD (t b).toNat 0 := by
  unfold invT
  simp only [List.all_eq_true, List.mem_range, Bool.or_eq_true, Bool.not_eq_true', beq_eq_false_iff_ne, beq_iff_eq]
  constructor
  · intro h a ha b hb e
    rcases h a ha b hb with h | h
    · exact absurd e h
    · exact h
  · intro h a ha b hb
    by_cases e : P.getD a 0 = P.getD b 0
    · exact Or.inr (h a ha b hb e)
    · exact Or.inl e
theorem invT_no {P : List Int} {t : Nat → Int} {n a b : Nat} (ha : a < n) (hb : b < n) (e : P.getD a 0 = P.getD b 0) (h : P.getD (t a).toNat 0 ≠ P.getD (t b).toNat 0) : invT P t n = false := by
  rw [Bool.eq_false_iff]; intro hi; exact h (invT_iff.1 hi a ha b hb e)
/-- Whether a partition is invariant. -/
def invB (L : List MapN) (P : List Int) (n : Nat) : Bool := (List.range L.length).all fun i => invT P (L.getD i z0).2 n
theorem invB_iff {L : List MapN} {P : List Int} {n : Nat} : invB L P n = true ↔ ∀ i, i < L.length → invT P (L.getD i z0).2 n = true := by
  unfold invB
  rw [List.all_eq_true]
  exact ⟨fun h i hi => h i (List.mem_range.2 hi), fun h i hi => h i (List.mem_range.1 hi)⟩
theorem invB_no {L : List MapN} {P : List Int} {n i : Nat} (hi : i < L.length) (h : invT P (L.getD i z0).2 n = false) : invB L P n = false := by
  rw [Bool.eq_false_iff]; intro hb; rw [invB_iff.1 hb i hi] at h; cases h

/-- The first point of a class. -/
def fpC (P : List Int) (n c : Nat) : Nat := ((rowP P c n).getD 0 0).toNat
theorem fpC_in {P : List Int} {n c : Nat} (h : ∀ j, j < n → okP P j = true) (hc : c < nxK P n) : (rowP P c n).getD 0 0 = (fpC P n c : Int) ∧ fpC P n c < n ∧ P.getD (fpC P n c) 0 = (c : Int) := by
  have hne := rowP_full h hc
  have hm : (rowP P c n).getD 0 0 ∈ rowP P c n := by
    cases hr : rowP P c n with
    | nil => exact absurd hr hne
    | cons x l => simp
  obtain ⟨p, e, h1, h2⟩ := rowP_mem.1 hm
  have : fpC P n c = p := by unfold fpC; rw [e]; rfl
  rw [this]
  exact ⟨e, h1, h2⟩
/-- The images of the first k classes. -/
def qmK (P : List Int) (t : Nat → Int) (n k : Nat) : Nat → Int := fun c => if c < k then P.getD (t (fpC P n c)).toNat 0 else 0
def qmF (P : List Int) (t : Nat → Int) (n : Nat) : Nat → Int := qmK P t n (nxK P n)
theorem qmK_succ (P : List Int) (t : Nat → Int) (n k : Nat) : upd (qmK P t n k) k (P.getD (t (fpC P n k)).toNat 0) = qmK P t n (k + 1) := by
  funext c
  unfold upd qmK
  by_cases e : c = k
  · subst e; simp
  · rw [if_neg e]
    by_cases h : c < k
    · rw [if_pos h, if_pos (by omega)]
    · rw [if_neg h, if_neg (by omega)]
theorem qmK_zero (P : List Int) (t : Nat → Int) (n : Nat) : qmK P t n 0 = fun _ => 0 := by funext c; simp [qmK]
theorem qmK_at (P : List Int) (t : Nat → Int) (n k c : Nat) (h : c < k) : qmK P t n k c = P.getD (t (fpC P n c)).toNat 0 := by unfold qmK; rw [if_pos h]

/-- All points of the classes led as the first ones are: the partition is kept. -/
theorem invT_of {P : List Int} {t : Nat → Int} {n : Nat} (h : ∀ j, j < n → okP P j = true) (hq : ∀ c, c < nxK P n → ∀ p, p < n → P.getD p 0 = (c : Int) → P.getD (t p).toNat 0 = P.getD (t (fpC P n c)).toNat 0) : invT P t n = true := by
  refine invT_iff.2 fun a ha b hb e => ?_
  obtain ⟨h0, h1⟩ := par_lt h ha
  obtain ⟨c, hc⟩ := Int.eq_ofNat_of_zero_le h0
  rw [hq c (by omega) a ha hc, hq c (by omega) b hb (by rw [← e]; exact hc)]

theorem rowP_at {P : List Int} {c n j : Nat} (hj : j < (rowP P c n).length) : ∃ p : Nat, (rowP P c n).getD j 0 = (p : Int) ∧ p < n ∧ P.getD p 0 = (c : Int) := by
  have hm : (rowP P c n).getD j 0 ∈ rowP P c n := by
    rw [List.getD_eq_getElem?_getD, List.getElem?_eq_getElem hj]
    exact List.getElem_mem hj
  exact rowP_mem.1 hm
theorem rowP_has {P : List Int} {c n p : Nat} (hp : p < n) (h : P.getD p 0 = (c : Int)) : ∃ j, j < (rowP P c n).length ∧ (rowP P c n).getD j 0 = (p : Int) := by
  obtain ⟨j, hj, e⟩ := List.getElem_of_mem (rowP_mem.2 ⟨p, rfl, hp, h⟩)
  exact ⟨j, hj, by rw [List.getD_eq_getElem?_getD, List.getElem?_eq_getElem hj]; exact e⟩

end Go.Proofs.YtpphihjbgikjkaaDoor

namespace Go.Proofs.YtpphihjbgikjkaaDoor
open Go Go.RowKit

set_option maxRecDepth 100000 in
set_option maxHeartbeats 2000000 in
theorem sis10_any (P : List Int) (m : Nat) (hm : m ≤ 5) (a : Option Addr) (c : Nat) (w : World) (hr : InRow w a P) :
    Calls Tryd.prog 70 #[.slice a P.length c, .int .i64 (m : Int)] w fun e w' => e = .returned (.bool (parB P m)) ∧ w' = w := by
  have HR := Lib.hid hr
  clear hr
  by_cases hl : P.length = m
  · obtain ⟨B, hB⟩ : ∃ B, B = parB P m := ⟨_, rfl⟩
    have HB := Lib.hid hB
    rw [← hB]
    have hq : ((P.length : Int) != (m : Int)) = false := by simp [hl]
    have HL := Lib.hid hl
    obtain ⟨l, hll⟩ : ∃ l, l = P.length := ⟨_, rfl⟩
    have HLL := Lib.hid hll
    rw [← hll] at hq ⊢
    clear hB hl hll
    go_enter Tryd.func70, Tryd.ntmps70
    go_wp2_with fail
    go_loopw [5, 6] (fun nx i wr => ∃ k : Nat, k ≤ m ∧ i = .int .i64 (k : Int) ∧ nx = .int .i64 (nxK P k : Int) ∧ wr = w ∧ ∀ j, j < k → okP P j = true) (fun _ i _ => m - (intOf i).toNat)
    case atStart => exact ⟨0, by omega, rfl, rfl, rfl, fun j hj => by omega⟩
    case round =>
      obtain ⟨k, hk, rfl, rfl, rfl, hal⟩ := hrel
      have HAL := Lib.hid hal
      clear hal
      by_cases hkm : k < m
      · have hkm' : (k : Int) < (m : Int) := by omega
        obtain ⟨b, off, rfl, hlt, hin⟩ := HR.out.resolve_left (fun e => by have h3 := HL.out; rw [e] at h3; simp at h3; omega)
        have e1 := hin k (by rw [HL.out]; exact hkm)
        have hnk := nxK_le P k
        have hkl : (k : Int) < (l : Int) := by have := HL.out; have := HLL.out; omega
        have HIN := fun w => in_any (P.getD k 0) 0 (nxK P k : Int) w
        rw [show inB (P.getD k 0) 0 (nxK P k : Int) = okP P k from rfl] at HIN
        have HNN := Lib.hid (nxK_new (P := P) (k := k))
        have HNO := Lib.hid (nxK_old (P := P) (k := k))
        clear hin
        cases hi : okP P k
        · have HF : Hid (B = false) := Lib.hid (by rw [HB.out]; exact parB_no hkm hi)
          rw [hi] at HIN
          have HIN := Lib.hid HIN
          clear hi HNN HNO
          generalize P.getD k 0 = X at *
          generalize nxK P k = NK at *
          go_wp2_with (go_at_call 63; refine (HIN.out _).mono ?_; rintro e w ⟨rfl, rfl⟩)
          go_ret
          exact ⟨by rw [HF.out]; rfl, rfl⟩
        · have HV : Hid (∀ j, j < k + 1 → okP P j = true) := Lib.hid fun j hj => by
            by_cases e : j = k
            · rw [e]; exact hi
            · exact HAL.out j (by omega)
          rw [hi] at HIN
          have HIN := Lib.hid HIN
          clear hi
          generalize P.getD k 0 = X at *
          by_cases hx : X = (nxK P k : Int)
          · have HN2 := Lib.hid (HNN.out hx)
            clear HNN HNO
            rw [hx] at e1 HIN
            clear hx
            generalize nxK P k = NK at *
            go_wp2_with (go_at_call 63; refine (HIN.out _).mono ?_; rintro e w ⟨rfl, rfl⟩)
            go_roundw
            case rel => exact ⟨k + 1, by omega, by go_num, by rw [HN2.out]; go_num, by trivial, HV.out⟩
            case measure => simp [intOf]; omega
          · have HN2 := Lib.hid (HNO.out hx)
            have hxn : (X == (nxK P k : Int)) = false := by simpa using hx
            clear HNN HNO hx
            generalize hN2 : nxK P (k + 1) = N2 at *
            generalize nxK P k = NK at *
            go_wp2_with (go_at_call 63; refine (HIN.out _).mono ?_; rintro e w ⟨rfl, rfl⟩)
            go_roundw
            case rel => exact ⟨k + 1, by omega, by go_num, by rw [hN2, HN2.out], by trivial, HV.out⟩
            case measure => simp [intOf]; omega
      · obtain rfl : k = m := by omega
        have hkm' : ¬ ((k : Int) < (k : Int)) := by omega
        have HT : Hid (B = true) := Lib.hid (by rw [HB.out]; exact parB_iff.2 ⟨HL.out, HAL.out⟩)
        generalize nxK P k = NK at *
        go_wp2_with fail
        go_ret
        exact ⟨by rw [HT.out]; rfl, rfl⟩
  · rw [parB_len hl]
    have hq : ((P.length : Int) != (m : Int)) = true := by simp; omega
    clear hl
    go_enter Tryd.func70, Tryd.ntmps70
    go_wp2_with fail
    go_ret
    exact ⟨rfl, rfl⟩

theorem spt10_any (P : List Int) (m : Nat) (hm : m ≤ 5) (a : Option Addr) (c : Nat) (w : World) (hr : InRow w a P) :
    Calls Tryd.prog 59 #[.slice a P.length c, .int .i64 (m : Int)] w fun e w' => e = .returned (.bool (parB P m)) ∧ w' = w := by
  have HI := Lib.hid (sis10_any P m hm a c w hr)
  clear hr
  go_enter Tryd.func59, Tryd.ntmps59
  go_wp2_with fail
  refine HI.out.mono ?_
  rintro e w ⟨rfl, rfl⟩
  go_wp2_with fail
  go_ret
  exact ⟨rfl, rfl⟩

/-- The code of a list and numbers that are to be a partition. -/
def ptC (L : List MapN) (P : List Int) : Int := if chkC L [] = 0 then (if parB P (fst0 L).toNat = true then 0 else 2) else chkC L []
theorem ptC_good {L : List MapN} {P : List Int} {n : Nat} (h : chkC L [] = 0) (hn : fst0 L = (n : Int)) (hb : parB P n = true) : ptC L P = 0 := by unfold ptC; rw [if_pos h, hn, Int.toNat_natCast, if_pos hb]
theorem ptC_out {L : List MapN} {P : List Int} {n : Nat} (h : chkC L [] = 0) (hn : fst0 L = (n : Int)) (hb : parB P n = false) : ptC L P = 2 := by unfold ptC; rw [if_pos h, hn, Int.toNat_natCast, if_neg (by rw [hb]; exact Bool.false_ne_true)]
theorem ptC_bad {L : List MapN} {P : List Int} (h : chkC L [] ≠ 0) : ptC L P = chkC L [] := by unfold ptC; rw [if_neg h]

set_option maxRecDepth 100000 in
set_option maxHeartbeats 4000000 in
theorem sgv10_any (L : List MapN) (hl1 : L.length ≤ 1048576) (P : List Int) (a : Option Addr) (cap : Nat) (a2 : Option Addr) (c2 : Nat) (w : World) (hr : InRowM w a L) (hr2 : InRow w a2 P) :
    Calls Tryd.prog 42 #[.slice a L.length cap, .slice a2 P.length c2] w fun e w' => e = .returned (.int .i64 (ptC L P)) ∧ Below w.heap.size w w' := by
  have HG := Lib.hid (given_any a none cap 0 L [] hl1 (by simp) w hr (Or.inl rfl))
  by_cases hC : chkC L [] = 0
  · obtain ⟨n, hok, hn⟩ := LOk.of hC
    have hn5 := hok.n5
    have hl : 0 < L.length := by have := hok.len1; omega
    have hl' : (0 : Int) < (L.length : Int) := by omega
    obtain ⟨b, off, rfl, hbl, hat⟩ := hr.at0 hl
    have h0 := hat.1
    rw [hok.pts 0 hl] at h0
    have HPT := fun wx (hb : Below w.heap.size w wx) => spt10_any P n hn5 a2 c2 wx (hr2.below hb)
    rw [hC] at HG
    cases hb : parB P n
    · rw [ptC_out hC hn hb]
      rw [hb] at HPT
      have HPT := Lib.hid HPT
      clear hC hat hok hn hr hr2 hb
      go_enter Tryd.func42, Tryd.ntmps42
      go_wp2_with fail
      refine HG.out.mono ?_
      rintro e w1 ⟨rfl, hb⟩
      have HB := Lib.hid hb
      have hx := (hb.cell (p := ⟨b, off, none⟩) hbl).trans h0
      clear hb h0
      go_wp2_with fail
      refine (HPT.out _ HB.out).mono ?_
      rintro e w1 ⟨rfl, rfl⟩
      go_wp2_with fail
      go_ret
      exact ⟨rfl, HB.out⟩
    · rw [ptC_good hC hn hb]
      rw [hb] at HPT
      have HPT := Lib.hid HPT
      clear hC hat hok hn hr hr2 hb
      go_enter Tryd.func42, Tryd.ntmps42
      go_wp2_with fail
      refine HG.out.mono ?_
      rintro e w1 ⟨rfl, hb⟩
      have HB := Lib.hid hb
      have hx := (hb.cell (p := ⟨b, off, none⟩) hbl).trans h0
      clear hb h0
      go_wp2_with fail
      refine (HPT.out _ HB.out).mono ?_
      rintro e w1 ⟨rfl, rfl⟩
      go_wp2_with fail
      go_ret
      exact ⟨rfl, HB.out⟩
  · rw [ptC_bad hC]
    have hne : (chkC L [] == 0) = false := by simpa using hC
    clear hr hr2 hC
    generalize chkC L [] = C at *
    go_enter Tryd.func42, Tryd.ntmps42
    go_wp2_with fail
    refine HG.out.mono ?_
    rintro e w1 ⟨rfl, hb⟩
    have HB := Lib.hid hb
    clear hb
    go_wp2_with fail
    go_ret
    exact ⟨rfl, HB.out⟩

end Go.Proofs.YtpphihjbgikjkaaDoor

namespace Go.Proofs.YtpphihjbgikjkaaDoor
open Go Go.RowKit

theorem at6_pt {w : World} {b o : Nat} {x : MapN} (h : At6 w b o x) (j : Nat) (hj : j < 5) : w.cell? ⟨b, o + 1 + j, none⟩ = some (.int .i64 (x.2 j)) := by
  obtain ⟨_, h0, h1, h2, h3, h4⟩ := h
  rcases (by omega : j = 0 ∨ j = 1 ∨ j = 2 ∨ j = 3 ∨ j = 4) with rfl | rfl | rfl | rfl | rfl <;> assumption

theorem invT_half {P : List Int} {t : Nat → Int} {n : Nat} (h : ∀ a, a < n → ∀ b, b < a → P.getD a 0 = P.getD b 0 → P.getD (t a).toNat 0 = P.getD (t b).toNat 0) : invT P t n = true := by
  refine invT_iff.2 fun a ha b hb e => ?_
  rcases Nat.lt_trichotomy a b with c | c | c
  · exact (h b hb a c e.symm).symm
  · rw [c]
  · exact h a ha b c e

set_option maxRecDepth 100000 in
set_option maxHeartbeats 8000000 in
theorem sinv_any (L : List MapN) {n : Nat} (hok : LOk L n) (P : List Int) (hPl : P.length = n) (a : Option Addr) (cap : Nat) (a2 : Option Addr) (c2 : Nat) (w : World) (hr : InRowM w a L) (hr2 : InRow w a2 P) :
    Calls Tryd.prog 43 #[.slice a L.length cap, .slice a2 P.length c2] w fun e w' => e = .returned (.bool (invB L P n)) ∧ Below w.heap.size w w' := by
  obtain ⟨B, hB⟩ : ∃ B, B = invB L P n := ⟨_, rfl⟩
  have HB := Lib.hid hB
  rw [← hB]
  have hn5 := hok.n5
  have hl6 := hok.len6
  have HK := Lib.hid hok
  have HR := Lib.hid hr
  have HP := Lib.hid hr2
  have HL := Lib.hid hPl
  rw [hPl]
  clear hB hok hr hr2 hPl
  go_enter Tryd.func43, Tryd.ntmps43
  go_wp2_with fail
  go_loopw [5, 6, 7] (fun i _ _ wr => ∃ k mm : Nat, k ≤ L.length ∧ i = .int .i64 (k : Int) ∧ wr = w.drewN mm ∧ ∀ i, i < k → invT P (L.getD i z0).2 n = true) (fun i _ _ _ => L.length - (intOf i).toNat)
  case atStart => exact ⟨0, 0, by omega, rfl, rfl, fun i hi => by omega⟩
  case round =>
    obtain ⟨k, mm, hk, rfl, hwr, hal⟩ := hrel
    have HAL := Lib.hid hal
    clear hal
    obtain ⟨wo, hwo⟩ : ∃ wo, wo = wr := ⟨_, rfl⟩
    subst hwo
    subst hwr
    by_cases hkl : k < L.length
    · have hkl' : (k : Int) < (L.length : Int) := by omega
      go_wp2_with fail
      go_loopw [6, 7] (fun i _ wx => ∃ x mx : Nat, x ≤ n ∧ i = .int .i64 (x : Int) ∧ wx = w.drewN mx ∧ ∀ a, a < x → ∀ b, b < a → P.getD a 0 = P.getD b 0 → P.getD ((L.getD k z0).2 a).toNat 0 = P.getD ((L.getD k z0).2 b).toNat 0) (fun i _ _ => n - (intOf i).toNat)
      case atStart => exact ⟨0, mm, by omega, rfl, rfl, fun a ha => by omega⟩
      case round =>
        obtain ⟨x, mx, hx, rfl, hwr, hal2⟩ := hrel
        have HAL2 := Lib.hid hal2
        clear hal2
        obtain ⟨wo2, hwo2⟩ : ∃ wo2, wo2 = wr := ⟨_, rfl⟩
        subst hwo2
        subst hwr
        by_cases hxn : x < n
        · have hxn' : (x : Int) < (n : Int) := by omega
          go_wp2_with fail
          go_loopw [7] (fun i wx => ∃ y my : Nat, y ≤ x ∧ i = .int .i64 (y : Int) ∧ wx = w.drewN my ∧ ∀ b, b < y → P.getD x 0 = P.getD b 0 → P.getD ((L.getD k z0).2 x).toNat 0 = P.getD ((L.getD k z0).2 b).toNat 0) (fun i _ => x - (intOf i).toNat)
          case atStart => exact ⟨0, mx, by omega, rfl, rfl, fun b hb => by omega⟩
          case round =>
            obtain ⟨y, my, hy, rfl, hwr, hal3⟩ := hrel
            have HAL3 := Lib.hid hal3
            clear hal3
            subst hwr
            by_cases hyx : y < x
            · have hyx' : (y : Int) < (x : Int) := by omega
              obtain ⟨bL, oL, rfl, hbL, hat⟩ := HR.out.at6 k hkl
              obtain ⟨bP, oP, rfl, hbP, hcP⟩ := HP.out.resolve_left (fun e => by have := HL.out; rw [e] at this; simp at this; omega)
              have e1 := hcP x (by rw [HL.out]; exact hxn)
              have e2 := hcP y (by rw [HL.out]; omega)
              have t1 := at6_pt hat x (by omega)
              have t2 := at6_pt hat y (by omega)
              obtain ⟨s1, l1⟩ := HK.out.step hkl hxn
              obtain ⟨s2, l2⟩ := HK.out.step hkl (show y < n by omega)
              rw [s1] at t1
              rw [s2] at t2
              have e3 := hcP (stL L k x) (by rw [HL.out]; exact l1)
              have e4 := hcP (stL L k y) (by rw [HL.out]; exact l2)
              have HS1 := Lib.hid s1
              have HS2 := Lib.hid s2
              have hx5 : (x : Int) < 5 := by omega
              have hy5 : (y : Int) < 5 := by omega
              have hyn : (y : Int) < (n : Int) := by omega
              clear s1 s2 hat hcP
              generalize stL L k x = u at *
              generalize stL L k y = v at *
              have l1' : (u : Int) < (n : Int) := by omega
              have l2' : (v : Int) < (n : Int) := by omega
              obtain ⟨X, hX⟩ : ∃ X, X = P.getD x 0 := ⟨_, rfl⟩
              obtain ⟨Y, hY⟩ : ∃ Y, Y = P.getD y 0 := ⟨_, rfl⟩
              obtain ⟨U, hU⟩ : ∃ U, U = P.getD u 0 := ⟨_, rfl⟩
              obtain ⟨V, hV⟩ : ∃ V, V = P.getD v 0 := ⟨_, rfl⟩
              rw [← hX] at e1
              rw [← hY] at e2
              rw [← hU] at e3
              rw [← hV] at e4
              have HX := Lib.hid hX
              have HY := Lib.hid hY
              have HU := Lib.hid hU
              have HV := Lib.hid hV
              clear hX hY hU hV
              by_cases hXY : X = Y
              · by_cases hUV : U = V
                · have HN : Hid (∀ b, b < y + 1 → P.getD x 0 = P.getD b 0 → P.getD ((L.getD k z0).2 x).toNat 0 = P.getD ((L.getD k z0).2 b).toNat 0) := Lib.hid fun b hb e => by
                    by_cases eb : b = y
                    · subst eb
                      rw [HS1.out, HS2.out, Int.toNat_natCast, Int.toNat_natCast, ← HU.out, ← HV.out, hUV]
                    · exact HAL3.out b (by omega) e
                  have HXY := Lib.hid hXY
                  subst hXY
                  subst hUV
                  go_wp2_with fail
                  go_quiet (fail)
                  go_wp2_with fail
                  go_roundw
                  case rel => exact ⟨y + 1, my + nq, by omega, by go_num, by simp, HN.out⟩
                  case measure => simp [intOf]; omega
                · have HF : Hid (B = false) := Lib.hid (by
                    rw [HB.out]
                    exact invB_no hkl (invT_no (a := x) (b := y) hxn (by omega) (by rw [← HX.out, ← HY.out, hXY]) (by rw [HS1.out, HS2.out, Int.toNat_natCast, Int.toNat_natCast, ← HU.out, ← HV.out]; exact hUV)))
                  have hne : (U != V) = true := by simpa using hUV
                  subst hXY
                  clear hUV
                  go_wp2_with fail
                  go_quiet (fail)
                  go_wp2_with fail
                  go_ret
                  exact ⟨by rw [HF.out]; rfl, below_drewN (below_drewN (Below.refl _ _) _) _⟩
              · have HN : Hid (∀ b, b < y + 1 → P.getD x 0 = P.getD b 0 → P.getD ((L.getD k z0).2 x).toNat 0 = P.getD ((L.getD k z0).2 b).toNat 0) := Lib.hid fun b hb e => by
                  by_cases eb : b = y
                  · subst eb
                    rw [← HX.out, ← HY.out] at e
                    exact absurd e hXY
                  · exact HAL3.out b (by omega) e
                have hd : decide (X = Y) = false := by simpa using hXY
                have hd2 : (X == Y) = false := by simpa using hXY
                clear hXY
                go_wp2_with fail
                go_quiet (fail)
                go_wp2_with fail
                go_roundw
                case rel => exact ⟨y + 1, my + nq, by omega, by go_num, by simp, HN.out⟩
                case measure => simp [intOf]; omega
            · obtain rfl : y = x := by omega
              have hyx' : ¬ ((y : Int) < (y : Int)) := by omega
              go_wp2_with fail
              go_roundw
              case rel =>
                refine ⟨y + 1, my, by omega, by go_num, rfl, fun a ha b hb e => ?_⟩
                by_cases ea : a = y
                · subst ea; exact HAL3.out b hb e
                · exact HAL2.out a (by omega) b hb e
              case measure => simp [intOf]; omega
        · obtain rfl : x = n := by omega
          have hxn' : ¬ ((x : Int) < (x : Int)) := by omega
          have HIT := Lib.hid (invT_half (P := P) (t := (L.getD k z0).2) HAL2.out)
          go_wp2_with fail
          go_roundw
          case rel =>
            refine ⟨k + 1, mx, by omega, by go_num, rfl, fun i hi => ?_⟩
            by_cases ei : i = k
            · rw [ei]; exact HIT.out
            · exact HAL.out i (by omega)
          case measure => simp [intOf]; omega
    · obtain rfl : k = L.length := by omega
      have hkl' : ¬ ((L.length : Int) < (L.length : Int)) := by omega
      have HT : Hid (B = true) := Lib.hid (by rw [HB.out]; exact invB_iff.2 HAL.out)
      go_wp2_with fail
      go_ret
      exact ⟨by rw [HT.out]; rfl, below_drewN (Below.refl _ _) _⟩

end Go.Proofs.YtpphihjbgikjkaaDoor
