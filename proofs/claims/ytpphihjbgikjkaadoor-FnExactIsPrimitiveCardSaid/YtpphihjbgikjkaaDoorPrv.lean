/- The contracts of impl.IsPrimitive and spec.IsPrimitive. -/
import Derived.Test.YtpphihjbgikjkaaDoorSps
import Derived.Test.YtpphihjbgikjkaaDoorSst
namespace Go.Proofs.YtpphihjbgikjkaaDoor
open Go Go.RowKit

theorem pk_first : ∀ n, n ≤ 5 → (pkL n).getD 0 [] = List.replicate n 0 := by decide +kernel
theorem pk_last : ∀ n, n ≤ 5 → (pkL n).getD ((pkL n).length - 1) [] = (List.range n).map Int.ofNat := by decide +kernel
theorem pk_two : ∀ n, n ≤ 5 → 2 ≤ n → 2 ≤ (pkL n).length := by decide +kernel
theorem pk_one : (pkL 1).length = 1 := by decide +kernel

theorem inv_first {L : List MapN} {n : Nat} (hok : LOk L n) : invB L (List.replicate n 0) n = true := by
  refine invB_iff.2 fun i hi => invT_iff.2 fun a ha b hb _ => ?_
  obtain ⟨e1, l1⟩ := hok.step hi ha
  obtain ⟨e2, l2⟩ := hok.step hi hb
  rw [e1, e2, Int.toNat_natCast, Int.toNat_natCast]
  simp [List.getD_eq_getElem?_getD, l1, l2]

theorem inv_last {L : List MapN} {n : Nat} : invB L ((List.range n).map Int.ofNat) n = true := by
  refine invB_iff.2 fun i hi => invT_iff.2 fun a ha b hb e => ?_
  have h1 : ((List.range n).map Int.ofNat).getD a 0 = (a : Int) := by simp [ha]
  have h2 : ((List.range n).map Int.ofNat).getD b 0 = (b : Int) := by simp [hb]
  rw [h1, h2] at e
  have : a = b := by omega
  rw [this]

theorem ip_len {L : List MapN} {n : Nat} (hok : LOk L n) : (n = 1 → (ipL L n).length = 1) ∧ (2 ≤ n → 2 ≤ (ipL L n).length) := by
  have hn5 := hok.n5
  have hlen : (ipL L n).length = (slI L (pkL n) n (pkL n).length).length := by unfold ipL; rw [List.length_map]
  have h0 : ∀ N, N = (pkL n).length → 1 ≤ N → 0 ∈ slI L (pkL n) n N := fun N hN h => by
    unfold slI
    rw [List.mem_filter, List.mem_range, pk_first n hn5]
    exact ⟨by omega, inv_first hok⟩
  have hle := slI_len L (pkL n) n (pkL n).length
  constructor
  · intro e
    have hN : (pkL n).length = 1 := by rw [e]; exact pk_one
    have h1 := List.length_pos_of_mem (h0 _ rfl (by omega))
    omega
  · intro h
    have hN := pk_two n hn5 h
    have ha := h0 _ rfl (by omega)
    have hb : (pkL n).length - 1 ∈ slI L (pkL n) n (pkL n).length := by
      unfold slI
      rw [List.mem_filter, List.mem_range, pk_last n hn5]
      exact ⟨by omega, inv_last⟩
    rw [hlen]
    generalize slI L (pkL n) n (pkL n).length = S at *
    match S, ha, hb with
    | [x], ha, hb =>
      have e1 := List.mem_singleton.1 ha
      have e2 := List.mem_singleton.1 hb
      omega
    | x :: y :: l, _, _ => simp

/-- Whether a list is primitive. -/
noncomputable def prmB (L : List MapN) : Bool := traB L && decide (((ivpL L).length : Int) ≤ 2)
noncomputable def prmV (L : List MapN) : Value := .tuple #[.bool (prmB L), .int .i64 (chkC L [])]

set_option maxRecDepth 100000 in
set_option maxHeartbeats 4000000 in
theorem iPrm_any (L : List MapN) (hl1 : L.length ≤ 1048576) (a : Option Addr) (cap : Nat) (hc1 : a = none → cap = 0) (w : World) (hr : InRowM w a L) (hE : Er w) :
    Calls Tryd.prog 27 #[.slice a L.length cap] w fun e w' => e = .returned (prmV L) ∧ Below w.heap.size w w' := by
  have HT := iTra_any L hl1 a cap hc1 w hr hE
  have HI := Lib.hid fun wx (hb : Below w.heap.size w wx) => iIvp_any L hl1 a cap hc1 wx (hr.below hb) (hE.bel hb)
  unfold prmV prmB
  unfold traV at HT
  have HT := Lib.hid HT
  clear hr hE
  generalize chkC L [] = C at *
  generalize ivpL L = R at *
  cases htr : traB L
  · rw [htr] at HT
    clear htr
    simp only [Bool.false_and]
    go_enter Tryd.func27, Tryd.ntmps27
    go_wp2_with fail
    refine HT.out.mono ?_
    rintro e w1 ⟨rfl, hb⟩
    have HB1 := Lib.hid hb
    clear hb
    go_wp2_with fail
    refine (HI.out _ HB1.out).mono ?_
    rintro e w2 ⟨a2, c2, rfl, _, _, hb⟩
    have HB2 := Lib.hid hb
    clear hb
    go_wp2_with fail
    go_ret2
    exact ⟨rfl, HB1.out.trans (HB2.out.mono HB1.out.size)⟩
  · rw [htr] at HT
    clear htr
    simp only [Bool.true_and]
    go_enter Tryd.func27, Tryd.ntmps27
    go_wp2_with fail
    refine HT.out.mono ?_
    rintro e w1 ⟨rfl, hb⟩
    have HB1 := Lib.hid hb
    clear hb
    go_wp2_with fail
    refine (HI.out _ HB1.out).mono ?_
    rintro e w2 ⟨a2, c2, rfl, _, _, hb⟩
    have HB2 := Lib.hid hb
    clear hb
    go_wp2_with fail
    go_ret2
    exact ⟨rfl, HB1.out.trans (HB2.out.mono HB1.out.size)⟩

set_option maxRecDepth 100000 in
set_option maxHeartbeats 4000000 in
theorem sPrm_any (L : List MapN) (hl1 : L.length ≤ 1048576) (a : Option Addr) (cap : Nat) (_ : a = none → cap = 0) (w : World) (hr : InRowM w a L) :
    Calls Tryd.prog 26 #[.slice a L.length cap] w fun e w' => e = .returned (prmV L) ∧ Below w.heap.size w w' := by
  have HG := Lib.hid (given_any a none cap 0 L [] hl1 (by simp) w hr (Or.inl rfl))
  by_cases hC : chkC L [] = 0
  · obtain ⟨n, hok, hn⟩ := LOk.of hC
    have hn5 := hok.n5
    have hn1 := hok.n1
    have hsp : sprL L = prR L n := by unfold sprL; rw [if_pos hC, hn, Int.toNat_natCast]
    have hvp : ivpL L = ipL L n := by unfold ivpL; rw [if_pos hC, hn, Int.toNat_natCast]
    have hrk := rkK_le (orM L) n
    have hl : 0 < L.length := by have := hok.len1; omega
    have hl' : (0 : Int) < (L.length : Int) := by omega
    have HP := Lib.hid fun wx (hb : Below w.heap.size w wx) => sprt_any L hok a cap wx (hr.below hb)
    have HA := Lib.hid fun wx (hb : Below w.heap.size w wx) => sall_any L hok a cap wx (hr.below hb)
    have HML := Lib.hid (prM_len L n)
    obtain ⟨hi1, hi2⟩ := ip_len hok
    have hval : prmV L = .tuple #[.bool (((rkK (orM L) n : Int) == 1) && (((ipL L n).length : Int) == (if n = 1 then 1 else 2))), .int .i64 0] := by
      unfold prmV prmB traB
      rw [hsp, hvp, hC, prR_len]
      congr 5
      rw [Bool.eq_iff_iff, decide_eq_true_iff, beq_iff_eq]
      by_cases e : n = 1
      · have := hi1 e
        rw [if_pos e]
        omega
      · have := hi2 (by omega)
        rw [if_neg e]
        omega
    rw [hval]
    rw [hC] at HG
    obtain ⟨b, off, rfl, hbl, hat⟩ := hr.at0 hl
    have h0 := hat.1
    rw [hok.pts 0 hl] at h0
    clear hr hC hn hok hsp hvp hat hval hi1 hi2
    generalize rkK (orM L) n = m at *
    generalize prM L n = R at *
    generalize ipL L n = I at *
    by_cases hn1' : n = 1
    · subst hn1'
      simp only [if_true]
      have hq : (((1 : Nat) : Int) == 1) = true := rfl
      cases hm : ((m : Int) == 1)
      · skip
        simp only [Bool.false_and]
        go_enter Tryd.func26, Tryd.ntmps26
        go_wp2_with fail
        refine HG.out.mono ?_
        rintro e w1 ⟨rfl, hb⟩
        have HB1 := Lib.hid hb
        have hx := (hb.cell (p := ⟨b, off, none⟩) hbl).trans h0
        clear hb h0
        go_wp2_with fail
        refine (HP.out _ HB1.out).mono ?_
        rintro e w2 ⟨v2, rfl, hown, hb⟩
        obtain ⟨a2, c2, rfl, hrd⟩ := own_rd hown (by rw [HML.out]; omega)
        rw [HML.out]
        have HB2 : Hid (Below w.heap.size w w2) := Lib.hid (HB1.out.trans (hb.mono HB1.out.size))
        clear hown hrd hb
        go_wp2_with fail
        go_ret2
        exact ⟨rfl, HB2.out⟩
      · skip
        simp only [Bool.true_and]
        go_enter Tryd.func26, Tryd.ntmps26
        go_wp2_with fail
        refine HG.out.mono ?_
        rintro e w1 ⟨rfl, hb⟩
        have HB1 := Lib.hid hb
        have hx := (hb.cell (p := ⟨b, off, none⟩) hbl).trans h0
        clear hb h0
        go_wp2_with fail
        refine (HP.out _ HB1.out).mono ?_
        rintro e w2 ⟨v2, rfl, hown, hb⟩
        obtain ⟨a2, c2, rfl, hrd⟩ := own_rd hown (by rw [HML.out]; omega)
        rw [HML.out]
        have HB2 : Hid (Below w.heap.size w w2) := Lib.hid (HB1.out.trans (hb.mono HB1.out.size))
        clear hown hrd hb
        go_wp2_with fail
        refine (HA.out _ HB2.out).mono ?_
        rintro e w3 ⟨v3, us, rfl, ht, hb⟩
        obtain ⟨a3, c3, rfl⟩ := ht.trn.form
        have HB3 := Lib.hid hb
        clear ht hb
        go_wp2_with fail
        go_ret2
        exact ⟨rfl, HB2.out.trans (HB3.out.mono HB2.out.size)⟩
    · rw [if_neg hn1']
      have hq : ((n : Int) == 1) = false := by simp; omega
      clear hn1'
      cases hm : ((m : Int) == 1)
      · skip
        simp only [Bool.false_and]
        go_enter Tryd.func26, Tryd.ntmps26
        go_wp2_with fail
        refine HG.out.mono ?_
        rintro e w1 ⟨rfl, hb⟩
        have HB1 := Lib.hid hb
        have hx := (hb.cell (p := ⟨b, off, none⟩) hbl).trans h0
        clear hb h0
        go_wp2_with fail
        refine (HP.out _ HB1.out).mono ?_
        rintro e w2 ⟨v2, rfl, hown, hb⟩
        obtain ⟨a2, c2, rfl, hrd⟩ := own_rd hown (by rw [HML.out]; omega)
        rw [HML.out]
        have HB2 : Hid (Below w.heap.size w w2) := Lib.hid (HB1.out.trans (hb.mono HB1.out.size))
        clear hown hrd hb
        go_wp2_with fail
        go_ret2
        exact ⟨rfl, HB2.out⟩
      · skip
        simp only [Bool.true_and]
        go_enter Tryd.func26, Tryd.ntmps26
        go_wp2_with fail
        refine HG.out.mono ?_
        rintro e w1 ⟨rfl, hb⟩
        have HB1 := Lib.hid hb
        have hx := (hb.cell (p := ⟨b, off, none⟩) hbl).trans h0
        clear hb h0
        go_wp2_with fail
        refine (HP.out _ HB1.out).mono ?_
        rintro e w2 ⟨v2, rfl, hown, hb⟩
        obtain ⟨a2, c2, rfl, hrd⟩ := own_rd hown (by rw [HML.out]; omega)
        rw [HML.out]
        have HB2 : Hid (Below w.heap.size w w2) := Lib.hid (HB1.out.trans (hb.mono HB1.out.size))
        clear hown hrd hb
        go_wp2_with fail
        refine (HA.out _ HB2.out).mono ?_
        rintro e w3 ⟨v3, us, rfl, ht, hb⟩
        obtain ⟨a3, c3, rfl⟩ := ht.trn.form
        have HB3 := Lib.hid hb
        clear ht hb
        go_wp2_with fail
        go_ret2
        exact ⟨rfl, HB2.out.trans (HB3.out.mono HB2.out.size)⟩
  · have hsp : sprL L = [] := by unfold sprL; rw [if_neg hC]
    have hne : (chkC L [] != 0) = true := by simpa using hC
    have hval : prmV L = .tuple #[.bool false, .int .i64 (chkC L [])] := by unfold prmV prmB traB; rw [hsp]; rfl
    rw [hval]
    clear hr hC hsp hval
    generalize chkC L [] = C at *
    go_enter Tryd.func26, Tryd.ntmps26
    go_wp2_with fail
    refine HG.out.mono ?_
    rintro e w1 ⟨rfl, hb⟩
    have HB1 := Lib.hid hb
    clear hb
    go_wp2_with fail
    go_ret2
    exact ⟨rfl, HB1.out⟩

end Go.Proofs.YtpphihjbgikjkaaDoor
