/- Lists of pairs that are given: the contract of impl.pairsFor. -/
import Derived.Test.YtoagpklippdlmaaRss
import Derived.Test.YtoagpklippdlmaaChk
import Derived.Test.YtoagpklippdlmaaTab
import Derived.Test.YtoagpklippdlmaaPin
import Derived.Laws.Cover3
namespace Go.Proofs.Ytoagpklippdlmaa
open Go Go.RowKit

/-- Whether a list is a pair of numbers below m. -/
def okP (m : Nat) (X : List Int) : Bool := decide (X.length = 2) && belB (m : Int) X

/-- The pair that a list is. -/
def prP (X : List Int) : Nat × Nat := ((X.getD 0 0).toNat, (X.getD 1 0).toNat)

/-- The code of a list with pairs. -/
noncomputable def pfC (L : List MapN) (PP : List (List Int)) : Int :=
  if tC 30 L ≠ 0 then tC 30 L else if PP.length > 10 then 2 else if PP.all (okP (elsK L).length) = true then 0 else 2

theorem pfC_bad {L : List MapN} {PP : List (List Int)} (h : tC 30 L ≠ 0) : pfC L PP = tC 30 L := by unfold pfC; rw [if_pos h]
theorem pfC_long {L : List MapN} {PP : List (List Int)} (h : tC 30 L = 0) (h2 : PP.length > 10) : pfC L PP = 2 := by unfold pfC; rw [if_neg (by simpa using h), if_pos h2]
theorem pfC_2 {L : List MapN} {PP : List (List Int)} (h : tC 30 L = 0) (j : Nat) (hj : j < PP.length) (h2 : okP (elsK L).length (PP.getD j []) = false) : pfC L PP = 2 := by
  unfold pfC
  rw [if_neg (by simpa using h)]
  split
  · rfl
  · rw [if_neg]
    rw [List.all_eq_true]
    intro hc
    have := hc _ (List.getElem_mem hj)
    rw [List.getD_eq_getElem?_getD, List.getElem?_eq_getElem hj] at h2
    rw [show okP (elsK L).length PP[j] = false from h2] at this
    cases this
theorem pfC_0 {L : List MapN} {PP : List (List Int)} (h : tC 30 L = 0) (h1 : ¬ PP.length > 10) (h2 : ∀ j, j < PP.length → okP (elsK L).length (PP.getD j []) = true) : pfC L PP = 0 := by
  unfold pfC
  rw [if_neg (by simpa using h), if_neg h1, if_pos]
  rw [List.all_eq_true]
  intro X hX
  obtain ⟨j, hj, rfl⟩ := List.getElem_of_mem hX
  have := h2 j hj
  rw [List.getD_eq_getElem?_getD, List.getElem?_eq_getElem hj] at this
  exact this

theorem prP_bd {m : Nat} {X : List Int} (h : okP m X = true) : X.getD 0 0 = ((prP X).1 : Nat) ∧ X.getD 1 0 = ((prP X).2 : Nat) ∧ (prP X).1 < m ∧ (prP X).2 < m := by
  unfold okP at h
  rw [Bool.and_eq_true] at h
  have hl : X.length = 2 := by simpa using h.1
  have h0 := belB_at h.2 0 (by omega)
  have h1 := belB_at h.2 1 (by omega)
  unfold prP
  simp only []
  omega

/-- What is left of a list with pairs, on the side of impl. -/
def RetPf (L : List MapN) (PP : List (List Int)) (w : World) (e : Ending) (w' : World) : Prop :=
  Below w.heap.size w w' ∧ ((pfC L PP ≠ 0 ∧ e = .returned (.tuple #[.slice none 0 0, .slice none 0 0, .int .i64 (pfC L PP)])) ∨
    (pfC L PP = 0 ∧ Mon (fst0 L) (elsK L) ∧ (elsK L).length ≤ 30 ∧ PP.length ≤ 10 ∧ (∀ j, j < PP.length → okP (elsK L).length (PP.getD j []) = true) ∧ ∃ a cap a2 c2, e = .returned (.tuple #[.slice a (elsK L).length cap, .slice a2 PP.length c2, .int .i64 0]) ∧ Tb w' w'.heap.size a (elsK L).length (muK (fst0 L) (elsK L)) ∧ InRowP w' a2 (PP.map prP)))

set_option maxRecDepth 100000 in
set_option maxHeartbeats 4000000 in
theorem ipf_any (a : Option Addr) (c : Nat) (hc0 : a = none → c = 0) (L : List MapN) (hl : L.length ≤ 1048576) (PP : List (List Int)) (hPn : PP.length ≤ 1048576) (hPl : ∀ j, j < PP.length → (PP.getD j []).length ≤ 1048576) (ag : Option Addr) (cg : Nat) (w : World) (hr : InRowM w a L) (hg : InRowL w ag PP) :
    Calls Try.prog 49 #[.slice a L.length c, .slice ag PP.length cg] w (RetPf L PP w) := by
  have HG := Lib.hid (ita_any 30 (by omega) a c hc0 L hl w hr)
  have HRS := Lib.hid hg
  have HPL := Lib.hid hPl
  clear hr hg hPl hc0
  go_enter Try.func49, Try.ntmps49
  go_wp2_with fail
  refine HG.out.mono ?_
  rintro e w1 ⟨hb, ⟨hc, rfl⟩ | ⟨hc, hmon, hle, a1, c1, rfl, htb⟩⟩
  · have HB := Lib.hid hb
    have HE := Lib.hid (pfC_bad (PP := PP) hc)
    have hne : (tC 30 L != 0) = true := by simpa using hc
    have HC := Lib.hid hc
    clear hb hc
    generalize tC 30 L = C at *
    go_wp2_with fail
    go_ret3
    exact ⟨HB.out, Or.inl ⟨by rw [HE.out]; exact HC.out, by rw [HE.out]; rfl⟩⟩
  · have HB := Lib.hid hb
    have HMO := Lib.hid hmon
    have HTB := Lib.hid htb
    have HRW := Lib.hid (HRS.out.below hb)
    have HQL := Lib.hid fun h2 => pfC_long (PP := PP) hc h2
    have HQ := Lib.hid fun j hj h2 => pfC_2 (PP := PP) hc j hj h2
    have HQ0 := Lib.hid fun h1 h2 => pfC_0 (PP := PP) hc h1 h2
    have hs1 := hb.size
    clear hb hc hmon htb
    obtain ⟨m, hm⟩ : ∃ m, m = (elsK L).length := ⟨_, rfl⟩
    have HM := Lib.hid hm
    rw [← hm] at hle HQ HQ0 HTB ⊢
    clear hm
    by_cases hlong : PP.length > 10
    · have hlong' : (10 : Int) < (PP.length : Int) := by omega
      have HE := Lib.hid (HQL.out hlong)
      go_wp2_with fail
      go_ret3
      exact ⟨HB.out, Or.inl ⟨by rw [HE.out]; decide, by rw [HE.out]; rfl⟩⟩
    · have hlong' : ¬ (10 : Int) < (PP.length : Int) := by omega
      go_wp2_with fail
      go_loopw [9, 11, 25] (fun v _ i wr => ∃ k : Nat, k ≤ PP.length ∧ i = .int .i64 k ∧ OwnP wr w1.heap.size v ((PP.take k).map prP) ∧ Below w1.heap.size w1 wr ∧ ∀ j, j < k → okP m (PP.getD j []) = true) (fun _ _ i _ => PP.length - (intOf i).toNat)
      case atStart => exact ⟨0, by omega, rfl, World.ownsRow_nil _ _ _ _, Below.refl _ _, fun j hj => by omega⟩
      case round =>
        obtain ⟨k, hk, rfl, hown, hb, hal⟩ := hrel
        have HO := Lib.hid hown
        have HBR := Lib.hid hb
        have HAL := Lib.hid hal
        have hsr := hb.size
        by_cases hkl : k < PP.length
        · have hkl' : (k : Int) < (PP.length : Int) := by omega
          obtain ⟨b, off, rfl, hlt, hcs⟩ := (HRW.out.below hb).resolve_left (fun e => by rw [e] at hkl; simp at hkl)
          obtain ⟨ar, cr, e1, R1⟩ := hcs k hkl
          have HQK := Lib.hid fun h2 => HQ.out k hkl h2
          have hXl := HPL.out k hkl
          have HTK : Hid ((PP.take (k + 1)).map prP = (PP.take k).map prP ++ [prP (PP.getD k [])]) := Lib.hid (by
            rw [List.take_add_one, List.map_append, List.getElem?_eq_getElem hkl, List.getD_eq_getElem?_getD, List.getElem?_eq_getElem hkl]; rfl)
          have hTl : ((PP.take k).map prP).length ≤ 1000000 := by simp; omega
          have HALS : Hid (okP m (PP.getD k []) = true → ∀ j, j < k + 1 → okP m (PP.getD j []) = true) := Lib.hid fun h j hj => by
            rcases Nat.lt_succ_iff_lt_or_eq.1 hj with h2 | h2
            · exact HAL.out j h2
            · subst h2; exact h
          have HBL := Lib.hid (below_any (m : Int) (PP.getD k []) hXl ar cr wr R1)
          clear hown hb hal hcs
          generalize PP.getD k [] = X at *
          generalize (PP.take k).map prP = P0 at *
          by_cases hX2 : X.length = 2
          · rw [hX2] at e1 HBL
            by_cases hbe : belB (m : Int) X = true
            · have hok : okP m X = true := by unfold okP; rw [hbe, hX2]; rfl
              obtain ⟨p0, p1, p2, p3⟩ := prP_bd hok
              obtain ⟨b', off', rfl, hlt', hin⟩ := R1.resolve_left (fun e => by rw [e] at hX2; simp at hX2)
              have f0 := hin 0 (by omega)
              have f1 := hin 1 (by omega)
              rw [p0, Nat.add_zero] at f0
              rw [p1] at f1
              rw [hbe] at HBL
              have HV := Lib.hid (HALS.out hok)
              have HPX : Hid (prP X = ((prP X).1, (prP X).2)) := Lib.hid rfl
              rw [HPX.out] at HTK
              clear hin hok hbe p0 p1 p2 p3 R1 HPX
              generalize (prP X).1 = A at *
              generalize (prP X).2 = D at *
              go_wp2_with fail
              refine HBL.out.mono ?_
              rintro e w2 ⟨rfl, rfl⟩
              have hra : (Instr.arrayAt 100 (.slice (some ⟨b', off', none⟩) 2 cr)).run Try.prog w2 = .ok (.pointer (some ⟨b', off', none⟩)) w2 := run_arrayAt _ 100 2 2 _ 2 cr Try.underlying100 (Nat.le_refl _)
              go_wp2_with (at_builtin; refine wpList_appP rfl _ _ rfl w1.heap.size _ P0 rfl (show OwnP _ _ _ _ from (HO.out : w2.ownsRow _ _ _ _ _ _).alloc _) w2.heap.size 1 A D rfl (halloc_at _ _ _ rfl) hTl (by simp; omega) ?_; intro v' w3 hown' hgrow)
              have HO2 : Hid (OwnP w3 w1.heap.size v' ((PP.take (k + 1)).map prP)) := Lib.hid (by rw [HTK.out]; exact hown')
              have HB2 : Hid (Below w1.heap.size w1 w3) := Lib.hid ((HBR.out.alloc hsr _).grown hgrow (by simp; omega) (fun r e => (HO.out.lt r e).1))
              clear hown' hgrow
              go_wp2_with fail
              go_roundw
              case rel => exact ⟨k + 1, by omega, by go_num, HO2.out, HB2.out, HV.out⟩
              case measure => simp [intOf]; omega
            · have hbf : belB (m : Int) X = false := by simpa using hbe
              have hok : okP m X = false := by unfold okP; rw [hbf, Bool.and_false]
              have HE2 := Lib.hid (HQK.out hok)
              rw [hbf] at HBL
              clear hbe hok hbf R1
              go_wp2_with fail
              refine HBL.out.mono ?_
              rintro e w2 ⟨rfl, rfl⟩
              go_wp2_with fail
              go_ret3
              exact ⟨HB.out.trans (HBR.out.mono hs1), Or.inl ⟨by rw [HE2.out]; decide, by rw [HE2.out]; rfl⟩⟩
          · have hok : okP m X = false := by unfold okP; rw [decide_eq_false hX2]; rfl
            have HE2 := Lib.hid (HQK.out hok)
            have hX3 : ((X.length : Int) != 2) = true := by simp; omega
            clear hok R1
            go_wp2_with fail
            go_ret3
            exact ⟨HB.out.trans (HBR.out.mono hs1), Or.inl ⟨by rw [HE2.out]; decide, by rw [HE2.out]; rfl⟩⟩
        · obtain rfl : k = PP.length := by omega
          have HE0 := Lib.hid (HQ0.out hlong HAL.out)
          rw [List.take_length] at hown
          obtain ⟨a2, c2, rfl, hin⟩ := ownP_in hown
          have HIN := Lib.hid hin
          clear hb hal hown hin
          rw [List.length_map]
          go_wp2_with fail
          go_ret3
          refine ⟨HB.out.trans (HBR.out.mono hs1), Or.inr ⟨HE0.out, HMO.out, by rw [← HM.out]; exact hle, by omega, fun j hj => by rw [← HM.out]; exact HAL.out j hj, a1, c1, a2, c2, by rw [← HM.out]; rfl, ?_, HIN.out⟩⟩
          rw [← HM.out]
          exact (HTB.out.below HBR.out).up hsr (Nat.le_refl _)

end Go.Proofs.Ytoagpklippdlmaa
