/- The contracts of spec.l10Code and spec.OrbitOf. -/
import Derived.Test.YtpphihjbgikjkaaSob
import Derived.Deep.DeepCutAuto
namespace Go.Proofs.Ytpphihjbgikjkaa
open Go Go.RowKit

/-- The code of a list and a point. -/
def orbC (L : List MapN) (p : Int) : Int := if chkC L [] = 0 then (if inB p 0 (fst0 L - 1) = true then 0 else 2) else chkC L []
/-- The points to which a list leads a point. -/
noncomputable def orbL (L : List MapN) (p : Int) : List Int := if orbC L p = 0 then asc (rchS L p.toNat) else []

theorem orbC_good {L : List MapN} {p : Int} (h : chkC L [] = 0) (hb : inB p 0 (fst0 L - 1) = true) : orbC L p = 0 := by unfold orbC; rw [if_pos h, if_pos hb]
theorem orbC_out {L : List MapN} {p : Int} (h : chkC L [] = 0) (hb : inB p 0 (fst0 L - 1) = false) : orbC L p = 2 := by unfold orbC; rw [if_pos h, if_neg (by rw [hb]; exact Bool.false_ne_true)]
theorem orbC_bad {L : List MapN} {p : Int} (h : chkC L [] ≠ 0) : orbC L p = chkC L [] := by unfold orbC; rw [if_neg h]
theorem orbL_good {L : List MapN} {p : Int} (h : orbC L p = 0) : orbL L p = asc (rchS L p.toNat) := by unfold orbL; rw [if_pos h]
theorem orbL_bad {L : List MapN} {p : Int} (h : orbC L p ≠ 0) : orbL L p = [] := by unfold orbL; rw [if_neg h]

set_option maxRecDepth 100000 in
set_option maxHeartbeats 4000000 in
theorem sco10_any (L : List MapN) (hl1 : L.length ≤ 1048576) (p : Int) (a : Option Addr) (cap : Nat) (w : World) (hr : InRowM w a L) :
    Calls Try.prog 33 #[.slice a L.length cap, .int .i64 p] w fun e w' => e = .returned (.int .i64 (orbC L p)) ∧ Below w.heap.size w w' := by
  have HG := Lib.hid (given_any a none cap 0 L [] hl1 (by simp) w hr (Or.inl rfl))
  by_cases hC : chkC L [] = 0
  · obtain ⟨n, hok, hn⟩ := LOk.of hC
    have hn1 := hok.n1
    have hn5 := hok.n5
    obtain ⟨b, off, rfl, hbl, hat⟩ := hr.at0 (by have := hok.len1; omega)
    have h0 := hat.1
    rw [hok.pts 0 (by have := hok.len1; omega)] at h0
    have hl : 0 < L.length := by have := hok.len1; omega
    have hl' : (0 : Int) < (L.length : Int) := by omega
    have HIN := Lib.hid fun w => in_any p 0 ((n : Int) - 1) w
    cases hb : inB p 0 (fst0 L - 1)
    · rw [orbC_out hC hb]
      rw [hn] at hb
      rw [hb] at HIN
      rw [hC] at HG
      clear hC hat hok hn hr hb
      go_enter Try.func33, Try.ntmps33
      go_wp2_with fail
      refine HG.out.mono ?_
      rintro e w1 ⟨rfl, hb⟩
      have HB := Lib.hid hb
      have hx := (hb.cell (p := ⟨b, off, none⟩) hbl).trans h0
      have hbl1 : b < w1.heap.size := by have := hb.size; omega
      clear hb h0
      go_wp2_with fail
      refine (HIN.out _).mono ?_
      rintro e w1 ⟨rfl, rfl⟩
      go_wp2_with fail
      go_ret
      exact ⟨rfl, by (repeat' (first | (with_reducible exact Below.refl _ _) | (with_reducible refine Below.alloc ?_ ?_ _) | (with_reducible refine Below.setCell ?_ ?_ _) | (with_reducible refine Below.drew ?_) | (with_reducible refine below_drewN ?_ _) | (with_reducible refine Below.trans ?_ (Below.mono (Hid.out (by assumption)) ?_)) | omega | (simp; done) | (simp; omega)))⟩
    · rw [orbC_good hC hb]
      rw [hn] at hb
      rw [hb] at HIN
      rw [hC] at HG
      clear hC hat hok hn hr hb
      go_enter Try.func33, Try.ntmps33
      go_wp2_with fail
      refine HG.out.mono ?_
      rintro e w1 ⟨rfl, hb⟩
      have HB := Lib.hid hb
      have hx := (hb.cell (p := ⟨b, off, none⟩) hbl).trans h0
      have hbl1 : b < w1.heap.size := by have := hb.size; omega
      clear hb h0
      go_wp2_with fail
      refine (HIN.out _).mono ?_
      rintro e w1 ⟨rfl, rfl⟩
      go_wp2_with fail
      go_ret
      exact ⟨rfl, by (repeat' (first | (with_reducible exact Below.refl _ _) | (with_reducible refine Below.alloc ?_ ?_ _) | (with_reducible refine Below.setCell ?_ ?_ _) | (with_reducible refine Below.drew ?_) | (with_reducible refine below_drewN ?_ _) | (with_reducible refine Below.trans ?_ (Below.mono (Hid.out (by assumption)) ?_)) | omega | (simp; done) | (simp; omega)))⟩
  · rw [orbC_bad hC]
    have hne : (chkC L [] == 0) = false := by simpa using hC
    clear hr hC
    generalize chkC L [] = C at *
    go_enter Try.func33, Try.ntmps33
    go_wp2_with fail
    refine HG.out.mono ?_
    rintro e w1 ⟨rfl, hb⟩
    have HB := Lib.hid hb
    clear hb
    go_wp2_with fail
    go_ret
    exact ⟨rfl, by (repeat' (first | (with_reducible exact Below.refl _ _) | (with_reducible refine Below.alloc ?_ ?_ _) | (with_reducible refine Below.setCell ?_ ?_ _) | (with_reducible refine Below.drew ?_) | (with_reducible refine below_drewN ?_ _) | (with_reducible refine Below.trans ?_ (Below.mono (Hid.out (by assumption)) ?_)) | omega | (simp; done) | (simp; omega)))⟩

set_option maxRecDepth 100000 in
set_option maxHeartbeats 4000000 in
theorem sOrb_any (L : List MapN) (hl1 : L.length ≤ 1048576) (p : Int) (a : Option Addr) (cap : Nat) (_ : a = none → cap = 0) (w : World) (hr : InRowM w a L) :
    Calls Try.prog 13 #[.slice a L.length cap, .int .i64 p] w (RetRow w.heap.size (orbL L p) (orbC L p) w) := by
  have HC := Lib.hid (sco10_any L hl1 p a cap w hr)
  by_cases hC : orbC L p = 0
  · rw [orbL_good hC, hC]
    rw [hC] at HC
    have hck : chkC L [] = 0 := by
      by_cases h : chkC L [] = 0
      · exact h
      · rw [orbC_bad h] at hC; exact absurd hC h
    have hin : inB p 0 (fst0 L - 1) = true := by
      cases h : inB p 0 (fst0 L - 1)
      · rw [orbC_out hck h] at hC; cases hC
      · rfl
    obtain ⟨n, hok, hn⟩ := LOk.of hck
    have hpn := inB_true.1 hin
    rw [hn] at hpn
    obtain ⟨q, rfl⟩ := Int.eq_ofNat_of_zero_le hpn.1
    have HO := Lib.hid fun wx (hb : Below w.heap.size w wx) => sorb_any L hok q (by omega) a cap wx (hr.below hb)
    have HP := Lib.hid fun w => spoints_any (rchS L q) w
    have HLen : Hid ((asc (rchS L q)).length ≤ 2000000) := Lib.hid (by have := ascK_len (rchS L q) 5; unfold asc; omega)
    simp only [Int.toNat_natCast]
    clear hr hC hck hin hok hn hpn
    generalize asc (rchS L q) = R at *
    generalize mask (rchS L q) = M at *
    go_enter Try.func13, Try.ntmps13
    go_wp2_with fail
    refine HC.out.mono ?_
    rintro e w1 ⟨rfl, hb⟩
    have HB1 := Lib.hid hb
    clear hb
    go_wp2_with fail
    refine (HO.out _ HB1.out).mono ?_
    rintro e w2 ⟨rfl, hb⟩
    have HB2 := Lib.hid hb
    have hz1 := HB1.out.size
    have hz2 := hb.size
    clear hb
    go_wp2_with fail
    refine (HP.out _).mono ?_
    rintro e w3 ⟨v, rfl, hown, hb⟩
    obtain ⟨ax, cx, rfl, hrd⟩ := own_rd hown HLen.out
    have HB3 := Lib.hid hb
    have HRD := Lib.hid hrd
    clear hown hb hrd
    go_wp2_with fail
    go_ret2
    exact ⟨_, _, rfl, HRD.out.mono (by omega), by (repeat' (first | (with_reducible exact Below.refl _ _) | (with_reducible refine Below.alloc ?_ ?_ _) | (with_reducible refine Below.setCell ?_ ?_ _) | (with_reducible refine Below.drew ?_) | (with_reducible refine below_drewN ?_ _) | (with_reducible refine Below.trans ?_ (Below.mono (Hid.out (by assumption)) ?_)) | omega | (simp; done) | (simp; omega)))⟩
  · rw [orbL_bad hC]
    have hne : (orbC L p != 0) = true := by simpa using hC
    clear hr hC
    generalize orbC L p = C at *
    go_enter Try.func13, Try.ntmps13
    go_wp2_with fail
    refine HC.out.mono ?_
    rintro e w1 ⟨rfl, hb⟩
    have HB1 := Lib.hid hb
    clear hb
    go_wp2_with fail
    go_ret2
    exact ⟨none, 0, rfl, ⟨by simp, Or.inl rfl⟩, HB1.out⟩

end Go.Proofs.Ytpphihjbgikjkaa
