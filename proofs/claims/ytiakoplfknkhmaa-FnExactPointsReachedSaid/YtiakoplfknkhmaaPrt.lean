/- The contracts of PointsReached on both sides. -/
import Derived.Test.YtiakoplfknkhmaaSrp
import Derived.Test.YtiakoplfknkhmaaAcm
namespace Go.Proofs.Ytiakoplfknkhmaa
open Go Go.RowKit

/-- The code of an acceptor: 0, or 1 if it is none. -/
def acnC (L : List MapN) (F : Int) (S : List Int) : Int := if accB L F S = true then 0 else 1

/-- The points that are reached; none with an error. -/
def prsL (L : List MapN) (F : Int) (S : List Int) : List Int := if accB L F S = true then natL (ptsP L F.toNat) else []

theorem acnC_no {L : List MapN} {F : Int} {S : List Int} (h : accB L F S = false) : acnC L F S = 1 := by unfold acnC; rw [if_neg (by rw [h]; exact Bool.false_ne_true)]
theorem acnC_ok {L : List MapN} {F : Int} {S : List Int} (h : accB L F S = true) : acnC L F S = 0 := by unfold acnC; rw [if_pos h]
theorem prsL_no {L : List MapN} {F : Int} {S : List Int} (h : accB L F S = false) : prsL L F S = [] := by unfold prsL; rw [if_neg (by rw [h]; exact Bool.false_ne_true)]
theorem prsL_ok {L : List MapN} {F : Nat} {S : List Int} (h : accB L F S = true) : prsL L F S = natL (ptsP L F) := by unfold prsL; rw [if_pos h]; rfl

set_option maxRecDepth 100000 in
set_option maxHeartbeats 4000000 in
theorem iprt_any (L : List MapN) (hl : L.length ≤ 1048576) (F : Int) (S : List Int) (hs : S.length ≤ 1048576)  (a b : Option Addr) (c d : Nat) (hc0 : a = none → c = 0) (w : World) (h1 : InRowM w a L) (h2 : InRow w b S) :
    Calls Try.prog 17 #[.agg #[.slice a L.length c, .int .i64 F, .slice b S.length d]] w (RetRow w.heap.size (prsL L F S) (acnC L F S) w) := by
  cases hA : accB L F S
  · have HI := fun wx (hb : Below w.heap.size w wx) => iacc_any L hl F S hs a b c d hc0 wx (h1.below hb) (h2.below hb)
    rw [hA] at HI
    have HI := Lib.hid HI
    have HA := Lib.hid hA
    clear h1 h2 hA
    go_enter Try.func17, Try.ntmps17
    go_wp2_with fail
    refine (HI.out _ (by (repeat' (first | (with_reducible exact Below.refl _ _) | (with_reducible refine Below.alloc ?_ ?_ _) | (with_reducible refine Below.setCell ?_ ?_ _) | (with_reducible refine Below.drew ?_) | (with_reducible refine below_drewN ?_ _) | (with_reducible refine Below.trans ?_ (Below.mono (Hid.out (by assumption)) ?_)) | omega | (simp; done) | (simp; omega))))).mono ?_
    rintro e w1 ⟨rfl, hb⟩
    have HB := Lib.hid hb
    have hz1 := hb.size
    (try simp at hz1)
    clear hb
    go_wp2_with fail
    go_ret2
    rw [acnC_no HA.out, prsL_no HA.out]
    refine ⟨none, 0, rfl, ⟨by simp, Or.inl rfl⟩, ?_⟩
    (repeat' (first | (with_reducible exact Below.refl _ _) | (with_reducible refine Below.alloc ?_ ?_ _) | (with_reducible refine Below.setCell ?_ ?_ _) | (with_reducible refine Below.drew ?_) | (with_reducible refine below_drewN ?_ _) | (with_reducible refine Below.trans ?_ (Below.mono (Hid.out (by assumption)) ?_)) | omega | (simp; done) | (simp; omega)))
  · obtain ⟨hok, hF0, hF1, hpts, hck⟩ := accB_true hA
    have hfst := hok.fst
    obtain ⟨p, hp⟩ : ∃ p, p = (fst0 L).toNat := ⟨_, rfl⟩
    rw [← hp] at hok hfst
    obtain ⟨F, rfl⟩ : ∃ n : Nat, F = (n : Int) := ⟨F.toNat, by omega⟩
    have hF : F < p := by omega
    have HI := fun wx (hb : Below w.heap.size w wx) => iacc_any L hl (F : Int) S hs a b c d hc0 wx (h1.below hb) (h2.below hb)
    rw [hA] at HI
    have HI := Lib.hid HI
    have HA := Lib.hid hA
    have HOK := Lib.hid hok
    have HR1 := Lib.hid h1
    have HR2 := Lib.hid h2
    have HPTS := Lib.hid hpts
    have HFST := Lib.hid hfst
    have HP := Lib.hid hp
    have HCK := Lib.hid hck
    clear h1 h2 hA hF0 hF1 hfst hpts hck hp
    go_enter Try.func17, Try.ntmps17
    go_wp2_with fail
    refine (HI.out _ (by (repeat' (first | (with_reducible exact Below.refl _ _) | (with_reducible refine Below.alloc ?_ ?_ _) | (with_reducible refine Below.setCell ?_ ?_ _) | (with_reducible refine Below.drew ?_) | (with_reducible refine below_drewN ?_ _) | (with_reducible refine Below.trans ?_ (Below.mono (Hid.out (by assumption)) ?_)) | omega | (simp; done) | (simp; omega))))).mono ?_
    rintro e w1 ⟨rfl, hb⟩
    obtain ⟨hc, hf⟩ := bcell hb
    have hz1 := hb.size
    (try simp at hz1 hc hf)
    have HB := Lib.hid hb
    have hl0 : w.heap.size < w1.heap.size := by omega
    clear hb
    go_wp2_with fail
    refine (ird_any HOK.out (F : Int) S a b c d _ (HR1.out.below (by (repeat' (first | (with_reducible exact Below.refl _ _) | (with_reducible refine Below.alloc ?_ ?_ _) | (with_reducible refine Below.setCell ?_ ?_ _) | (with_reducible refine Below.drew ?_) | (with_reducible refine below_drewN ?_ _) | (with_reducible refine Below.trans ?_ (Below.mono (Hid.out (by assumption)) ?_)) | omega | (simp; done) | (simp; omega))))) (HR2.out.below (by (repeat' (first | (with_reducible exact Below.refl _ _) | (with_reducible refine Below.alloc ?_ ?_ _) | (with_reducible refine Below.setCell ?_ ?_ _) | (with_reducible refine Below.drew ?_) | (with_reducible refine below_drewN ?_ _) | (with_reducible refine Below.trans ?_ (Below.mono (Hid.out (by assumption)) ?_)) | omega | (simp; done) | (simp; omega)))))).mono ?_
    rintro e w2 ⟨gr, gt, cr, bx, rfl, ht, hh, hb⟩
    have hz2 := hb.size
    have HB2 := Lib.hid hb
    have HRP : Hid (Rp w2 gr gt bx p L S) := Lib.hid ⟨HOK.out, ht, hh, hs⟩
    clear hb ht hh hc hf
    go_wp2_with fail
    refine (iprs_any cr F hF _ HRP.out).mono ?_
    rintro e w3 ⟨v3, rfl, ho, hb⟩
    have hlen : (natL (ptsP L F)).length ≤ 2000000 := by rw [natL_len]; have := ptsP_len HOK.out hF; have := HOK.out.p5; omega
    obtain ⟨a3, c3, rfl, hrd⟩ := own_rd ho hlen
    have HB3 := Lib.hid hb
    have HRD := Lib.hid hrd
    clear hb ho hrd hlen
    go_wp2_with fail
    go_ret2
    rw [acnC_ok HA.out, prsL_ok HA.out]
    refine ⟨a3, c3, rfl, HRD.out.mono (by omega), ?_⟩
    (repeat' (first | (with_reducible exact Below.refl _ _) | (with_reducible refine Below.alloc ?_ ?_ _) | (with_reducible refine Below.setCell ?_ ?_ _) | (with_reducible refine Below.drew ?_) | (with_reducible refine below_drewN ?_ _) | (with_reducible refine Below.trans ?_ (Below.mono (Hid.out (by assumption)) ?_)) | omega | (simp; done) | (simp; omega)))

set_option maxRecDepth 100000 in
set_option maxHeartbeats 4000000 in
theorem sprt_any (L : List MapN) (hl : L.length ≤ 1048576) (F : Int) (S : List Int) (hs : S.length ≤ 1048576)  (a b : Option Addr) (c d : Nat) (_ : a = none → c = 0) (w : World) (h1 : InRowM w a L) (h2 : InRow w b S) :
    Calls Try.prog 16 #[.agg #[.slice a L.length c, .int .i64 F, .slice b S.length d]] w (RetRow w.heap.size (prsL L F S) (acnC L F S) w) := by
  cases hA : accB L F S
  · have HI := fun wx (hb : Below w.heap.size w wx) => sacc_any L hl F S hs a b c d wx (h1.below hb) (h2.below hb)
    rw [hA] at HI
    have HI := Lib.hid HI
    have HA := Lib.hid hA
    clear h1 h2 hA
    go_enter Try.func16, Try.ntmps16
    go_wp2_with fail
    refine (HI.out _ (by (repeat' (first | (with_reducible exact Below.refl _ _) | (with_reducible refine Below.alloc ?_ ?_ _) | (with_reducible refine Below.setCell ?_ ?_ _) | (with_reducible refine Below.drew ?_) | (with_reducible refine below_drewN ?_ _) | (with_reducible refine Below.trans ?_ (Below.mono (Hid.out (by assumption)) ?_)) | omega | (simp; done) | (simp; omega))))).mono ?_
    rintro e w1 ⟨rfl, hb⟩
    have HB := Lib.hid hb
    have hz1 := hb.size
    (try simp at hz1)
    clear hb
    go_wp2_with fail
    go_ret2
    rw [acnC_no HA.out, prsL_no HA.out]
    refine ⟨none, 0, rfl, ⟨by simp, Or.inl rfl⟩, ?_⟩
    (repeat' (first | (with_reducible exact Below.refl _ _) | (with_reducible refine Below.alloc ?_ ?_ _) | (with_reducible refine Below.setCell ?_ ?_ _) | (with_reducible refine Below.drew ?_) | (with_reducible refine below_drewN ?_ _) | (with_reducible refine Below.trans ?_ (Below.mono (Hid.out (by assumption)) ?_)) | omega | (simp; done) | (simp; omega)))
  · obtain ⟨hok, hF0, hF1, hpts, hck⟩ := accB_true hA
    have hfst := hok.fst
    obtain ⟨p, hp⟩ : ∃ p, p = (fst0 L).toNat := ⟨_, rfl⟩
    rw [← hp] at hok hfst
    obtain ⟨F, rfl⟩ : ∃ n : Nat, F = (n : Int) := ⟨F.toNat, by omega⟩
    have hF : F < p := by omega
    have HI := fun wx (hb : Below w.heap.size w wx) => sacc_any L hl (F : Int) S hs a b c d wx (h1.below hb) (h2.below hb)
    rw [hA] at HI
    have HI := Lib.hid HI
    have HA := Lib.hid hA
    have HOK := Lib.hid hok
    have HR1 := Lib.hid h1
    have HR2 := Lib.hid h2
    have HPTS := Lib.hid hpts
    have HFST := Lib.hid hfst
    have HP := Lib.hid hp
    have HCK := Lib.hid hck
    clear h1 h2 hA hF0 hF1 hfst hpts hck hp
    go_enter Try.func16, Try.ntmps16
    go_wp2_with fail
    refine (HI.out _ (by (repeat' (first | (with_reducible exact Below.refl _ _) | (with_reducible refine Below.alloc ?_ ?_ _) | (with_reducible refine Below.setCell ?_ ?_ _) | (with_reducible refine Below.drew ?_) | (with_reducible refine below_drewN ?_ _) | (with_reducible refine Below.trans ?_ (Below.mono (Hid.out (by assumption)) ?_)) | omega | (simp; done) | (simp; omega))))).mono ?_
    rintro e w1 ⟨rfl, hb⟩
    obtain ⟨hc, hf⟩ := bcell hb
    have hz1 := hb.size
    (try simp at hz1 hc hf)
    have HB := Lib.hid hb
    have hl0 : w.heap.size < w1.heap.size := by omega
    clear hb
    go_wp2_with fail
    refine (srch_any HOK.out hF S a b c d _ (HR1.out.below (by (repeat' (first | (with_reducible exact Below.refl _ _) | (with_reducible refine Below.alloc ?_ ?_ _) | (with_reducible refine Below.setCell ?_ ?_ _) | (with_reducible refine Below.drew ?_) | (with_reducible refine below_drewN ?_ _) | (with_reducible refine Below.trans ?_ (Below.mono (Hid.out (by assumption)) ?_)) | omega | (simp; done) | (simp; omega)))))).mono ?_
    rintro e w3 ⟨v3, rfl, ho, hb⟩
    have hlen : (natL (ptsP L F)).length ≤ 2000000 := by rw [natL_len]; have := ptsP_len HOK.out hF; have := HOK.out.p5; omega
    obtain ⟨a3, c3, rfl, hrd⟩ := own_rd ho hlen
    have HB3 := Lib.hid hb
    have HRD := Lib.hid hrd
    clear hb ho hrd hlen hc hf
    go_wp2_with fail
    go_ret2
    rw [acnC_ok HA.out, prsL_ok HA.out]
    refine ⟨a3, c3, rfl, HRD.out.mono (by omega), ?_⟩
    (repeat' (first | (with_reducible exact Below.refl _ _) | (with_reducible refine Below.alloc ?_ ?_ _) | (with_reducible refine Below.setCell ?_ ?_ _) | (with_reducible refine Below.drew ?_) | (with_reducible refine below_drewN ?_ _) | (with_reducible refine Below.trans ?_ (Below.mono (Hid.out (by assumption)) ?_)) | omega | (simp; done) | (simp; omega)))

end Go.Proofs.Ytiakoplfknkhmaa
