/- The contracts of impl.FirstAccepted and impl.FirstApart. -/
import Derived.Test.YtiakoplfknkhmaaFap
import Derived.Test.YtiakoplfknkhmaaPrt
namespace Go.Proofs.Ytiakoplfknkhmaa
open Go Go.RowKit

/-- The first word that is accepted, and its code. -/
def facO (L : List MapN) (F : Int) (S : List Int) : Option (List Int) := bfirst (lastB S) (rchP L F.toNat)
def facW (L : List MapN) (F : Int) (S : List Int) : List Int := if accB L F S = true then waW (facO L F S) else []
def facC (L : List MapN) (F : Int) (S : List Int) : Int := if accB L F S = true then waC (facO L F S) else 1

theorem facW_no {L : List MapN} {F : Int} {S : List Int} (h : accB L F S = false) : facW L F S = [] := by unfold facW; rw [if_neg (by rw [h]; exact Bool.false_ne_true)]
theorem facC_no {L : List MapN} {F : Int} {S : List Int} (h : accB L F S = false) : facC L F S = 1 := by unfold facC; rw [if_neg (by rw [h]; exact Bool.false_ne_true)]
theorem facW_ok {L : List MapN} {F : Nat} {S : List Int} (h : accB L F S = true) : facW L F S = waW (bfirst (lastB S) (rchP L F)) := by unfold facW; rw [if_pos h]; rfl
theorem facC_ok {L : List MapN} {F : Nat} {S : List Int} (h : accB L F S = true) : facC L F S = waC (bfirst (lastB S) (rchP L F)) := by unfold facC; rw [if_pos h]; rfl

/-- The first word that tells two points apart, and its code. -/
def fapW (L : List MapN) (F : Int) (S : List Int) (x y : Int) : List Int := if accB L F S = true then (if belB (fst0 L) [x, y] = true then waW (aprt L S L S x.toNat y.toNat) else []) else []
def fapC (L : List MapN) (F : Int) (S : List Int) (x y : Int) : Int := if accB L F S = true then (if belB (fst0 L) [x, y] = true then waC (aprt L S L S x.toNat y.toNat) else 2) else 1

theorem fap_no {L : List MapN} {F : Int} {S : List Int} {x y : Int} (h : accB L F S = false) : fapW L F S x y = [] ∧ fapC L F S x y = 1 := by
  unfold fapW fapC; rw [h]; exact ⟨rfl, rfl⟩
theorem fap_out {L : List MapN} {F : Int} {S : List Int} {x y : Int} (h : accB L F S = true) (h2 : belB (fst0 L) [x, y] = false) : fapW L F S x y = [] ∧ fapC L F S x y = 2 := by
  unfold fapW fapC; rw [h, h2]; exact ⟨rfl, rfl⟩
theorem fap_ok {L : List MapN} {F : Int} {S : List Int} {x y : Nat} (h : accB L F S = true) (h2 : belB (fst0 L) [(x : Int), (y : Int)] = true) : fapW L F S x y = waW (aprt L S L S x y) ∧ fapC L F S x y = waC (aprt L S L S x y) := by
  unfold fapW fapC; rw [if_pos h, if_pos h, if_pos h2, if_pos h2, Int.toNat_natCast, Int.toNat_natCast]; exact ⟨rfl, rfl⟩

theorem belB_two (n x y : Int) : belB n [x, y] = (inB x 0 (n - 1) && inB y 0 (n - 1)) := by
  rw [Bool.eq_iff_iff]
  simp [belB, inB]
  omega

set_option maxRecDepth 100000 in
set_option maxHeartbeats 4000000 in
theorem ifac_any (L : List MapN) (hl : L.length ≤ 1048576) (F : Int) (S : List Int) (hs : S.length ≤ 1048576)  (a b : Option Addr) (c d : Nat) (hc0 : a = none → c = 0) (w : World) (h1 : InRowM w a L) (h2 : InRow w b S) :
    Calls Try.prog 32 #[.agg #[.slice a L.length c, .int .i64 F, .slice b S.length d]] w (RetRow w.heap.size (facW L F S) (facC L F S) w) := by
  cases hA : accB L F S
  · have HI := fun wx (hb : Below w.heap.size w wx) => iacc_any L hl F S hs a b c d hc0 wx (h1.below hb) (h2.below hb)
    rw [hA] at HI
    have HI := Lib.hid HI
    have HA := Lib.hid hA
    clear h1 h2 hA
    go_enter Try.func32, Try.ntmps32
    go_wp2_with fail
    refine (HI.out _ (by (repeat' (first | (with_reducible exact Below.refl _ _) | (with_reducible refine Below.alloc ?_ ?_ _) | (with_reducible refine Below.setCell ?_ ?_ _) | (with_reducible refine Below.drew ?_) | (with_reducible refine below_drewN ?_ _) | (with_reducible refine Below.trans ?_ (Below.mono (Hid.out (by assumption)) ?_)) | omega | (simp; done) | (simp; omega))))).mono ?_
    rintro e w1 ⟨rfl, hb⟩
    have HB := Lib.hid hb
    have hz1 := hb.size
    (try simp at hz1)
    clear hb
    go_wp2_with fail
    go_ret2
    rw [facC_no HA.out, facW_no HA.out]
    refine ⟨none, 0, rfl, ⟨by simp, Or.inl rfl⟩, ?_⟩
    (repeat' (first | (with_reducible exact Below.refl _ _) | (with_reducible refine Below.alloc ?_ ?_ _) | (with_reducible refine Below.setCell ?_ ?_ _) | (with_reducible refine Below.drew ?_) | (with_reducible refine below_drewN ?_ _) | (with_reducible refine Below.trans ?_ (Below.mono (Hid.out (by assumption)) ?_)) | omega | (simp; done) | (simp; omega)))
  · obtain ⟨hok, hF0, hF1, hpts, hck⟩ := accB_true hA
    have hfst := hok.fst
    obtain ⟨p, hp⟩ : ∃ p, p = (fst0 L).toNat := ⟨_, rfl⟩
    rw [← hp] at hok hfst
    obtain ⟨F, rfl⟩ : ∃ n : Nat, F = (n : Int) := ⟨F.toNat, by omega⟩
    have hF : F < p := by omega
    have HI := fun wx (hb : Below w.heap.size w wx) => iacc_any L hl (F : Int) S hs a b c d hc0 wx (h1.below hb) (h2.below hb)
    rw [hA] at HI
    have HI := Lib.hid HI
    have HA := Lib.hid hA
    have HOK := Lib.hid hok
    have HR1 := Lib.hid h1
    have HR2 := Lib.hid h2
    have HPTS := Lib.hid hpts
    have HFST := Lib.hid hfst
    have HP := Lib.hid hp
    have HCK := Lib.hid hck
    clear h1 h2 hA hF0 hF1 hfst hpts hck hp
    go_enter Try.func32, Try.ntmps32
    go_wp2_with fail
    refine (HI.out _ (by (repeat' (first | (with_reducible exact Below.refl _ _) | (with_reducible refine Below.alloc ?_ ?_ _) | (with_reducible refine Below.setCell ?_ ?_ _) | (with_reducible refine Below.drew ?_) | (with_reducible refine below_drewN ?_ _) | (with_reducible refine Below.trans ?_ (Below.mono (Hid.out (by assumption)) ?_)) | omega | (simp; done) | (simp; omega))))).mono ?_
    rintro e w1 ⟨rfl, hb⟩
    obtain ⟨hc, hf⟩ := bcell hb
    have hz1 := hb.size
    (try simp at hz1 hc hf)
    have HB := Lib.hid hb
    have hl0 : w.heap.size < w1.heap.size := by omega
    clear hb
    go_wp2_with fail
    refine (ird_any HOK.out (F : Int) S a b c d _ (HR1.out.below (by (repeat' (first | (with_reducible exact Below.refl _ _) | (with_reducible refine Below.alloc ?_ ?_ _) | (with_reducible refine Below.setCell ?_ ?_ _) | (with_reducible refine Below.drew ?_) | (with_reducible refine below_drewN ?_ _) | (with_reducible refine Below.trans ?_ (Below.mono (Hid.out (by assumption)) ?_)) | omega | (simp; done) | (simp; omega))))) (HR2.out.below (by (repeat' (first | (with_reducible exact Below.refl _ _) | (with_reducible refine Below.alloc ?_ ?_ _) | (with_reducible refine Below.setCell ?_ ?_ _) | (with_reducible refine Below.drew ?_) | (with_reducible refine below_drewN ?_ _) | (with_reducible refine Below.trans ?_ (Below.mono (Hid.out (by assumption)) ?_)) | omega | (simp; done) | (simp; omega)))))).mono ?_
    rintro e w2 ⟨gr, gt, cr, bx, rfl, ht, hh, hb⟩
    have hz2 := hb.size
    have HB2 := Lib.hid hb
    have HRP : Hid (Rp w2 gr gt bx p L S) := Lib.hid ⟨HOK.out, ht, hh, hs⟩
    clear hb ht hh hc hf
    go_wp2_with fail
    refine (ifp_any cr F hF _ HRP.out).mono ?_
    rintro e w3 ⟨a3, c3, rfl, hrd, hb⟩
    have HB3 := Lib.hid hb
    have HRD := Lib.hid hrd
    have hz3 := hb.size
    clear hb hrd
    go_wp2_with fail
    go_ret2
    rw [facC_ok HA.out, facW_ok HA.out]
    refine ⟨a3, c3, rfl, HRD.out.mono (by omega), ?_⟩
    (repeat' (first | (with_reducible exact Below.refl _ _) | (with_reducible refine Below.alloc ?_ ?_ _) | (with_reducible refine Below.setCell ?_ ?_ _) | (with_reducible refine Below.drew ?_) | (with_reducible refine below_drewN ?_ _) | (with_reducible refine Below.trans ?_ (Below.mono (Hid.out (by assumption)) ?_)) | omega | (simp; done) | (simp; omega)))

set_option maxRecDepth 100000 in
set_option maxHeartbeats 4000000 in
theorem ifapt_any (L : List MapN) (hl : L.length ≤ 1048576) (F : Int) (S : List Int) (hs : S.length ≤ 1048576) (x y : Int) (a b : Option Addr) (c d : Nat) (hc0 : a = none → c = 0) (w : World) (h1 : InRowM w a L) (h2 : InRow w b S) :
    Calls Try.prog 23 #[.agg #[.slice a L.length c, .int .i64 F, .slice b S.length d], .int .i64 x, .int .i64 y] w (RetRow w.heap.size (fapW L F S x y) (fapC L F S x y) w) := by
  cases hA : accB L F S
  · have HI := fun wx (hb : Below w.heap.size w wx) => iacc_any L hl F S hs a b c d hc0 wx (h1.below hb) (h2.below hb)
    rw [hA] at HI
    have HI := Lib.hid HI
    have HA := Lib.hid hA
    clear h1 h2 hA
    go_enter Try.func23, Try.ntmps23
    go_wp2_with fail
    refine (HI.out _ (by (repeat' (first | (with_reducible exact Below.refl _ _) | (with_reducible refine Below.alloc ?_ ?_ _) | (with_reducible refine Below.setCell ?_ ?_ _) | (with_reducible refine Below.drew ?_) | (with_reducible refine below_drewN ?_ _) | (with_reducible refine Below.trans ?_ (Below.mono (Hid.out (by assumption)) ?_)) | omega | (simp; done) | (simp; omega))))).mono ?_
    rintro e w1 ⟨rfl, hb⟩
    have HB := Lib.hid hb
    have hz1 := hb.size
    (try simp at hz1)
    clear hb
    go_wp2_with fail
    go_ret2
    rw [(fap_no HA.out).1, (fap_no HA.out).2]
    refine ⟨none, 0, rfl, ⟨by simp, Or.inl rfl⟩, ?_⟩
    (repeat' (first | (with_reducible exact Below.refl _ _) | (with_reducible refine Below.alloc ?_ ?_ _) | (with_reducible refine Below.setCell ?_ ?_ _) | (with_reducible refine Below.drew ?_) | (with_reducible refine below_drewN ?_ _) | (with_reducible refine Below.trans ?_ (Below.mono (Hid.out (by assumption)) ?_)) | omega | (simp; done) | (simp; omega)))
  · obtain ⟨hok, hF0, hF1, hpts, hck⟩ := accB_true hA
    have hfst := hok.fst
    obtain ⟨p, hp⟩ : ∃ p, p = (fst0 L).toNat := ⟨_, rfl⟩
    rw [← hp] at hok hfst
    obtain ⟨F, rfl⟩ : ∃ n : Nat, F = (n : Int) := ⟨F.toNat, by omega⟩
    have hF : F < p := by omega
    have HI := fun wx (hb : Below w.heap.size w wx) => iacc_any L hl (F : Int) S hs a b c d hc0 wx (h1.below hb) (h2.below hb)
    rw [hA] at HI
    have HI := Lib.hid HI
    have HA := Lib.hid hA
    have HOK := Lib.hid hok
    have HR1 := Lib.hid h1
    have HR2 := Lib.hid h2
    have HPTS := Lib.hid hpts
    have HFST := Lib.hid hfst
    have HP := Lib.hid hp
    have HCK := Lib.hid hck
    clear h1 h2 hA hF0 hF1 hfst hpts hck hp
    go_enter Try.func23, Try.ntmps23
    go_wp2_with fail
    refine (HI.out _ (by (repeat' (first | (with_reducible exact Below.refl _ _) | (with_reducible refine Below.alloc ?_ ?_ _) | (with_reducible refine Below.setCell ?_ ?_ _) | (with_reducible refine Below.drew ?_) | (with_reducible refine below_drewN ?_ _) | (with_reducible refine Below.trans ?_ (Below.mono (Hid.out (by assumption)) ?_)) | omega | (simp; done) | (simp; omega))))).mono ?_
    rintro e w1 ⟨rfl, hb⟩
    obtain ⟨hc, hf⟩ := bcell hb
    have hz1 := hb.size
    (try simp at hz1 hc hf)
    have HB := Lib.hid hb
    have hl0 : w.heap.size < w1.heap.size := by omega
    clear hb
    have HW1 : Hid (Below w.heap.size w w1) := Lib.hid (by (repeat' (first | (with_reducible exact Below.refl _ _) | (with_reducible refine Below.alloc ?_ ?_ _) | (with_reducible refine Below.setCell ?_ ?_ _) | (with_reducible refine Below.drew ?_) | (with_reducible refine below_drewN ?_ _) | (with_reducible refine Below.trans ?_ (Below.mono (Hid.out (by assumption)) ?_)) | omega | (simp; done) | (simp; omega))))
    have hl1 := HOK.out.l1
    have hpos' : 0 < L.length := by omega
    have hrow := HR1.out.below HW1.out
    obtain ⟨g, off, rfl, hlt, hat⟩ := hrow.at0 hpos'
    have h0 : w1.cell? ⟨g, off, none⟩ = some (.int .i64 (p : Int)) := by rw [← HOK.out.pts 0 hpos']; exact hat.1
    have HF2 := fun wx : World => below_any (p : Int) [x, y] (by simp) (some ⟨wx.heap.size, 0, none⟩) 2 (wx.alloc (.cells #[.int .i64 x, .int .i64 y] 2)) (Or.inr ⟨_, 0, rfl, by simp, fun i hi => by
      rcases (by simp at hi; omega : i = 0 ∨ i = 1) with rfl | rfl
      · exact Joins.cell_of_block (halloc_at _ _ _ rfl) 0
      · exact Joins.cell_of_block (halloc_at _ _ _ rfl) 1⟩)
    simp only [List.length_cons, List.length_nil, Nat.zero_add, Nat.reduceAdd] at HF2
    clear hrow hat
    have hFST := HFST.out
    cases hbe : belB (p : Int) [x, y]
    · rw [hbe] at HF2
      have HF2 := Lib.hid HF2
      have HBE : Hid (belB (fst0 L) [x, y] = false) := Lib.hid (by rw [hFST]; exact hbe)
      clear hbe hFST
      go_wp2_with fail
      refine (HF2.out _).mono ?_
      rintro e w2 ⟨rfl, rfl⟩
      go_wp2_with fail
      go_ret2
      rw [(fap_out HA.out HBE.out).1, (fap_out HA.out HBE.out).2]
      refine ⟨none, 0, rfl, ⟨by simp, Or.inl rfl⟩, ?_⟩
      (repeat' (first | (with_reducible exact Below.refl _ _) | (with_reducible refine Below.alloc ?_ ?_ _) | (with_reducible refine Below.setCell ?_ ?_ _) | (with_reducible refine Below.drew ?_) | (with_reducible refine below_drewN ?_ _) | (with_reducible refine Below.trans ?_ (Below.mono (Hid.out (by assumption)) ?_)) | omega | (simp; done) | (simp; omega)))
    · have hbe2 := hbe
      rw [belB_two, Bool.and_eq_true] at hbe2
      have i1 := inB_true.1 hbe2.1
      have i2 := inB_true.1 hbe2.2
      obtain ⟨x, rfl⟩ : ∃ n : Nat, x = (n : Int) := ⟨x.toNat, by omega⟩
      obtain ⟨y, rfl⟩ : ∃ n : Nat, y = (n : Int) := ⟨y.toNat, by omega⟩
      have hx : x < p := by omega
      have hy : y < p := by omega
      rw [hbe] at HF2
      have HF2 := Lib.hid HF2
      have HBE : Hid (belB (fst0 L) [(x : Int), (y : Int)] = true) := Lib.hid (by rw [hFST]; exact hbe)
      clear hbe hbe2 i1 i2 hFST
      go_wp2_with fail
      refine (HF2.out _).mono ?_
      rintro e w2' ⟨rfl, rfl⟩
      go_wp2_with fail
      refine (ird_any HOK.out (F : Int) S (some ⟨g, off, none⟩) b c d _ (HR1.out.below (by (repeat' (first | (with_reducible exact Below.refl _ _) | (with_reducible refine Below.alloc ?_ ?_ _) | (with_reducible refine Below.setCell ?_ ?_ _) | (with_reducible refine Below.drew ?_) | (with_reducible refine below_drewN ?_ _) | (with_reducible refine Below.trans ?_ (Below.mono (Hid.out (by assumption)) ?_)) | omega | (simp; done) | (simp; omega))))) (HR2.out.below (by (repeat' (first | (with_reducible exact Below.refl _ _) | (with_reducible refine Below.alloc ?_ ?_ _) | (with_reducible refine Below.setCell ?_ ?_ _) | (with_reducible refine Below.drew ?_) | (with_reducible refine below_drewN ?_ _) | (with_reducible refine Below.trans ?_ (Below.mono (Hid.out (by assumption)) ?_)) | omega | (simp; done) | (simp; omega)))))).mono ?_
      rintro e w3 ⟨gr, gt, cr, bx, rfl, ht, hh, hb⟩
      have hz3 := hb.size
      have HB3 := Lib.hid hb
      have HRP : Hid (Rp w3 gr gt bx p L S) := Lib.hid ⟨HOK.out, ht, hh, hs⟩
      (try simp at hz3)
      clear hb ht hh
      go_wp2_with fail
      refine (ifap_any cr (F : Int) x y hx hy _ HRP.out).mono ?_
      rintro e w4 ⟨a3, c3, rfl, hrd, hb⟩
      have HB4 := Lib.hid hb
      have HRD := Lib.hid hrd
      have hz4 := hb.size
      clear hb hrd
      go_wp2_with fail
      go_ret2
      rw [(fap_ok HA.out HBE.out).1, (fap_ok HA.out HBE.out).2]
      refine ⟨a3, c3, rfl, HRD.out.mono (by omega), ?_⟩
      (repeat' (first | (with_reducible exact Below.refl _ _) | (with_reducible refine Below.alloc ?_ ?_ _) | (with_reducible refine Below.setCell ?_ ?_ _) | (with_reducible refine Below.drew ?_) | (with_reducible refine below_drewN ?_ _) | (with_reducible refine Below.trans ?_ (Below.mono (Hid.out (by assumption)) ?_)) | omega | (simp; done) | (simp; omega)))

end Go.Proofs.Ytiakoplfknkhmaa
