/- The contracts of spec.FirstAccepted and spec.FirstApart. -/
import Derived.Test.YtiakoplfknkhmaaSap
import Derived.Test.YtiakoplfknkhmaaFai
namespace Go.Proofs.Ytiakoplfknkhmaa
open Go Go.RowKit

set_option maxRecDepth 100000 in
set_option maxHeartbeats 4000000 in
theorem sfac_any (L : List MapN) (hl : L.length ≤ 1048576) (F : Int) (S : List Int) (hs : S.length ≤ 1048576)  (a b : Option Addr) (c d : Nat) (_ : a = none → c = 0) (w : World) (h1 : InRowM w a L) (h2 : InRow w b S) :
    Calls Try.prog 31 #[.agg #[.slice a L.length c, .int .i64 F, .slice b S.length d]] w (RetRow w.heap.size (facW L F S) (facC L F S) w) := by
  cases hA : accB L F S
  · have HI := fun wx (hb : Below w.heap.size w wx) => sacc_any L hl F S hs a b c d wx (h1.below hb) (h2.below hb)
    rw [hA] at HI
    have HI := Lib.hid HI
    have HA := Lib.hid hA
    clear h1 h2 hA
    go_enter Try.func31, Try.ntmps31
    go_wp2_with fail
    refine (HI.out _ (by (repeat' (first | (with_reducible exact Below.refl _ _) | (with_reducible refine Below.alloc ?_ ?_ _) | (with_reducible refine Below.setCell ?_ ?_ _) | (with_reducible refine Below.drew ?_) | (with_reducible refine below_drewN ?_ _) | (with_reducible refine Below.trans ?_ (Below.mono (Hid.out (by assumption)) ?_)) | omega | (simp; done) | (simp; omega))))).mono ?_
    rintro e w1 ⟨rfl, hb⟩
    have HB := Lib.hid hb
    have hz1 := hb.size
    (try simp at hz1)
    clear hb
    go_wp2_with fail
    go_ret2
    rw [facC_no HA.out, facW_no HA.out]
    refine ⟨none, 0, rfl, ⟨by simp, Or.inl rfl⟩, ?_⟩
    (repeat' (first | (with_reducible exact Below.refl _ _) | (with_reducible refine Below.alloc ?_ ?_ _) | (with_reducible refine Below.setCell ?_ ?_ _) | (with_reducible refine Below.drew ?_) | (with_reducible refine below_drewN ?_ _) | (with_reducible refine Below.trans ?_ (Below.mono (Hid.out (by assumption)) ?_)) | omega | (simp; done) | (simp; omega)))
  · obtain ⟨hok, hF0, hF1, hpts, hck⟩ := accB_true hA
    have hfst := hok.fst
    obtain ⟨p, hp⟩ : ∃ p, p = (fst0 L).toNat := ⟨_, rfl⟩
    rw [← hp] at hok hfst
    obtain ⟨F, rfl⟩ : ∃ n : Nat, F = (n : Int) := ⟨F.toNat, by omega⟩
    have hF : F < p := by omega
    have HI := fun wx (hb : Below w.heap.size w wx) => sacc_any L hl (F : Int) S hs a b c d wx (h1.below hb) (h2.below hb)
    rw [hA] at HI
    have HI := Lib.hid HI
    have HA := Lib.hid hA
    have HOK := Lib.hid hok
    have HR1 := Lib.hid h1
    have HR2 := Lib.hid h2
    have HPTS : Hid (ptsB (p : Int) S = true) := Lib.hid (by rw [← hfst]; exact hpts)
    have HFST := Lib.hid hfst
    have HP := Lib.hid hp
    clear h1 h2 hA hF0 hF1 hfst hpts hck hp
    go_enter Try.func31, Try.ntmps31
    go_wp2_with fail
    refine (HI.out _ (by (repeat' (first | (with_reducible exact Below.refl _ _) | (with_reducible refine Below.alloc ?_ ?_ _) | (with_reducible refine Below.setCell ?_ ?_ _) | (with_reducible refine Below.drew ?_) | (with_reducible refine below_drewN ?_ _) | (with_reducible refine Below.trans ?_ (Below.mono (Hid.out (by assumption)) ?_)) | omega | (simp; done) | (simp; omega))))).mono ?_
    rintro e w1 ⟨rfl, hb⟩
    obtain ⟨hc, hf⟩ := bcell hb
    have hz1 := hb.size
    (try simp at hz1 hc hf)
    have HB := Lib.hid hb
    have hl0 : w.heap.size < w1.heap.size := by omega
    clear hb
    have hfo : bfirst (lastB S) (rchP L F) = aprt L S L [] F F := (aprt_none_last L S F).symm
    have HFO := Lib.hid hfo
    clear hfo
    go_wp2_with fail
    cases ho : aprt L S L [] F F
    · have HO := Lib.hid ho
      clear ho
      refine (sap_any HOK.out HOK.out rfl S [] HPTS.out rfl hs (by simp) F F hF hF (F : Int) (F : Int) a b c d a none c 0 _ (HR1.out.below (by (repeat' (first | (with_reducible exact Below.refl _ _) | (with_reducible refine Below.alloc ?_ ?_ _) | (with_reducible refine Below.setCell ?_ ?_ _) | (with_reducible refine Below.drew ?_) | (with_reducible refine below_drewN ?_ _) | (with_reducible refine Below.trans ?_ (Below.mono (Hid.out (by assumption)) ?_)) | omega | (simp; done) | (simp; omega))))) (HR2.out.below (by (repeat' (first | (with_reducible exact Below.refl _ _) | (with_reducible refine Below.alloc ?_ ?_ _) | (with_reducible refine Below.setCell ?_ ?_ _) | (with_reducible refine Below.drew ?_) | (with_reducible refine below_drewN ?_ _) | (with_reducible refine Below.trans ?_ (Below.mono (Hid.out (by assumption)) ?_)) | omega | (simp; done) | (simp; omega))))) (HR1.out.below (by (repeat' (first | (with_reducible exact Below.refl _ _) | (with_reducible refine Below.alloc ?_ ?_ _) | (with_reducible refine Below.setCell ?_ ?_ _) | (with_reducible refine Below.drew ?_) | (with_reducible refine below_drewN ?_ _) | (with_reducible refine Below.trans ?_ (Below.mono (Hid.out (by assumption)) ?_)) | omega | (simp; done) | (simp; omega))))) (Or.inl rfl)).mono ?_
      rw [HO.out]
      rintro e w3 ⟨a3, c3, he, hrd, hb⟩
      have he : e = .returned (.tuple #[.slice a3 0 c3, .bool false]) := he
      subst he
      have HB3 := Lib.hid hb
      have hz3 := hb.size
      (try simp at hz3)
      clear hb hrd
      go_wp2_with fail
      go_ret2
      rw [facW_ok HA.out, facC_ok HA.out, HFO.out]
      refine ⟨none, 0, by rw [HO.out]; rfl, by rw [HO.out]; exact ⟨by decide, Or.inl rfl⟩, ?_⟩
      (repeat' (first | (with_reducible exact Below.refl _ _) | (with_reducible refine Below.alloc ?_ ?_ _) | (with_reducible refine Below.setCell ?_ ?_ _) | (with_reducible refine Below.drew ?_) | (with_reducible refine below_drewN ?_ _) | (with_reducible refine Below.trans ?_ (Below.mono (Hid.out (by assumption)) ?_)) | omega | (simp; done) | (simp; omega)))
    · rename_i wd
      have HO := Lib.hid ho
      clear ho
      refine (sap_any HOK.out HOK.out rfl S [] HPTS.out rfl hs (by simp) F F hF hF (F : Int) (F : Int) a b c d a none c 0 _ (HR1.out.below (by (repeat' (first | (with_reducible exact Below.refl _ _) | (with_reducible refine Below.alloc ?_ ?_ _) | (with_reducible refine Below.setCell ?_ ?_ _) | (with_reducible refine Below.drew ?_) | (with_reducible refine below_drewN ?_ _) | (with_reducible refine Below.trans ?_ (Below.mono (Hid.out (by assumption)) ?_)) | omega | (simp; done) | (simp; omega))))) (HR2.out.below (by (repeat' (first | (with_reducible exact Below.refl _ _) | (with_reducible refine Below.alloc ?_ ?_ _) | (with_reducible refine Below.setCell ?_ ?_ _) | (with_reducible refine Below.drew ?_) | (with_reducible refine below_drewN ?_ _) | (with_reducible refine Below.trans ?_ (Below.mono (Hid.out (by assumption)) ?_)) | omega | (simp; done) | (simp; omega))))) (HR1.out.below (by (repeat' (first | (with_reducible exact Below.refl _ _) | (with_reducible refine Below.alloc ?_ ?_ _) | (with_reducible refine Below.setCell ?_ ?_ _) | (with_reducible refine Below.drew ?_) | (with_reducible refine below_drewN ?_ _) | (with_reducible refine Below.trans ?_ (Below.mono (Hid.out (by assumption)) ?_)) | omega | (simp; done) | (simp; omega))))) (Or.inl rfl)).mono ?_
      rw [HO.out]
      rintro e w3 ⟨a3, c3, he, hrd, hb⟩
      have he : e = .returned (.tuple #[.slice a3 wd.length c3, .bool true]) := he
      subst he
      have HRD : Hid (Rd w3 _ a3 wd) := Lib.hid hrd
      have HB3 := Lib.hid hb
      have hz3 := hb.size
      (try simp at hz3)
      clear hb hrd
      go_wp2_with fail
      go_ret2
      rw [facW_ok HA.out, facC_ok HA.out, HFO.out]
      refine ⟨a3, c3, by rw [HO.out]; rfl, by rw [HO.out]; exact HRD.out.mono (by first | omega | (simp; omega)), ?_⟩
      (repeat' (first | (with_reducible exact Below.refl _ _) | (with_reducible refine Below.alloc ?_ ?_ _) | (with_reducible refine Below.setCell ?_ ?_ _) | (with_reducible refine Below.drew ?_) | (with_reducible refine below_drewN ?_ _) | (with_reducible refine Below.trans ?_ (Below.mono (Hid.out (by assumption)) ?_)) | omega | (simp; done) | (simp; omega)))

set_option maxRecDepth 100000 in
set_option maxHeartbeats 4000000 in
theorem sfapt_any (L : List MapN) (hl : L.length ≤ 1048576) (F : Int) (S : List Int) (hs : S.length ≤ 1048576) (x y : Int) (a b : Option Addr) (c d : Nat) (_ : a = none → c = 0) (w : World) (h1 : InRowM w a L) (h2 : InRow w b S) :
    Calls Try.prog 22 #[.agg #[.slice a L.length c, .int .i64 F, .slice b S.length d], .int .i64 x, .int .i64 y] w (RetRow w.heap.size (fapW L F S x y) (fapC L F S x y) w) := by
  cases hA : accB L F S
  · have HI := fun wx (hb : Below w.heap.size w wx) => sacc_any L hl F S hs a b c d wx (h1.below hb) (h2.below hb)
    rw [hA] at HI
    have HI := Lib.hid HI
    have HA := Lib.hid hA
    clear h1 h2 hA
    go_enter Try.func22, Try.ntmps22
    go_wp2_with fail
    refine (HI.out _ (by (repeat' (first | (with_reducible exact Below.refl _ _) | (with_reducible refine Below.alloc ?_ ?_ _) | (with_reducible refine Below.setCell ?_ ?_ _) | (with_reducible refine Below.drew ?_) | (with_reducible refine below_drewN ?_ _) | (with_reducible refine Below.trans ?_ (Below.mono (Hid.out (by assumption)) ?_)) | omega | (simp; done) | (simp; omega))))).mono ?_
    rintro e w1 ⟨rfl, hb⟩
    have HB := Lib.hid hb
    have hz1 := hb.size
    (try simp at hz1)
    clear hb
    go_wp2_with fail
    go_ret2
    rw [(fap_no HA.out).1, (fap_no HA.out).2]
    refine ⟨none, 0, rfl, ⟨by simp, Or.inl rfl⟩, ?_⟩
    (repeat' (first | (with_reducible exact Below.refl _ _) | (with_reducible refine Below.alloc ?_ ?_ _) | (with_reducible refine Below.setCell ?_ ?_ _) | (with_reducible refine Below.drew ?_) | (with_reducible refine below_drewN ?_ _) | (with_reducible refine Below.trans ?_ (Below.mono (Hid.out (by assumption)) ?_)) | omega | (simp; done) | (simp; omega)))
  · obtain ⟨hok, hF0, hF1, hpts, hck⟩ := accB_true hA
    have hfst := hok.fst
    obtain ⟨p, hp⟩ : ∃ p, p = (fst0 L).toNat := ⟨_, rfl⟩
    rw [← hp] at hok hfst
    obtain ⟨F, rfl⟩ : ∃ n : Nat, F = (n : Int) := ⟨F.toNat, by omega⟩
    have hF : F < p := by omega
    have HI := fun wx (hb : Below w.heap.size w wx) => sacc_any L hl (F : Int) S hs a b c d wx (h1.below hb) (h2.below hb)
    rw [hA] at HI
    have HI := Lib.hid HI
    have HA := Lib.hid hA
    have HOK := Lib.hid hok
    have HR1 := Lib.hid h1
    have HR2 := Lib.hid h2
    have HPTS : Hid (ptsB (p : Int) S = true) := Lib.hid (by rw [← hfst]; exact hpts)
    have HFST := Lib.hid hfst
    have HP := Lib.hid hp
    clear h1 h2 hA hF0 hF1 hfst hpts hck hp
    go_enter Try.func22, Try.ntmps22
    go_wp2_with fail
    refine (HI.out _ (by (repeat' (first | (with_reducible exact Below.refl _ _) | (with_reducible refine Below.alloc ?_ ?_ _) | (with_reducible refine Below.setCell ?_ ?_ _) | (with_reducible refine Below.drew ?_) | (with_reducible refine below_drewN ?_ _) | (with_reducible refine Below.trans ?_ (Below.mono (Hid.out (by assumption)) ?_)) | omega | (simp; done) | (simp; omega))))).mono ?_
    rintro e w1 ⟨rfl, hb⟩
    obtain ⟨hc, hf⟩ := bcell hb
    have hz1 := hb.size
    (try simp at hz1 hc hf)
    have HB := Lib.hid hb
    have hl0 : w.heap.size < w1.heap.size := by omega
    clear hb
    have HW1 : Hid (Below w.heap.size w w1) := Lib.hid (by (repeat' (first | (with_reducible exact Below.refl _ _) | (with_reducible refine Below.alloc ?_ ?_ _) | (with_reducible refine Below.setCell ?_ ?_ _) | (with_reducible refine Below.drew ?_) | (with_reducible refine below_drewN ?_ _) | (with_reducible refine Below.trans ?_ (Below.mono (Hid.out (by assumption)) ?_)) | omega | (simp; done) | (simp; omega))))
    have hp5 := HOK.out.p5
    have hp1 := HOK.out.p1
    have hl1 := HOK.out.l1
    have hpos' : 0 < L.length := by omega
    have hrow := HR1.out.below HW1.out
    obtain ⟨g, off, rfl, hlt, hat⟩ := hrow.at0 hpos'
    have h0 : w1.cell? ⟨g, off, none⟩ = some (.int .i64 (p : Int)) := by rw [← HOK.out.pts 0 hpos']; exact hat.1
    clear hrow hat
    have hwr : IntKind.i64.wrap ((p : Int) - 1) = (p : Int) - 1 := IntWalk.i64_in _ (by omega)
    cases hi1 : inB x 0 ((p : Int) - 1)
    · have HBE : Hid (belB (fst0 L) [x, y] = false) := Lib.hid (by rw [HFST.out, belB_two, hi1]; rfl)
      go_wp2_with (go_at_call 48; (try rw [hwr]); refine (in_any _ _ _ _).mono ?_; rintro e w' ⟨rfl, rfl⟩; rw [hi1])
      go_ret2
      rw [(fap_out HA.out HBE.out).1, (fap_out HA.out HBE.out).2]
      refine ⟨none, 0, rfl, ⟨by simp, Or.inl rfl⟩, ?_⟩
      (repeat' (first | (with_reducible exact Below.refl _ _) | (with_reducible refine Below.alloc ?_ ?_ _) | (with_reducible refine Below.setCell ?_ ?_ _) | (with_reducible refine Below.drew ?_) | (with_reducible refine below_drewN ?_ _) | (with_reducible refine Below.trans ?_ (Below.mono (Hid.out (by assumption)) ?_)) | omega | (simp; done) | (simp; omega)))
    · cases hi2 : inB y 0 ((p : Int) - 1)
      · have HBE : Hid (belB (fst0 L) [x, y] = false) := Lib.hid (by rw [HFST.out, belB_two, hi1, hi2]; rfl)
        go_wp2_with (go_at_call 48; (try rw [hwr]); refine (in_any _ _ _ _).mono ?_; rintro e w' ⟨rfl, rfl⟩; (first | rw [hi1] | rw [hi2]))
        go_ret2
        rw [(fap_out HA.out HBE.out).1, (fap_out HA.out HBE.out).2]
        refine ⟨none, 0, rfl, ⟨by simp, Or.inl rfl⟩, ?_⟩
        (repeat' (first | (with_reducible exact Below.refl _ _) | (with_reducible refine Below.alloc ?_ ?_ _) | (with_reducible refine Below.setCell ?_ ?_ _) | (with_reducible refine Below.drew ?_) | (with_reducible refine below_drewN ?_ _) | (with_reducible refine Below.trans ?_ (Below.mono (Hid.out (by assumption)) ?_)) | omega | (simp; done) | (simp; omega)))
      · have HBE : Hid (belB (fst0 L) [x, y] = true) := Lib.hid (by rw [HFST.out, belB_two, hi1, hi2]; rfl)
        have i1 := inB_true.1 hi1
        have i2 := inB_true.1 hi2
        obtain ⟨x, rfl⟩ : ∃ n : Nat, x = (n : Int) := ⟨x.toNat, by omega⟩
        obtain ⟨y, rfl⟩ : ∃ n : Nat, y = (n : Int) := ⟨y.toNat, by omega⟩
        have hx : x < p := by omega
        have hy : y < p := by omega
        clear i1 i2
        go_wp2_with (go_at_call 48; (try rw [hwr]); refine (in_any _ _ _ _).mono ?_; rintro e w' ⟨rfl, rfl⟩; (first | rw [hi1] | rw [hi2]))
        cases ho : aprt L S L S x y
        · have HO := Lib.hid ho
          clear ho
          refine (sap_any HOK.out HOK.out rfl S S HPTS.out HPTS.out hs hs x y hx hy (F : Int) (F : Int) (some ⟨g, off, none⟩) b c d (some ⟨g, off, none⟩) b c d _ (HR1.out.below (by (repeat' (first | (with_reducible exact Below.refl _ _) | (with_reducible refine Below.alloc ?_ ?_ _) | (with_reducible refine Below.setCell ?_ ?_ _) | (with_reducible refine Below.drew ?_) | (with_reducible refine below_drewN ?_ _) | (with_reducible refine Below.trans ?_ (Below.mono (Hid.out (by assumption)) ?_)) | omega | (simp; done) | (simp; omega))))) (HR2.out.below (by (repeat' (first | (with_reducible exact Below.refl _ _) | (with_reducible refine Below.alloc ?_ ?_ _) | (with_reducible refine Below.setCell ?_ ?_ _) | (with_reducible refine Below.drew ?_) | (with_reducible refine below_drewN ?_ _) | (with_reducible refine Below.trans ?_ (Below.mono (Hid.out (by assumption)) ?_)) | omega | (simp; done) | (simp; omega))))) (HR1.out.below (by (repeat' (first | (with_reducible exact Below.refl _ _) | (with_reducible refine Below.alloc ?_ ?_ _) | (with_reducible refine Below.setCell ?_ ?_ _) | (with_reducible refine Below.drew ?_) | (with_reducible refine below_drewN ?_ _) | (with_reducible refine Below.trans ?_ (Below.mono (Hid.out (by assumption)) ?_)) | omega | (simp; done) | (simp; omega))))) (HR2.out.below (by (repeat' (first | (with_reducible exact Below.refl _ _) | (with_reducible refine Below.alloc ?_ ?_ _) | (with_reducible refine Below.setCell ?_ ?_ _) | (with_reducible refine Below.drew ?_) | (with_reducible refine below_drewN ?_ _) | (with_reducible refine Below.trans ?_ (Below.mono (Hid.out (by assumption)) ?_)) | omega | (simp; done) | (simp; omega)))))).mono ?_
          rw [HO.out]
          rintro e w3 ⟨a3, c3, he, hrd, hb⟩
          have he : e = .returned (.tuple #[.slice a3 0 c3, .bool false]) := he
          subst he
          have HB3 := Lib.hid hb
          have hz3 := hb.size
          (try simp at hz3)
          clear hb hrd
          go_wp2_with fail
          go_ret2
          rw [(fap_ok HA.out HBE.out).1, (fap_ok HA.out HBE.out).2]
          refine ⟨none, 0, by rw [HO.out]; rfl, by rw [HO.out]; exact ⟨by decide, Or.inl rfl⟩, ?_⟩
          (repeat' (first | (with_reducible exact Below.refl _ _) | (with_reducible refine Below.alloc ?_ ?_ _) | (with_reducible refine Below.setCell ?_ ?_ _) | (with_reducible refine Below.drew ?_) | (with_reducible refine below_drewN ?_ _) | (with_reducible refine Below.trans ?_ (Below.mono (Hid.out (by assumption)) ?_)) | omega | (simp; done) | (simp; omega)))
        · rename_i wd
          have HO := Lib.hid ho
          clear ho
          refine (sap_any HOK.out HOK.out rfl S S HPTS.out HPTS.out hs hs x y hx hy (F : Int) (F : Int) (some ⟨g, off, none⟩) b c d (some ⟨g, off, none⟩) b c d _ (HR1.out.below (by (repeat' (first | (with_reducible exact Below.refl _ _) | (with_reducible refine Below.alloc ?_ ?_ _) | (with_reducible refine Below.setCell ?_ ?_ _) | (with_reducible refine Below.drew ?_) | (with_reducible refine below_drewN ?_ _) | (with_reducible refine Below.trans ?_ (Below.mono (Hid.out (by assumption)) ?_)) | omega | (simp; done) | (simp; omega))))) (HR2.out.below (by (repeat' (first | (with_reducible exact Below.refl _ _) | (with_reducible refine Below.alloc ?_ ?_ _) | (with_reducible refine Below.setCell ?_ ?_ _) | (with_reducible refine Below.drew ?_) | (with_reducible refine below_drewN ?_ _) | (with_reducible refine Below.trans ?_ (Below.mono (Hid.out (by assumption)) ?_)) | omega | (simp; done) | (simp; omega))))) (HR1.out.below (by (repeat' (first | (with_reducible exact Below.refl _ _) | (with_reducible refine Below.alloc ?_ ?_ _) | (with_reducible refine Below.setCell ?_ ?_ _) | (with_reducible refine Below.drew ?_) | (with_reducible refine below_drewN ?_ _) | (with_reducible refine Below.trans ?_ (Below.mono (Hid.out (by assumption)) ?_)) | omega | (simp; done) | (simp; omega))))) (HR2.out.below (by (repeat' (first | (with_reducible exact Below.refl _ _) | (with_reducible refine Below.alloc ?_ ?_ _) | (with_reducible refine Below.setCell ?_ ?_ _) | (with_reducible refine Below.drew ?_) | (with_reducible refine below_drewN ?_ _) | (with_reducible refine Below.trans ?_ (Below.mono (Hid.out (by assumption)) ?_)) | omega | (simp; done) | (simp; omega)))))).mono ?_
          rw [HO.out]
          rintro e w3 ⟨a3, c3, he, hrd, hb⟩
          have he : e = .returned (.tuple #[.slice a3 wd.length c3, .bool true]) := he
          subst he
          have HRD : Hid (Rd w3 _ a3 wd) := Lib.hid hrd
          have HB3 := Lib.hid hb
          have hz3 := hb.size
          (try simp at hz3)
          clear hb hrd
          go_wp2_with fail
          go_ret2
          rw [(fap_ok HA.out HBE.out).1, (fap_ok HA.out HBE.out).2]
          refine ⟨a3, c3, by rw [HO.out]; rfl, by rw [HO.out]; exact HRD.out.mono (by first | omega | (simp; omega)), ?_⟩
          (repeat' (first | (with_reducible exact Below.refl _ _) | (with_reducible refine Below.alloc ?_ ?_ _) | (with_reducible refine Below.setCell ?_ ?_ _) | (with_reducible refine Below.drew ?_) | (with_reducible refine below_drewN ?_ _) | (with_reducible refine Below.trans ?_ (Below.mono (Hid.out (by assumption)) ?_)) | omega | (simp; done) | (simp; omega)))

end Go.Proofs.Ytiakoplfknkhmaa
