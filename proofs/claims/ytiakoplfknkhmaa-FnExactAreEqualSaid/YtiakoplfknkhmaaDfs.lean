/- The contracts of spec.l07Two, spec.FirstDifferent and spec.AreEqual. -/
import Derived.Test.YtiakoplfknkhmaaSap
import Derived.Test.YtiakoplfknkhmaaDif
namespace Go.Proofs.Ytiakoplfknkhmaa
open Go Go.RowKit

theorem two_val (L : List MapN) (F : Int) (S : List Int) (M : List MapN) (G : Int) (T : List Int) : (twoC L F S M G T = 0 ∧ accB L F S = true ∧ accB M G T = true ∧ L.length = M.length) ∨ twoC L F S M G T = 1 ∨ twoC L F S M G T = 5 := by
  cases h : accB L F S
  · exact Or.inr (Or.inl (two_a h))
  · cases h2 : accB M G T
    · exact Or.inr (Or.inl (two_b h2))
    · by_cases h3 : L.length = M.length
      · exact Or.inl ⟨two_0 h h2 h3, rfl, rfl, h3⟩
      · exact Or.inr (Or.inr (two_l h h2 h3))

/-- Whether two acceptors accept the same words; with an error no. -/
def aeqT (L : List MapN) (F : Int) (S : List Int) (M : List MapN) (G : Int) (T : List Int) : Bool := if twoC L F S M G T = 0 then (difO L F S M G T).isNone else false

theorem aeqV_eq (L : List MapN) (F : Int) (S : List Int) (M : List MapN) (G : Int) (T : List Int) : aeqV L F S M G T = .tuple #[.bool (aeqT L F S M G T), .int .i64 (twoC L F S M G T)] := by
  unfold aeqV aeqT
  by_cases h : twoC L F S M G T = 0
  · rw [if_pos h, if_pos h, h]
  · rw [if_neg h, if_neg h]

set_option maxRecDepth 100000 in
set_option maxHeartbeats 4000000 in
theorem stwo_any (L : List MapN) (hl : L.length ≤ 1048576) (F : Int) (S : List Int) (hs : S.length ≤ 1048576) (M : List MapN) (hm : M.length ≤ 1048576) (G : Int) (T : List Int) (ht : T.length ≤ 1048576)
    (a b : Option Addr) (c d : Nat) (a' b' : Option Addr) (c' d' : Nat) (w : World) (h1 : InRowM w a L) (h2 : InRow w b S) (h1' : InRowM w a' M) (h2' : InRow w b' T) :
    Calls Try.prog 54 #[.agg #[.slice a L.length c, .int .i64 F, .slice b S.length d], .agg #[.slice a' M.length c', .int .i64 G, .slice b' T.length d']] w fun e w' => e = .returned (.int .i64 (twoC L F S M G T)) ∧ Below w.heap.size w w' := by
  have HI1 := fun wx (hb : Below w.heap.size w wx) => sacc_any L hl F S hs a b c d wx (h1.below hb) (h2.below hb)
  have HI2 := fun wx (hb : Below w.heap.size w wx) => sacc_any M hm G T ht a' b' c' d' wx (h1'.below hb) (h2'.below hb)
  clear h1 h2 h1' h2'
  cases hA : accB L F S
  · rw [hA] at HI1
    have HI1 := Lib.hid HI1
    have HA := Lib.hid (two_a (M := M) (G := G) (T := T) hA)
    clear hA HI2
    go_enter Try.func54, Try.ntmps54
    go_wp2_with fail
    refine (HI1.out _ (by (repeat' (first | (with_reducible exact Below.refl _ _) | (with_reducible refine Below.alloc ?_ ?_ _) | (with_reducible refine Below.setCell ?_ ?_ _) | (with_reducible refine Below.drew ?_) | (with_reducible refine below_drewN ?_ _) | (with_reducible refine Below.trans ?_ (Below.mono (Hid.out (by assumption)) ?_)) | omega | (simp; done) | (simp; omega))))).mono ?_
    rintro e w1 ⟨rfl, hb⟩
    have HB := Lib.hid hb
    clear hb
    go_wp2_with fail
    go_ret
    refine ⟨by rw [HA.out]; rfl, ?_⟩
    (repeat' (first | (with_reducible exact Below.refl _ _) | (with_reducible refine Below.alloc ?_ ?_ _) | (with_reducible refine Below.setCell ?_ ?_ _) | (with_reducible refine Below.drew ?_) | (with_reducible refine below_drewN ?_ _) | (with_reducible refine Below.trans ?_ (Below.mono (Hid.out (by assumption)) ?_)) | omega | (simp; done) | (simp; omega)))
  · rw [hA] at HI1
    have HI1 := Lib.hid HI1
    cases hA2 : accB M G T
    · rw [hA2] at HI2
      have HI2 := Lib.hid HI2
      have HA := Lib.hid (two_b (L := L) (F := F) (S := S) hA2)
      clear hA hA2
      go_enter Try.func54, Try.ntmps54
      go_wp2_with fail
      refine (HI1.out _ (by (repeat' (first | (with_reducible exact Below.refl _ _) | (with_reducible refine Below.alloc ?_ ?_ _) | (with_reducible refine Below.setCell ?_ ?_ _) | (with_reducible refine Below.drew ?_) | (with_reducible refine below_drewN ?_ _) | (with_reducible refine Below.trans ?_ (Below.mono (Hid.out (by assumption)) ?_)) | omega | (simp; done) | (simp; omega))))).mono ?_
      rintro e w1 ⟨rfl, hb⟩
      obtain ⟨hc, hf⟩ := bcell hb
      have hz1 := hb.size
      (try simp at hz1 hc hf)
      have HB := Lib.hid hb
      have hl0 : w.heap.size + 1 < w1.heap.size := by omega
      have hl00 : w.heap.size < w1.heap.size := by omega
      clear hb
      go_wp2_with fail
      refine (HI2.out _ (by (repeat' (first | (with_reducible exact Below.refl _ _) | (with_reducible refine Below.alloc ?_ ?_ _) | (with_reducible refine Below.setCell ?_ ?_ _) | (with_reducible refine Below.drew ?_) | (with_reducible refine below_drewN ?_ _) | (with_reducible refine Below.trans ?_ (Below.mono (Hid.out (by assumption)) ?_)) | omega | (simp; done) | (simp; omega))))).mono ?_
      rintro e w2 ⟨rfl, hb⟩
      obtain ⟨hc2, hf2⟩ := bcell hb
      have hz2 := hb.size
      have HB2 := Lib.hid hb
      clear hb
      go_wp2_with fail
      go_ret
      refine ⟨by rw [HA.out]; rfl, ?_⟩
      (repeat' (first | (with_reducible exact Below.refl _ _) | (with_reducible refine Below.alloc ?_ ?_ _) | (with_reducible refine Below.setCell ?_ ?_ _) | (with_reducible refine Below.drew ?_) | (with_reducible refine below_drewN ?_ _) | (with_reducible refine Below.trans ?_ (Below.mono (Hid.out (by assumption)) ?_)) | omega | (simp; done) | (simp; omega)))
    · rw [hA2] at HI2
      have HI2 := Lib.hid HI2
      by_cases hlen : L.length = M.length
      · have HA := Lib.hid (two_0 hA hA2 hlen)
        have hne : (!((L.length : Int) == (M.length : Int))) = false := by simp [hlen]
        have hne2 : ((L.length : Int) != (M.length : Int)) = false := by simp [hlen]
        clear hA hA2 hlen
        go_enter Try.func54, Try.ntmps54
        go_wp2_with fail
        refine (HI1.out _ (by (repeat' (first | (with_reducible exact Below.refl _ _) | (with_reducible refine Below.alloc ?_ ?_ _) | (with_reducible refine Below.setCell ?_ ?_ _) | (with_reducible refine Below.drew ?_) | (with_reducible refine below_drewN ?_ _) | (with_reducible refine Below.trans ?_ (Below.mono (Hid.out (by assumption)) ?_)) | omega | (simp; done) | (simp; omega))))).mono ?_
        rintro e w1 ⟨rfl, hb⟩
        obtain ⟨hc, hf⟩ := bcell hb
        have hz1 := hb.size
        (try simp at hz1 hc hf)
        have HB := Lib.hid hb
        have hl0 : w.heap.size + 1 < w1.heap.size := by omega
        have hl00 : w.heap.size < w1.heap.size := by omega
        clear hb
        go_wp2_with fail
        refine (HI2.out _ (by (repeat' (first | (with_reducible exact Below.refl _ _) | (with_reducible refine Below.alloc ?_ ?_ _) | (with_reducible refine Below.setCell ?_ ?_ _) | (with_reducible refine Below.drew ?_) | (with_reducible refine below_drewN ?_ _) | (with_reducible refine Below.trans ?_ (Below.mono (Hid.out (by assumption)) ?_)) | omega | (simp; done) | (simp; omega))))).mono ?_
        rintro e w2 ⟨rfl, hb⟩
        obtain ⟨hc2, hf2⟩ := bcell hb
        have hz2 := hb.size
        have HB2 := Lib.hid hb
        clear hb
        go_wp2_with fail
        go_ret
        refine ⟨by rw [HA.out]; rfl, ?_⟩
        (repeat' (first | (with_reducible exact Below.refl _ _) | (with_reducible refine Below.alloc ?_ ?_ _) | (with_reducible refine Below.setCell ?_ ?_ _) | (with_reducible refine Below.drew ?_) | (with_reducible refine below_drewN ?_ _) | (with_reducible refine Below.trans ?_ (Below.mono (Hid.out (by assumption)) ?_)) | omega | (simp; done) | (simp; omega)))
      · have HA := Lib.hid (two_l hA hA2 hlen)
        have hne : (!((L.length : Int) == (M.length : Int))) = true := by simp; omega
        have hne2 : ((L.length : Int) != (M.length : Int)) = true := by simp; omega
        clear hA hA2 hlen
        go_enter Try.func54, Try.ntmps54
        go_wp2_with fail
        refine (HI1.out _ (by (repeat' (first | (with_reducible exact Below.refl _ _) | (with_reducible refine Below.alloc ?_ ?_ _) | (with_reducible refine Below.setCell ?_ ?_ _) | (with_reducible refine Below.drew ?_) | (with_reducible refine below_drewN ?_ _) | (with_reducible refine Below.trans ?_ (Below.mono (Hid.out (by assumption)) ?_)) | omega | (simp; done) | (simp; omega))))).mono ?_
        rintro e w1 ⟨rfl, hb⟩
        obtain ⟨hc, hf⟩ := bcell hb
        have hz1 := hb.size
        (try simp at hz1 hc hf)
        have HB := Lib.hid hb
        have hl0 : w.heap.size + 1 < w1.heap.size := by omega
        have hl00 : w.heap.size < w1.heap.size := by omega
        clear hb
        go_wp2_with fail
        refine (HI2.out _ (by (repeat' (first | (with_reducible exact Below.refl _ _) | (with_reducible refine Below.alloc ?_ ?_ _) | (with_reducible refine Below.setCell ?_ ?_ _) | (with_reducible refine Below.drew ?_) | (with_reducible refine below_drewN ?_ _) | (with_reducible refine Below.trans ?_ (Below.mono (Hid.out (by assumption)) ?_)) | omega | (simp; done) | (simp; omega))))).mono ?_
        rintro e w2 ⟨rfl, hb⟩
        obtain ⟨hc2, hf2⟩ := bcell hb
        have hz2 := hb.size
        have HB2 := Lib.hid hb
        clear hb
        go_wp2_with fail
        go_ret
        refine ⟨by rw [HA.out]; rfl, ?_⟩
        (repeat' (first | (with_reducible exact Below.refl _ _) | (with_reducible refine Below.alloc ?_ ?_ _) | (with_reducible refine Below.setCell ?_ ?_ _) | (with_reducible refine Below.drew ?_) | (with_reducible refine below_drewN ?_ _) | (with_reducible refine Below.trans ?_ (Below.mono (Hid.out (by assumption)) ?_)) | omega | (simp; done) | (simp; omega)))

set_option maxRecDepth 100000 in
set_option maxHeartbeats 4000000 in
theorem sdif_any (L : List MapN) (hl : L.length ≤ 1048576) (F : Int) (S : List Int) (hs : S.length ≤ 1048576) (M : List MapN) (hm : M.length ≤ 1048576) (G : Int) (T : List Int) (ht : T.length ≤ 1048576)
    (a b : Option Addr) (c d : Nat) (_ : a = none → c = 0) (a' b' : Option Addr) (c' d' : Nat) (_ : a' = none → c' = 0) (w : World) (h1 : InRowM w a L) (h2 : InRow w b S) (h1' : InRowM w a' M) (h2' : InRow w b' T) :
    Calls Try.prog 29 #[.agg #[.slice a L.length c, .int .i64 F, .slice b S.length d], .agg #[.slice a' M.length c', .int .i64 G, .slice b' T.length d']] w (RetRow w.heap.size (difW L F S M G T) (difC L F S M G T) w) := by
  have HT := fun wx (hb : Below w.heap.size w wx) => stwo_any L hl F S hs M hm G T ht a b c d a' b' c' d' wx (h1.below hb) (h2.below hb) (h1'.below hb) (h2'.below hb)
  rcases two_val L F S M G T with ⟨h0, hA, hA2, hlen⟩ | h0 | h0
  · rw [h0] at HT
    have HT := Lib.hid HT
    have hok := (accB_true hA).1
    have hok2 := (accB_true hA2).1
    have hfst := hok.fst
    have hfst2 := hok2.fst
    have hFb := (accB_true hA).2.1
    have hFc := (accB_true hA).2.2.1
    have hGb := (accB_true hA2).2.1
    have hGc := (accB_true hA2).2.2.1
    obtain ⟨F, rfl⟩ : ∃ n : Nat, F = (n : Int) := ⟨F.toNat, by omega⟩
    obtain ⟨G, rfl⟩ : ∃ n : Nat, G = (n : Int) := ⟨G.toNat, by omega⟩
    have HA := Lib.hid (dif_0 h0)
    obtain ⟨p, hp⟩ : ∃ p, p = (fst0 L).toNat := ⟨_, rfl⟩
    obtain ⟨m, hm'⟩ : ∃ m, m = (fst0 M).toNat := ⟨_, rfl⟩
    rw [← hp] at hok hfst
    rw [← hm'] at hok2 hfst2
    have hF : F < p := by omega
    have hG : G < m := by omega
    have HOK := Lib.hid hok
    have HOK2 := Lib.hid hok2
    have HPS : Hid (ptsB (p : Int) S = true) := Lib.hid (by rw [← hfst]; exact (accB_true hA).2.2.2.1)
    have HPT : Hid (ptsB (m : Int) T = true) := Lib.hid (by rw [← hfst2]; exact (accB_true hA2).2.2.2.1)
    have HR1 := Lib.hid h1
    have HR2 := Lib.hid h2
    have HR1' := Lib.hid h1'
    have HR2' := Lib.hid h2'
    have HLEN := Lib.hid hlen
    clear h1 h2 h1' h2' hok hok2 hfst hfst2 hFb hFc hGb hGc hA hA2 hlen hp hm' h0
    go_enter Try.func29, Try.ntmps29
    go_wp2_with fail
    refine (HT.out _ (by (repeat' (first | (with_reducible exact Below.refl _ _) | (with_reducible refine Below.alloc ?_ ?_ _) | (with_reducible refine Below.setCell ?_ ?_ _) | (with_reducible refine Below.drew ?_) | (with_reducible refine below_drewN ?_ _) | (with_reducible refine Below.trans ?_ (Below.mono (Hid.out (by assumption)) ?_)) | omega | (simp; done) | (simp; omega))))).mono ?_
    rintro e w1 ⟨rfl, hb⟩
    obtain ⟨hc, hf⟩ := bcell hb
    have hz1 := hb.size
    (try simp at hz1 hc hf)
    have HB := Lib.hid hb
    have hl0 : w.heap.size + 1 < w1.heap.size := by omega
    clear hb
    go_wp2_with fail
    cases ho : aprt L S M T F G
    · have HO := Lib.hid ho
      clear ho
      refine (sap_any HOK.out HOK2.out HLEN.out.symm S T HPS.out HPT.out hs ht F G hF hG (F : Int) (G : Int) a b c d a' b' c' d' _ (HR1.out.below (by (repeat' (first | (with_reducible exact Below.refl _ _) | (with_reducible refine Below.alloc ?_ ?_ _) | (with_reducible refine Below.setCell ?_ ?_ _) | (with_reducible refine Below.drew ?_) | (with_reducible refine below_drewN ?_ _) | (with_reducible refine Below.trans ?_ (Below.mono (Hid.out (by assumption)) ?_)) | omega | (simp; done) | (simp; omega))))) (HR2.out.below (by (repeat' (first | (with_reducible exact Below.refl _ _) | (with_reducible refine Below.alloc ?_ ?_ _) | (with_reducible refine Below.setCell ?_ ?_ _) | (with_reducible refine Below.drew ?_) | (with_reducible refine below_drewN ?_ _) | (with_reducible refine Below.trans ?_ (Below.mono (Hid.out (by assumption)) ?_)) | omega | (simp; done) | (simp; omega))))) (HR1'.out.below (by (repeat' (first | (with_reducible exact Below.refl _ _) | (with_reducible refine Below.alloc ?_ ?_ _) | (with_reducible refine Below.setCell ?_ ?_ _) | (with_reducible refine Below.drew ?_) | (with_reducible refine below_drewN ?_ _) | (with_reducible refine Below.trans ?_ (Below.mono (Hid.out (by assumption)) ?_)) | omega | (simp; done) | (simp; omega))))) (HR2'.out.below (by (repeat' (first | (with_reducible exact Below.refl _ _) | (with_reducible refine Below.alloc ?_ ?_ _) | (with_reducible refine Below.setCell ?_ ?_ _) | (with_reducible refine Below.drew ?_) | (with_reducible refine below_drewN ?_ _) | (with_reducible refine Below.trans ?_ (Below.mono (Hid.out (by assumption)) ?_)) | omega | (simp; done) | (simp; omega)))))).mono ?_
      rw [HO.out]
      rintro e w3 ⟨a3, c3, he, hrd, hb⟩
      have he : e = .returned (.tuple #[.slice a3 0 c3, .bool false]) := he
      subst he
      have HB3 := Lib.hid hb
      have hz3 := hb.size
      (try simp at hz3)
      clear hb hrd
      go_wp2_with fail
      go_ret2
      rw [HA.out.1, HA.out.2]
      refine ⟨none, 0, by rw [HO.out]; rfl, by rw [HO.out]; exact ⟨by decide, Or.inl rfl⟩, ?_⟩
      (repeat' (first | (with_reducible exact Below.refl _ _) | (with_reducible refine Below.alloc ?_ ?_ _) | (with_reducible refine Below.setCell ?_ ?_ _) | (with_reducible refine Below.drew ?_) | (with_reducible refine below_drewN ?_ _) | (with_reducible refine Below.trans ?_ (Below.mono (Hid.out (by assumption)) ?_)) | omega | (simp; done) | (simp; omega)))
    · rename_i wd
      have HO := Lib.hid ho
      clear ho
      refine (sap_any HOK.out HOK2.out HLEN.out.symm S T HPS.out HPT.out hs ht F G hF hG (F : Int) (G : Int) a b c d a' b' c' d' _ (HR1.out.below (by (repeat' (first | (with_reducible exact Below.refl _ _) | (with_reducible refine Below.alloc ?_ ?_ _) | (with_reducible refine Below.setCell ?_ ?_ _) | (with_reducible refine Below.drew ?_) | (with_reducible refine below_drewN ?_ _) | (with_reducible refine Below.trans ?_ (Below.mono (Hid.out (by assumption)) ?_)) | omega | (simp; done) | (simp; omega))))) (HR2.out.below (by (repeat' (first | (with_reducible exact Below.refl _ _) | (with_reducible refine Below.alloc ?_ ?_ _) | (with_reducible refine Below.setCell ?_ ?_ _) | (with_reducible refine Below.drew ?_) | (with_reducible refine below_drewN ?_ _) | (with_reducible refine Below.trans ?_ (Below.mono (Hid.out (by assumption)) ?_)) | omega | (simp; done) | (simp; omega))))) (HR1'.out.below (by (repeat' (first | (with_reducible exact Below.refl _ _) | (with_reducible refine Below.alloc ?_ ?_ _) | (with_reducible refine Below.setCell ?_ ?_ _) | (with_reducible refine Below.drew ?_) | (with_reducible refine below_drewN ?_ _) | (with_reducible refine Below.trans ?_ (Below.mono (Hid.out (by assumption)) ?_)) | omega | (simp; done) | (simp; omega))))) (HR2'.out.below (by (repeat' (first | (with_reducible exact Below.refl _ _) | (with_reducible refine Below.alloc ?_ ?_ _) | (with_reducible refine Below.setCell ?_ ?_ _) | (with_reducible refine Below.drew ?_) | (with_reducible refine below_drewN ?_ _) | (with_reducible refine Below.trans ?_ (Below.mono (Hid.out (by assumption)) ?_)) | omega | (simp; done) | (simp; omega)))))).mono ?_
      rw [HO.out]
      rintro e w3 ⟨a3, c3, he, hrd, hb⟩
      have he : e = .returned (.tuple #[.slice a3 wd.length c3, .bool true]) := he
      subst he
      have HRD : Hid (Rd w3 _ a3 wd) := Lib.hid hrd
      have HB3 := Lib.hid hb
      have hz3 := hb.size
      (try simp at hz3)
      clear hb hrd
      go_wp2_with fail
      go_ret2
      rw [HA.out.1, HA.out.2]
      refine ⟨a3, c3, by rw [HO.out]; rfl, by rw [HO.out]; exact HRD.out.mono (by first | omega | (simp; omega)), ?_⟩
      (repeat' (first | (with_reducible exact Below.refl _ _) | (with_reducible refine Below.alloc ?_ ?_ _) | (with_reducible refine Below.setCell ?_ ?_ _) | (with_reducible refine Below.drew ?_) | (with_reducible refine below_drewN ?_ _) | (with_reducible refine Below.trans ?_ (Below.mono (Hid.out (by assumption)) ?_)) | omega | (simp; done) | (simp; omega)))
  · rw [h0] at HT
    have HT := Lib.hid HT
    have HA := Lib.hid (dif_n h0 (by decide))
    clear h1 h2 h1' h2' h0
    go_enter Try.func29, Try.ntmps29
    go_wp2_with fail
    refine (HT.out _ (by (repeat' (first | (with_reducible exact Below.refl _ _) | (with_reducible refine Below.alloc ?_ ?_ _) | (with_reducible refine Below.setCell ?_ ?_ _) | (with_reducible refine Below.drew ?_) | (with_reducible refine below_drewN ?_ _) | (with_reducible refine Below.trans ?_ (Below.mono (Hid.out (by assumption)) ?_)) | omega | (simp; done) | (simp; omega))))).mono ?_
    rintro e w1 ⟨rfl, hb⟩
    have HB := Lib.hid hb
    clear hb
    go_wp2_with fail
    go_ret2
    rw [HA.out.1, HA.out.2]
    refine ⟨none, 0, rfl, ⟨by simp, Or.inl rfl⟩, ?_⟩
    (repeat' (first | (with_reducible exact Below.refl _ _) | (with_reducible refine Below.alloc ?_ ?_ _) | (with_reducible refine Below.setCell ?_ ?_ _) | (with_reducible refine Below.drew ?_) | (with_reducible refine below_drewN ?_ _) | (with_reducible refine Below.trans ?_ (Below.mono (Hid.out (by assumption)) ?_)) | omega | (simp; done) | (simp; omega)))
  · rw [h0] at HT
    have HT := Lib.hid HT
    have HA := Lib.hid (dif_n h0 (by decide))
    clear h1 h2 h1' h2' h0
    go_enter Try.func29, Try.ntmps29
    go_wp2_with fail
    refine (HT.out _ (by (repeat' (first | (with_reducible exact Below.refl _ _) | (with_reducible refine Below.alloc ?_ ?_ _) | (with_reducible refine Below.setCell ?_ ?_ _) | (with_reducible refine Below.drew ?_) | (with_reducible refine below_drewN ?_ _) | (with_reducible refine Below.trans ?_ (Below.mono (Hid.out (by assumption)) ?_)) | omega | (simp; done) | (simp; omega))))).mono ?_
    rintro e w1 ⟨rfl, hb⟩
    have HB := Lib.hid hb
    clear hb
    go_wp2_with fail
    go_ret2
    rw [HA.out.1, HA.out.2]
    refine ⟨none, 0, rfl, ⟨by simp, Or.inl rfl⟩, ?_⟩
    (repeat' (first | (with_reducible exact Below.refl _ _) | (with_reducible refine Below.alloc ?_ ?_ _) | (with_reducible refine Below.setCell ?_ ?_ _) | (with_reducible refine Below.drew ?_) | (with_reducible refine below_drewN ?_ _) | (with_reducible refine Below.trans ?_ (Below.mono (Hid.out (by assumption)) ?_)) | omega | (simp; done) | (simp; omega)))

set_option maxRecDepth 100000 in
set_option maxHeartbeats 4000000 in
theorem saeq_any (L : List MapN) (hl : L.length ≤ 1048576) (F : Int) (S : List Int) (hs : S.length ≤ 1048576) (M : List MapN) (hm : M.length ≤ 1048576) (G : Int) (T : List Int) (ht : T.length ≤ 1048576)
    (a b : Option Addr) (c d : Nat) (_ : a = none → c = 0) (a' b' : Option Addr) (c' d' : Nat) (_ : a' = none → c' = 0) (w : World) (h1 : InRowM w a L) (h2 : InRow w b S) (h1' : InRowM w a' M) (h2' : InRow w b' T) :
    Calls Try.prog 27 #[.agg #[.slice a L.length c, .int .i64 F, .slice b S.length d], .agg #[.slice a' M.length c', .int .i64 G, .slice b' T.length d']] w fun e w' => e = .returned (.tuple #[.bool (aeqT L F S M G T), .int .i64 (twoC L F S M G T)]) ∧ Below w.heap.size w w' := by
  have HT := fun wx (hb : Below w.heap.size w wx) => stwo_any L hl F S hs M hm G T ht a b c d a' b' c' d' wx (h1.below hb) (h2.below hb) (h1'.below hb) (h2'.below hb)
  rcases two_val L F S M G T with ⟨h0, hA, hA2, hlen⟩ | h0 | h0
  · rw [h0] at HT
    have HT := Lib.hid HT
    have hok := (accB_true hA).1
    have hok2 := (accB_true hA2).1
    have hfst := hok.fst
    have hfst2 := hok2.fst
    have hFb := (accB_true hA).2.1
    have hFc := (accB_true hA).2.2.1
    have hGb := (accB_true hA2).2.1
    have hGc := (accB_true hA2).2.2.1
    obtain ⟨F, rfl⟩ : ∃ n : Nat, F = (n : Int) := ⟨F.toNat, by omega⟩
    obtain ⟨G, rfl⟩ : ∃ n : Nat, G = (n : Int) := ⟨G.toNat, by omega⟩
    have HA := Lib.hid (show aeqT L F S M G T = (aprt L S M T F G).isNone ∧ twoC L F S M G T = 0 from ⟨by unfold aeqT difO; rw [if_pos h0, Int.toNat_natCast, Int.toNat_natCast], h0⟩)
    obtain ⟨p, hp⟩ : ∃ p, p = (fst0 L).toNat := ⟨_, rfl⟩
    obtain ⟨m, hm'⟩ : ∃ m, m = (fst0 M).toNat := ⟨_, rfl⟩
    rw [← hp] at hok hfst
    rw [← hm'] at hok2 hfst2
    have hF : F < p := by omega
    have hG : G < m := by omega
    have HOK := Lib.hid hok
    have HOK2 := Lib.hid hok2
    have HPS : Hid (ptsB (p : Int) S = true) := Lib.hid (by rw [← hfst]; exact (accB_true hA).2.2.2.1)
    have HPT : Hid (ptsB (m : Int) T = true) := Lib.hid (by rw [← hfst2]; exact (accB_true hA2).2.2.2.1)
    have HR1 := Lib.hid h1
    have HR2 := Lib.hid h2
    have HR1' := Lib.hid h1'
    have HR2' := Lib.hid h2'
    have HLEN := Lib.hid hlen
    clear h1 h2 h1' h2' hok hok2 hfst hfst2 hFb hFc hGb hGc hA hA2 hlen hp hm' h0
    go_enter Try.func27, Try.ntmps27
    go_wp2_with fail
    refine (HT.out _ (by (repeat' (first | (with_reducible exact Below.refl _ _) | (with_reducible refine Below.alloc ?_ ?_ _) | (with_reducible refine Below.setCell ?_ ?_ _) | (with_reducible refine Below.drew ?_) | (with_reducible refine below_drewN ?_ _) | (with_reducible refine Below.trans ?_ (Below.mono (Hid.out (by assumption)) ?_)) | omega | (simp; done) | (simp; omega))))).mono ?_
    rintro e w1 ⟨rfl, hb⟩
    obtain ⟨hc, hf⟩ := bcell hb
    have hz1 := hb.size
    (try simp at hz1 hc hf)
    have HB := Lib.hid hb
    have hl0 : w.heap.size + 1 < w1.heap.size := by omega
    clear hb
    go_wp2_with fail
    cases ho : aprt L S M T F G
    · have HO := Lib.hid ho
      clear ho
      refine (sap_any HOK.out HOK2.out HLEN.out.symm S T HPS.out HPT.out hs ht F G hF hG (F : Int) (G : Int) a b c d a' b' c' d' _ (HR1.out.below (by (repeat' (first | (with_reducible exact Below.refl _ _) | (with_reducible refine Below.alloc ?_ ?_ _) | (with_reducible refine Below.setCell ?_ ?_ _) | (with_reducible refine Below.drew ?_) | (with_reducible refine below_drewN ?_ _) | (with_reducible refine Below.trans ?_ (Below.mono (Hid.out (by assumption)) ?_)) | omega | (simp; done) | (simp; omega))))) (HR2.out.below (by (repeat' (first | (with_reducible exact Below.refl _ _) | (with_reducible refine Below.alloc ?_ ?_ _) | (with_reducible refine Below.setCell ?_ ?_ _) | (with_reducible refine Below.drew ?_) | (with_reducible refine below_drewN ?_ _) | (with_reducible refine Below.trans ?_ (Below.mono (Hid.out (by assumption)) ?_)) | omega | (simp; done) | (simp; omega))))) (HR1'.out.below (by (repeat' (first | (with_reducible exact Below.refl _ _) | (with_reducible refine Below.alloc ?_ ?_ _) | (with_reducible refine Below.setCell ?_ ?_ _) | (with_reducible refine Below.drew ?_) | (with_reducible refine below_drewN ?_ _) | (with_reducible refine Below.trans ?_ (Below.mono (Hid.out (by assumption)) ?_)) | omega | (simp; done) | (simp; omega))))) (HR2'.out.below (by (repeat' (first | (with_reducible exact Below.refl _ _) | (with_reducible refine Below.alloc ?_ ?_ _) | (with_reducible refine Below.setCell ?_ ?_ _) | (with_reducible refine Below.drew ?_) | (with_reducible refine below_drewN ?_ _) | (with_reducible refine Below.trans ?_ (Below.mono (Hid.out (by assumption)) ?_)) | omega | (simp; done) | (simp; omega)))))).mono ?_
      rw [HO.out]
      rintro e w3 ⟨a3, c3, he, hrd, hb⟩
      have he : e = .returned (.tuple #[.slice a3 0 c3, .bool false]) := he
      subst he
      have HB3 := Lib.hid hb
      have hz3 := hb.size
      (try simp at hz3)
      clear hb hrd
      go_wp2_with fail
      go_ret2
      rw [HA.out.1, HA.out.2]
      refine ⟨by rw [HO.out]; rfl, ?_⟩
      (repeat' (first | (with_reducible exact Below.refl _ _) | (with_reducible refine Below.alloc ?_ ?_ _) | (with_reducible refine Below.setCell ?_ ?_ _) | (with_reducible refine Below.drew ?_) | (with_reducible refine below_drewN ?_ _) | (with_reducible refine Below.trans ?_ (Below.mono (Hid.out (by assumption)) ?_)) | omega | (simp; done) | (simp; omega)))
    · rename_i wd
      have HO := Lib.hid ho
      clear ho
      refine (sap_any HOK.out HOK2.out HLEN.out.symm S T HPS.out HPT.out hs ht F G hF hG (F : Int) (G : Int) a b c d a' b' c' d' _ (HR1.out.below (by (repeat' (first | (with_reducible exact Below.refl _ _) | (with_reducible refine Below.alloc ?_ ?_ _) | (with_reducible refine Below.setCell ?_ ?_ _) | (with_reducible refine Below.drew ?_) | (with_reducible refine below_drewN ?_ _) | (with_reducible refine Below.trans ?_ (Below.mono (Hid.out (by assumption)) ?_)) | omega | (simp; done) | (simp; omega))))) (HR2.out.below (by (repeat' (first | (with_reducible exact Below.refl _ _) | (with_reducible refine Below.alloc ?_ ?_ _) | (with_reducible refine Below.setCell ?_ ?_ _) | (with_reducible refine Below.drew ?_) | (with_reducible refine below_drewN ?_ _) | (with_reducible refine Below.trans ?_ (Below.mono (Hid.out (by assumption)) ?_)) | omega | (simp; done) | (simp; omega))))) (HR1'.out.below (by (repeat' (first | (with_reducible exact Below.refl _ _) | (with_reducible refine Below.alloc ?_ ?_ _) | (with_reducible refine Below.setCell ?_ ?_ _) | (with_reducible refine Below.drew ?_) | (with_reducible refine below_drewN ?_ _) | (with_reducible refine Below.trans ?_ (Below.mono (Hid.out (by assumption)) ?_)) | omega | (simp; done) | (simp; omega))))) (HR2'.out.below (by (repeat' (first | (with_reducible exact Below.refl _ _) | (with_reducible refine Below.alloc ?_ ?_ _) | (with_reducible refine Below.setCell ?_ ?_ _) | (with_reducible refine Below.drew ?_) | (with_reducible refine below_drewN ?_ _) | (with_reducible refine Below.trans ?_ (Below.mono (Hid.out (by assumption)) ?_)) | omega | (simp; done) | (simp; omega)))))).mono ?_
      rw [HO.out]
      rintro e w3 ⟨a3, c3, he, hrd, hb⟩
      have he : e = .returned (.tuple #[.slice a3 wd.length c3, .bool true]) := he
      subst he
      have HRD : Hid (Rd w3 _ a3 wd) := Lib.hid hrd
      have HB3 := Lib.hid hb
      have hz3 := hb.size
      (try simp at hz3)
      clear hb hrd
      go_wp2_with fail
      go_ret2
      rw [HA.out.1, HA.out.2]
      refine ⟨by rw [HO.out]; rfl, ?_⟩
      (repeat' (first | (with_reducible exact Below.refl _ _) | (with_reducible refine Below.alloc ?_ ?_ _) | (with_reducible refine Below.setCell ?_ ?_ _) | (with_reducible refine Below.drew ?_) | (with_reducible refine below_drewN ?_ _) | (with_reducible refine Below.trans ?_ (Below.mono (Hid.out (by assumption)) ?_)) | omega | (simp; done) | (simp; omega)))
  · rw [h0] at HT
    have HT := Lib.hid HT
    have HA := Lib.hid (show aeqT L F S M G T = false ∧ twoC L F S M G T = _ from ⟨by unfold aeqT; rw [h0]; rfl, h0⟩)
    clear h1 h2 h1' h2' h0
    go_enter Try.func27, Try.ntmps27
    go_wp2_with fail
    refine (HT.out _ (by (repeat' (first | (with_reducible exact Below.refl _ _) | (with_reducible refine Below.alloc ?_ ?_ _) | (with_reducible refine Below.setCell ?_ ?_ _) | (with_reducible refine Below.drew ?_) | (with_reducible refine below_drewN ?_ _) | (with_reducible refine Below.trans ?_ (Below.mono (Hid.out (by assumption)) ?_)) | omega | (simp; done) | (simp; omega))))).mono ?_
    rintro e w1 ⟨rfl, hb⟩
    have HB := Lib.hid hb
    clear hb
    go_wp2_with fail
    go_ret2
    refine ⟨by rw [HA.out.1, HA.out.2]; rfl, ?_⟩
    (repeat' (first | (with_reducible exact Below.refl _ _) | (with_reducible refine Below.alloc ?_ ?_ _) | (with_reducible refine Below.setCell ?_ ?_ _) | (with_reducible refine Below.drew ?_) | (with_reducible refine below_drewN ?_ _) | (with_reducible refine Below.trans ?_ (Below.mono (Hid.out (by assumption)) ?_)) | omega | (simp; done) | (simp; omega)))
  · rw [h0] at HT
    have HT := Lib.hid HT
    have HA := Lib.hid (show aeqT L F S M G T = false ∧ twoC L F S M G T = _ from ⟨by unfold aeqT; rw [h0]; rfl, h0⟩)
    clear h1 h2 h1' h2' h0
    go_enter Try.func27, Try.ntmps27
    go_wp2_with fail
    refine (HT.out _ (by (repeat' (first | (with_reducible exact Below.refl _ _) | (with_reducible refine Below.alloc ?_ ?_ _) | (with_reducible refine Below.setCell ?_ ?_ _) | (with_reducible refine Below.drew ?_) | (with_reducible refine below_drewN ?_ _) | (with_reducible refine Below.trans ?_ (Below.mono (Hid.out (by assumption)) ?_)) | omega | (simp; done) | (simp; omega))))).mono ?_
    rintro e w1 ⟨rfl, hb⟩
    have HB := Lib.hid hb
    clear hb
    go_wp2_with fail
    go_ret2
    refine ⟨by rw [HA.out.1, HA.out.2]; rfl, ?_⟩
    (repeat' (first | (with_reducible exact Below.refl _ _) | (with_reducible refine Below.alloc ?_ ?_ _) | (with_reducible refine Below.setCell ?_ ?_ _) | (with_reducible refine Below.drew ?_) | (with_reducible refine below_drewN ?_ _) | (with_reducible refine Below.trans ?_ (Below.mono (Hid.out (by assumption)) ?_)) | omega | (simp; done) | (simp; omega)))

theorem iaeq2_any (L : List MapN) (hl : L.length ≤ 1048576) (F : Int) (S : List Int) (hs : S.length ≤ 1048576) (M : List MapN) (hm : M.length ≤ 1048576) (G : Int) (T : List Int) (ht : T.length ≤ 1048576)
    (a b : Option Addr) (c d : Nat) (hc0 : a = none → c = 0) (a' b' : Option Addr) (c' d' : Nat) (hc0' : a' = none → c' = 0) (w : World) (h1 : InRowM w a L) (h2 : InRow w b S) (h1' : InRowM w a' M) (h2' : InRow w b' T) :
    Calls Try.prog 28 #[.agg #[.slice a L.length c, .int .i64 F, .slice b S.length d], .agg #[.slice a' M.length c', .int .i64 G, .slice b' T.length d']] w fun e w' => e = .returned (.tuple #[.bool (aeqT L F S M G T), .int .i64 (twoC L F S M G T)]) ∧ Below w.heap.size w w' := by
  have h := iaeq_any L hl F S hs M hm G T ht a b c d hc0 a' b' c' d' hc0' w h1 h2 h1' h2'
  rw [aeqV_eq] at h
  exact h

end Go.Proofs.Ytiakoplfknkhmaa
