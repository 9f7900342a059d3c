/- The contracts of impl.FirstDifferent and impl.AreEqual. -/
import Derived.Test.YtiakoplfknkhmaaFai
import Derived.Deep.RegionHeld3
namespace Go.Proofs.Ytiakoplfknkhmaa
open Go Go.RowKit

/-- The code of two acceptors: 1 if one is none, 5 if they have not as many maps. -/
def twoC (L : List MapN) (F : Int) (S : List Int) (M : List MapN) (G : Int) (T : List Int) : Int :=
  if (accB L F S && accB M G T) = true then (if L.length = M.length then 0 else 5) else 1

/-- The first word that just one of two acceptors accepts. -/
def difO (L : List MapN) (F : Int) (S : List Int) (M : List MapN) (G : Int) (T : List Int) : Option (List Int) := aprt L S M T F.toNat G.toNat
def difW (L : List MapN) (F : Int) (S : List Int) (M : List MapN) (G : Int) (T : List Int) : List Int := if twoC L F S M G T = 0 then waW (difO L F S M G T) else []
def difC (L : List MapN) (F : Int) (S : List Int) (M : List MapN) (G : Int) (T : List Int) : Int := if twoC L F S M G T = 0 then waC (difO L F S M G T) else twoC L F S M G T

theorem two_a {L : List MapN} {F : Int} {S : List Int} {M : List MapN} {G : Int} {T : List Int} (h : accB L F S = false) : twoC L F S M G T = 1 := by unfold twoC; rw [h]; rfl
theorem two_b {L : List MapN} {F : Int} {S : List Int} {M : List MapN} {G : Int} {T : List Int} (h : accB M G T = false) : twoC L F S M G T = 1 := by unfold twoC; rw [h, Bool.and_false]; rfl
theorem two_l {L : List MapN} {F : Int} {S : List Int} {M : List MapN} {G : Int} {T : List Int} (h : accB L F S = true) (h2 : accB M G T = true) (hl : L.length ≠ M.length) : twoC L F S M G T = 5 := by unfold twoC; rw [h, h2, if_neg hl]; rfl
theorem two_0 {L : List MapN} {F : Int} {S : List Int} {M : List MapN} {G : Int} {T : List Int} (h : accB L F S = true) (h2 : accB M G T = true) (hl : L.length = M.length) : twoC L F S M G T = 0 := by unfold twoC; rw [h, h2, if_pos hl]; rfl
theorem dif_n {L : List MapN} {F : Int} {S : List Int} {M : List MapN} {G : Int} {T : List Int} {c : Int} (h : twoC L F S M G T = c) (h0 : c ≠ 0) : difW L F S M G T = [] ∧ difC L F S M G T = c := by
  unfold difW difC; rw [h, if_neg h0, if_neg h0]; exact ⟨rfl, rfl⟩
theorem dif_0 {L : List MapN} {F : Nat} {S : List Int} {M : List MapN} {G : Nat} {T : List Int} (h : twoC L F S M G T = 0) : difW L F S M G T = waW (aprt L S M T F G) ∧ difC L F S M G T = waC (aprt L S M T F G) := by
  unfold difW difC difO; rw [h, if_pos rfl, if_pos rfl, Int.toNat_natCast, Int.toNat_natCast]; exact ⟨rfl, rfl⟩

set_option maxRecDepth 100000 in
set_option maxHeartbeats 8000000 in
theorem idif_any (L : List MapN) (hl : L.length ≤ 1048576) (F : Int) (S : List Int) (hs : S.length ≤ 1048576) (M : List MapN) (hm : M.length ≤ 1048576) (G : Int) (T : List Int) (ht : T.length ≤ 1048576)
    (a b : Option Addr) (c d : Nat) (hc0 : a = none → c = 0) (a' b' : Option Addr) (c' d' : Nat) (hc0' : a' = none → c' = 0) (w : World) (h1 : InRowM w a L) (h2 : InRow w b S) (h1' : InRowM w a' M) (h2' : InRow w b' T) :
    Calls Try.prog 30 #[.agg #[.slice a L.length c, .int .i64 F, .slice b S.length d], .agg #[.slice a' M.length c', .int .i64 G, .slice b' T.length d']] w (RetRow w.heap.size (difW L F S M G T) (difC L F S M G T) w) := by
  have HI1 := fun wx (hb : Below w.heap.size w wx) => iacc_any L hl F S hs a b c d hc0 wx (h1.below hb) (h2.below hb)
  have HI2 := fun wx (hb : Below w.heap.size w wx) => iacc_any M hm G T ht a' b' c' d' hc0' wx (h1'.below hb) (h2'.below hb)
  cases hA : accB L F S
  · rw [hA] at HI1
    have HI1 := Lib.hid HI1
    have HA := Lib.hid (dif_n (two_a (M := M) (G := G) (T := T) hA) (by decide))
    clear h1 h2 h1' h2' hA HI2
    go_enter Try.func30, Try.ntmps30
    go_wp2_with fail
    refine (HI1.out _ (by (repeat' (first | (with_reducible exact Below.refl _ _) | (with_reducible refine Below.alloc ?_ ?_ _) | (with_reducible refine Below.setCell ?_ ?_ _) | (with_reducible refine Below.drew ?_) | (with_reducible refine below_drewN ?_ _) | (with_reducible refine Below.trans ?_ (Below.mono (Hid.out (by assumption)) ?_)) | omega | (simp; done) | (simp; omega))))).mono ?_
    rintro e w1 ⟨rfl, hb⟩
    have HB := Lib.hid hb
    clear hb
    go_wp2_with fail
    go_ret2
    rw [HA.out.1, HA.out.2]
    refine ⟨none, 0, rfl, ⟨by simp, Or.inl rfl⟩, ?_⟩
    (repeat' (first | (with_reducible exact Below.refl _ _) | (with_reducible refine Below.alloc ?_ ?_ _) | (with_reducible refine Below.setCell ?_ ?_ _) | (with_reducible refine Below.drew ?_) | (with_reducible refine below_drewN ?_ _) | (with_reducible refine Below.trans ?_ (Below.mono (Hid.out (by assumption)) ?_)) | omega | (simp; done) | (simp; omega)))
  · rw [hA] at HI1
    have HI1 := Lib.hid HI1
    cases hA2 : accB M G T
    · rw [hA2] at HI2
      have HI2 := Lib.hid HI2
      have HA := Lib.hid (dif_n (two_b (L := L) (F := F) (S := S) hA2) (by decide))
      clear h1 h2 h1' h2' hA hA2
      go_enter Try.func30, Try.ntmps30
      go_wp2_with fail
      refine (HI1.out _ (by (repeat' (first | (with_reducible exact Below.refl _ _) | (with_reducible refine Below.alloc ?_ ?_ _) | (with_reducible refine Below.setCell ?_ ?_ _) | (with_reducible refine Below.drew ?_) | (with_reducible refine below_drewN ?_ _) | (with_reducible refine Below.trans ?_ (Below.mono (Hid.out (by assumption)) ?_)) | omega | (simp; done) | (simp; omega))))).mono ?_
      rintro e w1 ⟨rfl, hb⟩
      obtain ⟨hc, hf⟩ := bcell hb
      have hz1 := hb.size
      (try simp at hz1 hc hf)
      have HB := Lib.hid hb
      have hl0 : w.heap.size + 1 < w1.heap.size := by omega
      clear hb
      go_wp2_with fail
      refine (HI2.out _ (by (repeat' (first | (with_reducible exact Below.refl _ _) | (with_reducible refine Below.alloc ?_ ?_ _) | (with_reducible refine Below.setCell ?_ ?_ _) | (with_reducible refine Below.drew ?_) | (with_reducible refine below_drewN ?_ _) | (with_reducible refine Below.trans ?_ (Below.mono (Hid.out (by assumption)) ?_)) | omega | (simp; done) | (simp; omega))))).mono ?_
      rintro e w2 ⟨rfl, hb⟩
      have HB2 := Lib.hid hb
      clear hb
      go_wp2_with fail
      go_ret2
      rw [HA.out.1, HA.out.2]
      refine ⟨none, 0, rfl, ⟨by simp, Or.inl rfl⟩, ?_⟩
      (repeat' (first | (with_reducible exact Below.refl _ _) | (with_reducible refine Below.alloc ?_ ?_ _) | (with_reducible refine Below.setCell ?_ ?_ _) | (with_reducible refine Below.drew ?_) | (with_reducible refine below_drewN ?_ _) | (with_reducible refine Below.trans ?_ (Below.mono (Hid.out (by assumption)) ?_)) | omega | (simp; done) | (simp; omega)))
    · rw [hA2] at HI2
      have HI2 := Lib.hid HI2
      obtain ⟨wb, hwb⟩ : ∃ wb, wb = (w.alloc (.cells #[.slice a L.length c, .int .i64 F, .slice b S.length d] 30)).alloc (.cells #[.slice a' M.length c', .int .i64 G, .slice b' T.length d'] 30) := ⟨_, rfl⟩
      have HWB : Hid (Below w.heap.size w wb) := Lib.hid (by rw [hwb]; exact ((Below.refl _ _).alloc (Nat.le_refl _) _).alloc (by simp) _)
      have hbx : wb.heap[w.heap.size]? = some (.cells #[.slice a L.length c, .int .i64 F, .slice b S.length d] 30 (0, 0)) := by rw [hwb]; exact (halloc_lt _ _ _ (by simp)).trans (halloc_at _ _ _ rfl)
      have hby : wb.heap[w.heap.size + 1]? = some (.cells #[.slice a' M.length c', .int .i64 G, .slice b' T.length d'] 30 (0, 0)) := by rw [hwb]; exact halloc_at _ _ _ (by simp)
      have hwz : w.heap.size + 1 < wb.heap.size := (Array.getElem?_eq_some_iff.1 hby).1
      have r0 : ∀ z, Below wb.heap.size wb z → z.cell? ⟨w.heap.size, 0, none⟩ = some (.slice a L.length c) := fun z h => Joins.cell_of_block ((h.block _ (by omega)).trans hbx) 0
      have r1 : ∀ z, Below wb.heap.size wb z → z.cell? ⟨w.heap.size, 1, none⟩ = some (.int .i64 F) := fun z h => Joins.cell_of_block ((h.block _ (by omega)).trans hbx) 1
      have r2 : ∀ z, Below wb.heap.size wb z → z.cell? ⟨w.heap.size, 2, none⟩ = some (.slice b S.length d) := fun z h => Joins.cell_of_block ((h.block _ (by omega)).trans hbx) 2
      have s0 : ∀ z, Below wb.heap.size wb z → z.cell? ⟨w.heap.size + 1, 0, none⟩ = some (.slice a' M.length c') := fun z h => Joins.cell_of_block ((h.block _ (by omega)).trans hby) 0
      have s1 : ∀ z, Below wb.heap.size wb z → z.cell? ⟨w.heap.size + 1, 1, none⟩ = some (.int .i64 G) := fun z h => Joins.cell_of_block ((h.block _ (by omega)).trans hby) 1
      have s2 : ∀ z, Below wb.heap.size wb z → z.cell? ⟨w.heap.size + 1, 2, none⟩ = some (.slice b' T.length d') := fun z h => Joins.cell_of_block ((h.block _ (by omega)).trans hby) 2
      clear hbx hby
      by_cases hlen : L.length = M.length
      · have hok := (accB_true hA).1
        have hok2 := (accB_true hA2).1
        have hFb := (accB_true hA).2.1
        have hFc := (accB_true hA).2.2.1
        have hGb := (accB_true hA2).2.1
        have hGc := (accB_true hA2).2.2.1
        obtain ⟨F, rfl⟩ : ∃ n : Nat, F = (n : Int) := ⟨F.toNat, by omega⟩
        obtain ⟨G, rfl⟩ : ∃ n : Nat, G = (n : Int) := ⟨G.toNat, by omega⟩
        have HA := Lib.hid (dif_0 (two_0 hA hA2 hlen))
        obtain ⟨p, hp⟩ : ∃ p, p = (fst0 L).toNat := ⟨_, rfl⟩
        obtain ⟨m, hm'⟩ : ∃ m, m = (fst0 M).toNat := ⟨_, rfl⟩
        rw [← hp] at hok
        rw [← hm'] at hok2
        have hF : F < p := by omega
        have hG : G < m := by omega
        have HOK := Lib.hid hok
        have HOK2 := Lib.hid hok2
        have HR1 := Lib.hid h1
        have HR2 := Lib.hid h2
        have HR1' := Lib.hid h1'
        have HR2' := Lib.hid h2'
        have HLEN := Lib.hid hlen
        have hne : ((L.length : Int) != (M.length : Int)) = false := by simp [hlen]
        clear h1 h2 h1' h2' hA hA2 hok hok2 hFb hFc hGb hGc hp hm' hlen
        go_enter Try.func30, Try.ntmps30
        go_wp2_with fail
        rw [← hwb]
        clear hwb
        refine (HI1.out _ HWB.out).mono ?_
        rintro e w1 ⟨rfl, hb⟩
        have HB := Lib.hid hb
        have hz1 := hb.size
        have y0 := s0 _ hb
        have y1 := s1 _ hb
        have y2 := s2 _ hb
        clear hb
        go_wp2_with fail
        refine (HI2.out _ (by (repeat' (first | (with_reducible exact Below.refl _ _) | (with_reducible refine Below.alloc ?_ ?_ _) | (with_reducible refine Below.setCell ?_ ?_ _) | (with_reducible refine Below.drew ?_) | (with_reducible refine below_drewN ?_ _) | (with_reducible refine Below.trans ?_ (Below.mono (Hid.out (by assumption)) ?_)) | omega | (simp; done) | (simp; omega))))).mono ?_
        rintro e w2 ⟨rfl, hb⟩
        have HB2 := Lib.hid hb
        have hz2 := hb.size
        have hbw : Below wb.heap.size wb w2 := HB.out.trans (hb.mono hz1)
        have x0 := r0 _ hbw
        have z0 := s0 _ hbw
        have q0 : ∀ z, Below w2.heap.size w2 z → z.cell? ⟨w.heap.size, 0, none⟩ = some (.slice a L.length c) := fun z h => r0 z (hbw.trans (h.mono hbw.size))
        have q1 : ∀ z, Below w2.heap.size w2 z → z.cell? ⟨w.heap.size, 1, none⟩ = some (.int .i64 (F : Int)) := fun z h => r1 z (hbw.trans (h.mono hbw.size))
        have q2 : ∀ z, Below w2.heap.size w2 z → z.cell? ⟨w.heap.size, 2, none⟩ = some (.slice b S.length d) := fun z h => r2 z (hbw.trans (h.mono hbw.size))
        have t0 : ∀ z, Below w2.heap.size w2 z → z.cell? ⟨w.heap.size + 1, 0, none⟩ = some (.slice a' M.length c') := fun z h => s0 z (hbw.trans (h.mono hbw.size))
        have t1 : ∀ z, Below w2.heap.size w2 z → z.cell? ⟨w.heap.size + 1, 1, none⟩ = some (.int .i64 (G : Int)) := fun z h => s1 z (hbw.trans (h.mono hbw.size))
        have t2 : ∀ z, Below w2.heap.size w2 z → z.cell? ⟨w.heap.size + 1, 2, none⟩ = some (.slice b' T.length d') := fun z h => s2 z (hbw.trans (h.mono hbw.size))
        clear hb hbw y0 y1 y2 r0 r1 r2 s0 s1 s2
        go_wp2_with fail
        clear x0 z0
        go_region_held3 (fun w' => Below w2.heap.size w2 w') (first | (with_reducible assumption) | ((repeat' (first | (with_reducible exact Below.refl _ _) | (with_reducible refine Below.alloc ?_ ?_ _) | (with_reducible refine Below.setCell ?_ ?_ _) | (with_reducible refine Below.drew ?_) | (with_reducible refine below_drewN ?_ _) | (with_reducible refine Below.trans ?_ (Below.mono (Hid.out (by assumption)) ?_)) | omega | (simp; done) | (simp; omega))); done)) (first
          | (go_at_call 45; (with_reducible refine (ird_any HOK.out (F : Int) S a b c d _ (HR1.out.below (by (repeat' (first | (with_reducible exact Below.refl _ _) | (with_reducible refine Below.alloc ?_ ?_ _) | (with_reducible refine Below.setCell ?_ ?_ _) | (with_reducible refine Below.drew ?_) | (with_reducible refine below_drewN ?_ _) | (with_reducible refine Below.trans ?_ (Below.mono (Hid.out (by assumption)) ?_)) | omega | (simp; done) | (simp; omega))))) (HR2.out.below (by (repeat' (first | (with_reducible exact Below.refl _ _) | (with_reducible refine Below.alloc ?_ ?_ _) | (with_reducible refine Below.setCell ?_ ?_ _) | (with_reducible refine Below.drew ?_) | (with_reducible refine below_drewN ?_ _) | (with_reducible refine Below.trans ?_ (Below.mono (Hid.out (by assumption)) ?_)) | omega | (simp; done) | (simp; omega)))))).mono ?_); rintro e w3 ⟨g1, t1', c1, b1, rfl, hh1, hh2, hb⟩; have HP1 : Hid (Rp w3 g1 t1' b1 p L S) := Lib.hid ⟨HOK.out, hh1, hh2, hs⟩; have Hb := Lib.hid hb; have hz := hb.size; (try simp at hz); clear hb hh1 hh2)
          | (go_at_call 45; (with_reducible refine (ird_any HOK2.out (G : Int) T a' b' c' d' _ (HR1'.out.below (by (repeat' (first | (with_reducible exact Below.refl _ _) | (with_reducible refine Below.alloc ?_ ?_ _) | (with_reducible refine Below.setCell ?_ ?_ _) | (with_reducible refine Below.drew ?_) | (with_reducible refine below_drewN ?_ _) | (with_reducible refine Below.trans ?_ (Below.mono (Hid.out (by assumption)) ?_)) | omega | (simp; done) | (simp; omega))))) (HR2'.out.below (by (repeat' (first | (with_reducible exact Below.refl _ _) | (with_reducible refine Below.alloc ?_ ?_ _) | (with_reducible refine Below.setCell ?_ ?_ _) | (with_reducible refine Below.drew ?_) | (with_reducible refine below_drewN ?_ _) | (with_reducible refine Below.trans ?_ (Below.mono (Hid.out (by assumption)) ?_)) | omega | (simp; done) | (simp; omega)))))).mono ?_); rintro e w4 ⟨g2, t2', c2, b2, rfl, hh1, hh2, hb⟩; have HP2 : Hid (Rp w4 g2 t2' b2 m M T) := Lib.hid ⟨HOK2.out, hh1, hh2, ht⟩; have Hb2 := Lib.hid hb; have hzz := hb.size; (try simp at hzz); clear hb hh1 hh2)
          | (go_at_call 55; (refine (ifq_any c1 c2 F G hF hG _ ⟨HP1.out.below (by (repeat' (first | (with_reducible exact Below.refl _ _) | (with_reducible refine Below.alloc ?_ ?_ _) | (with_reducible refine Below.setCell ?_ ?_ _) | (with_reducible refine Below.drew ?_) | (with_reducible refine below_drewN ?_ _) | (with_reducible refine Below.trans ?_ (Below.mono (Hid.out (by assumption)) ?_)) | omega | (simp; done) | (simp; omega)))), HP2.out.below (by (repeat' (first | (with_reducible exact Below.refl _ _) | (with_reducible refine Below.alloc ?_ ?_ _) | (with_reducible refine Below.setCell ?_ ?_ _) | (with_reducible refine Below.drew ?_) | (with_reducible refine below_drewN ?_ _) | (with_reducible refine Below.trans ?_ (Below.mono (Hid.out (by assumption)) ?_)) | omega | (simp; done) | (simp; omega)))), HLEN.out.symm⟩).mono ?_); rintro e w5 ⟨ax, cx, rfl, hr, hb⟩; have HRX := Lib.hid hr; have Hb3 := Lib.hid hb; have hz5 := hb.size; (try simp at hz5); clear hb hr))
        go_wp2_with fail
        go_ret2
        rw [HA.out.1, HA.out.2]
        refine ⟨ax, cx, rfl, HRX.out.mono (by omega), ?_⟩
        (repeat' (first | (with_reducible exact Below.refl _ _) | (with_reducible refine Below.alloc ?_ ?_ _) | (with_reducible refine Below.setCell ?_ ?_ _) | (with_reducible refine Below.drew ?_) | (with_reducible refine below_drewN ?_ _) | (with_reducible refine Below.trans ?_ (Below.mono (Hid.out (by assumption)) ?_)) | omega | (simp; done) | (simp; omega)))
      · have HA := Lib.hid (dif_n (two_l hA hA2 hlen) (by decide))
        have hne : ((L.length : Int) != (M.length : Int)) = true := by simp; omega
        clear h1 h2 h1' h2' hA hA2 hlen
        go_enter Try.func30, Try.ntmps30
        go_wp2_with fail
        rw [← hwb]
        clear hwb
        refine (HI1.out _ HWB.out).mono ?_
        rintro e w1 ⟨rfl, hb⟩
        have HB := Lib.hid hb
        have hz1 := hb.size
        have y0 := s0 _ hb
        have y1 := s1 _ hb
        have y2 := s2 _ hb
        clear hb
        go_wp2_with fail
        refine (HI2.out _ (by (repeat' (first | (with_reducible exact Below.refl _ _) | (with_reducible refine Below.alloc ?_ ?_ _) | (with_reducible refine Below.setCell ?_ ?_ _) | (with_reducible refine Below.drew ?_) | (with_reducible refine below_drewN ?_ _) | (with_reducible refine Below.trans ?_ (Below.mono (Hid.out (by assumption)) ?_)) | omega | (simp; done) | (simp; omega))))).mono ?_
        rintro e w2 ⟨rfl, hb⟩
        have HB2 := Lib.hid hb
        have hz2 := hb.size
        have hbw : Below wb.heap.size wb w2 := HB.out.trans (hb.mono hz1)
        have x0 := r0 _ hbw
        have z0 := s0 _ hbw
        clear hb hbw r0 r1 r2 s0 s1 s2
        go_wp2_with fail
        go_ret2
        rw [HA.out.1, HA.out.2]
        refine ⟨none, 0, rfl, ⟨by simp, Or.inl rfl⟩, ?_⟩
        (repeat' (first | (with_reducible exact Below.refl _ _) | (with_reducible refine Below.alloc ?_ ?_ _) | (with_reducible refine Below.setCell ?_ ?_ _) | (with_reducible refine Below.drew ?_) | (with_reducible refine below_drewN ?_ _) | (with_reducible refine Below.trans ?_ (Below.mono (Hid.out (by assumption)) ?_)) | omega | (simp; done) | (simp; omega)))

/-- Whether two acceptors are equal in language, with the code. -/
def aeqV (L : List MapN) (F : Int) (S : List Int) (M : List MapN) (G : Int) (T : List Int) : Value :=
  if twoC L F S M G T = 0 then .tuple #[.bool (difO L F S M G T).isNone, .int .i64 0] else .tuple #[.bool false, .int .i64 (twoC L F S M G T)]

theorem aeq_4 {L : List MapN} {F : Int} {S : List Int} {M : List MapN} {G : Int} {T : List Int} (h : difC L F S M G T = 4) : aeqV L F S M G T = .tuple #[.bool true, .int .i64 0] := by
  unfold difC at h
  unfold aeqV
  split at h
  · rename_i h0
    rw [if_pos h0]
    unfold waC at h
    cases ho : difO L F S M G T with
    | none => rfl
    | some x => rw [ho] at h; simp at h
  · rename_i h0
    unfold twoC at h h0
    split at h
    · split at h
      · exact absurd h (by decide)
      · exact absurd h (by decide)
    · exact absurd h (by decide)

theorem aeq_n {L : List MapN} {F : Int} {S : List Int} {M : List MapN} {G : Int} {T : List Int} (h : difC L F S M G T ≠ 4) : aeqV L F S M G T = .tuple #[.bool false, .int .i64 (difC L F S M G T)] := by
  unfold difC at h ⊢
  unfold aeqV
  split at h
  · rename_i h0
    rw [if_pos h0, if_pos h0]
    unfold waC at h ⊢
    cases ho : difO L F S M G T with
    | none => rw [ho] at h; exact absurd rfl h
    | some x => rfl
  · rename_i h0
    rw [if_neg h0, if_neg h0]

set_option maxRecDepth 100000 in
set_option maxHeartbeats 4000000 in
theorem iaeq_any (L : List MapN) (hl : L.length ≤ 1048576) (F : Int) (S : List Int) (hs : S.length ≤ 1048576) (M : List MapN) (hm : M.length ≤ 1048576) (G : Int) (T : List Int) (ht : T.length ≤ 1048576)
    (a b : Option Addr) (c d : Nat) (hc0 : a = none → c = 0) (a' b' : Option Addr) (c' d' : Nat) (hc0' : a' = none → c' = 0) (w : World) (h1 : InRowM w a L) (h2 : InRow w b S) (h1' : InRowM w a' M) (h2' : InRow w b' T) :
    Calls Try.prog 28 #[.agg #[.slice a L.length c, .int .i64 F, .slice b S.length d], .agg #[.slice a' M.length c', .int .i64 G, .slice b' T.length d']] w fun e w' => e = .returned (aeqV L F S M G T) ∧ Below w.heap.size w w' := by
  have HD := Lib.hid fun wx (hb : Below w.heap.size w wx) => idif_any L hl F S hs M hm G T ht a b c d hc0 a' b' c' d' hc0' wx (h1.below hb) (h2.below hb) (h1'.below hb) (h2'.below hb)
  have H4 := Lib.hid fun h => aeq_4 (L := L) (F := F) (S := S) (M := M) (G := G) (T := T) h
  have HN := Lib.hid fun h => aeq_n (L := L) (F := F) (S := S) (M := M) (G := G) (T := T) h
  clear h1 h2 h1' h2'
  generalize difC L F S M G T = C at *
  generalize difW L F S M G T = W at *
  by_cases hC : C = 4
  · have HE := Lib.hid (H4.out hC)
    subst hC
    go_enter Try.func28, Try.ntmps28
    go_wp2_with fail
    refine (HD.out _ (by (repeat' (first | (with_reducible exact Below.refl _ _) | (with_reducible refine Below.alloc ?_ ?_ _) | (with_reducible refine Below.setCell ?_ ?_ _) | (with_reducible refine Below.drew ?_) | (with_reducible refine below_drewN ?_ _) | (with_reducible refine Below.trans ?_ (Below.mono (Hid.out (by assumption)) ?_)) | omega | (simp; done) | (simp; omega))))).mono ?_
    rintro e w1 ⟨ax, cx, rfl, _, hb⟩
    have HB := Lib.hid hb
    clear hb
    go_wp2_with fail
    go_ret2
    refine ⟨by rw [HE.out]; rfl, ?_⟩
    (repeat' (first | (with_reducible exact Below.refl _ _) | (with_reducible refine Below.alloc ?_ ?_ _) | (with_reducible refine Below.setCell ?_ ?_ _) | (with_reducible refine Below.drew ?_) | (with_reducible refine below_drewN ?_ _) | (with_reducible refine Below.trans ?_ (Below.mono (Hid.out (by assumption)) ?_)) | omega | (simp; done) | (simp; omega)))
  · have HE := Lib.hid (HN.out hC)
    have hC' : (C == 4) = false := by simpa using hC
    clear hC
    go_enter Try.func28, Try.ntmps28
    go_wp2_with fail
    refine (HD.out _ (by (repeat' (first | (with_reducible exact Below.refl _ _) | (with_reducible refine Below.alloc ?_ ?_ _) | (with_reducible refine Below.setCell ?_ ?_ _) | (with_reducible refine Below.drew ?_) | (with_reducible refine below_drewN ?_ _) | (with_reducible refine Below.trans ?_ (Below.mono (Hid.out (by assumption)) ?_)) | omega | (simp; done) | (simp; omega))))).mono ?_
    rintro e w1 ⟨ax, cx, rfl, _, hb⟩
    have HB := Lib.hid hb
    clear hb
    go_wp2_with fail
    go_ret2
    refine ⟨by rw [HE.out]; rfl, ?_⟩
    (repeat' (first | (with_reducible exact Below.refl _ _) | (with_reducible refine Below.alloc ?_ ?_ _) | (with_reducible refine Below.setCell ?_ ?_ _) | (with_reducible refine Below.drew ?_) | (with_reducible refine below_drewN ?_ _) | (with_reducible refine Below.trans ?_ (Below.mono (Hid.out (by assumption)) ?_)) | omega | (simp; done) | (simp; omega)))

end Go.Proofs.Ytiakoplfknkhmaa
