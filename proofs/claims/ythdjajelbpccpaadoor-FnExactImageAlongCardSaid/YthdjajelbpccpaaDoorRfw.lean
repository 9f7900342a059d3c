/- The contracts of impl.RankOfWord, spec.RankOfWord, impl.ImageAlong, impl.FixedByWord. -/
import Derived.Test.YthdjajelbpccpaaDoorWk
import Derived.Test.YthdjajelbpccpaaDoorRank
import Derived.Test.YthdjajelbpccpaaDoorImage
import Derived.Test.YthdjajelbpccpaaDoorFixed
import Derived.Test.YthdjajelbpccpaaDoorImsI
namespace Go.Proofs.YthdjajelbpccpaaDoor
open Go Go.RowKit

/-- The map of a word, or the zero value. -/
def wmP (L : List MapN) (W : List Int) : Int := resP (w5C L W) (fst0 L)
def wmT (L : List MapN) (W : List Int) : Nat → Int := resT (w5C L W) (wrdK L W W.length)

theorem wm_ok {L : List MapN} {W : List Int} (h : w5C L W = 0) : wmP L W = fst0 L ∧ wmT L W = wrdK L W W.length ∧ isB (fst0 L) (wrdK L W W.length) = true := by
  obtain ⟨hck, hbel, hw40⟩ := w5C_zero h
  obtain ⟨hgood, hs1, hs6⟩ := good_of hck
  refine ⟨by unfold wmP resP; rw [if_pos h], by unfold wmT resT; rw [h]; rfl, wrdK_ok hgood _ (fun j hj => belB_at hbel j hj)⟩

theorem wm_bad {L : List MapN} {W : List Int} (h : w5C L W ≠ 0) : wmP L W = 0 ∧ wmT L W = fun _ => 0 := by
  refine ⟨by unfold wmP resP; rw [if_neg h], by unfold wmT resT; simp only [if_neg h]⟩

theorem wm_bd (L : List MapN) (W : List Int) : 0 ≤ wmP L W ∧ wmP L W ≤ 5 ∧ ∀ i : Nat, (i : Int) < wmP L W → 0 ≤ wmT L W i ∧ wmT L W i < 5 := by
  by_cases h : w5C L W = 0
  · obtain ⟨e1, e2, hok⟩ := wm_ok h
    rw [e1, e2]
    have := isB_pts hok
    exact ⟨by omega, by omega, fun i hi => by have := ok_at hok i hi; omega⟩
  · obtain ⟨e1, e2⟩ := wm_bad h
    rw [e1, e2]
    exact ⟨by omega, by omega, fun i hi => by omega⟩

def rowR (L : List MapN) (W : List Int) : Int := (asc (imgB (wmP L W) (wmT L W))).length
def rowV (L : List MapN) (W : List Int) : Value := .tuple #[.int .i64 (rowR L W), .int .i64 (w5C L W)]

set_option maxRecDepth 1000000 in
set_option maxHeartbeats 4000000 in
theorem iRow_any (L : List MapN) (hl1 : L.length ≤ 1048576) (W : List Int) (hl2 : W.length ≤ 1048576) (a1 : Option Addr) (c1 : Nat) (hc1 : a1 = none → c1 = 0) (a2 : Option Addr) (c2 : Nat) (w : World) (hr1 : InRowM w a1 L) (hr2 : InRow w a2 W) (hE : Er w) :
    Calls Tryd.prog 19 #[.slice a1 L.length c1, .slice a2 W.length c2] w fun e w' => e = .returned (rowV L W) ∧ Below w.heap.size w w' := by
  have HM := imow5_any L hl1 W hl2 a1 c1 hc1 a2 c2 w hr1 hr2 hE
  rw [show mow5V L W = .tuple #[mv (wmP L W) (wmT L W), .int .i64 (w5C L W)] from rfl] at HM
  obtain ⟨b0, b5, bt⟩ := wm_bd L W
  have HR := Lib.hid fun w => irank_all (wmP L W) (wmT L W) b0 b5 bt w
  rw [show rowV L W = .tuple #[.int .i64 ((asc (imgB (wmP L W) (wmT L W))).length : Nat), .int .i64 (w5C L W)] from rfl]
  have HM := Lib.hid HM
  clear hr1 hr2 hE bt
  generalize (asc (imgB (wmP L W) (wmT L W))).length = R at *
  generalize wmP L W = P at *
  generalize wmT L W = T at *
  generalize w5C L W = C at *
  simp only [mv, mcells] at *
  go_enter Tryd.func19, Tryd.ntmps19
  go_wp2_with fail
  refine HM.out.mono ?_
  rintro e w1 ⟨rfl, hb⟩
  have HB := Lib.hid hb
  clear hb
  go_wp2_with fail
  refine (HR.out _).mono ?_
  rintro e w2 ⟨rfl, hb⟩
  have HB2 := Lib.hid hb
  have hz := hb.size
  have hzb := HB.out.size
  simp at hz
  clear hb
  go_wp2_with fail
  go_ret2
  refine ⟨rfl, ?_⟩
  (repeat' (first | (with_reducible exact Below.refl _ _) | (with_reducible refine Below.alloc ?_ ?_ _) | (with_reducible refine Below.setCell ?_ ?_ _) | (with_reducible refine Below.drew ?_) | (with_reducible refine below_drewN ?_ _) | (with_reducible refine Below.trans ?_ (Below.mono (Hid.out (by assumption)) ?_)) | omega | (simp; done) | (simp; omega)))

def fbwL (L : List MapN) (W : List Int) : List Int := asc (fixB (wmP L W) (wmT L W))

set_option maxRecDepth 1000000 in
set_option maxHeartbeats 4000000 in
theorem iFbw_any (L : List MapN) (hl1 : L.length ≤ 1048576) (W : List Int) (hl2 : W.length ≤ 1048576) (a1 : Option Addr) (c1 : Nat) (hc1 : a1 = none → c1 = 0) (a2 : Option Addr) (c2 : Nat) (w : World) (hr1 : InRowM w a1 L) (hr2 : InRow w a2 W) (hE : Er w) :
    Calls Tryd.prog 23 #[.slice a1 L.length c1, .slice a2 W.length c2] w (RetRow w.heap.size (fbwL L W) (w5C L W) w) := by
  have HM := imow5_any L hl1 W hl2 a1 c1 hc1 a2 c2 w hr1 hr2 hE
  rw [show mow5V L W = .tuple #[mv (wmP L W) (wmT L W), .int .i64 (w5C L W)] from rfl] at HM
  obtain ⟨b0, b5, bt⟩ := wm_bd L W
  have HR := Lib.hid fun w => ifix_all (wmP L W) (wmT L W) b0 b5 w
  have HL := Lib.hid (asc_len (fixB (wmP L W) (wmT L W)))
  rw [show fbwL L W = asc (fixB (wmP L W) (wmT L W)) from rfl]
  have HM := Lib.hid HM
  clear hr1 hr2 hE bt
  generalize asc (fixB (wmP L W) (wmT L W)) = R at *
  generalize wmP L W = P at *
  generalize wmT L W = T at *
  generalize w5C L W = C at *
  simp only [mv, mcells] at *
  go_enter Tryd.func23, Tryd.ntmps23
  go_wp2_with fail
  refine HM.out.mono ?_
  rintro e w1 ⟨rfl, hb⟩
  have HB := Lib.hid hb
  have hzb := hb.size
  clear hb
  go_wp2_with fail
  refine (HR.out _).mono ?_
  rintro e w2 ⟨v, rfl, hown, hb⟩
  obtain ⟨ax, cx, rfl, hrd⟩ := own_rd hown HL.out
  have HB2 := Lib.hid hb
  have HRX := Lib.hid hrd
  have hz := hb.size
  simp at hz
  clear hb hown hrd
  go_wp2_with fail
  go_ret2
  refine ⟨ax, cx, rfl, HRX.out.mono (by simp; omega), ?_⟩
  (repeat' (first | (with_reducible exact Below.refl _ _) | (with_reducible refine Below.alloc ?_ ?_ _) | (with_reducible refine Below.setCell ?_ ?_ _) | (with_reducible refine Below.drew ?_) | (with_reducible refine below_drewN ?_ _) | (with_reducible refine Below.trans ?_ (Below.mono (Hid.out (by assumption)) ?_)) | omega | (simp; done) | (simp; omega)))

def ialC (L : List MapN) (W S : List Int) : Int := if w5C L W = 0 then ptsC (fst0 L) S else w5C L W
def ialL (L : List MapN) (W S : List Int) : List Int := if ialC L W S = 0 then asc (movK (wrdK L W W.length) (memB S) (fst0 L).toNat) else []

set_option maxRecDepth 1000000 in
set_option maxHeartbeats 4000000 in
theorem iIal_any (L : List MapN) (hl1 : L.length ≤ 1048576) (W : List Int) (hl2 : W.length ≤ 1048576) (S : List Int) (hl3 : S.length ≤ 1048576) (a1 : Option Addr) (c1 : Nat) (hc1 : a1 = none → c1 = 0) (a2 : Option Addr) (c2 : Nat) (a3 : Option Addr) (c3 : Nat) (w : World) (hr1 : InRowM w a1 L) (hr2 : InRow w a2 W) (hr3 : InRow w a3 S) (hE : Er w) :
    Calls Tryd.prog 21 #[.slice a1 L.length c1, .slice a2 W.length c2, .slice a3 S.length c3] w (RetRow w.heap.size (ialL L W S) (ialC L W S) w) := by
  have HM := imow5_any L hl1 W hl2 a1 c1 hc1 a2 c2 w hr1 hr2 hE
  rw [show mow5V L W = .tuple #[mv (wmP L W) (wmT L W), .int .i64 (w5C L W)] from rfl] at HM
  by_cases hC : w5C L W = 0
  · obtain ⟨e1, e2, hok⟩ := wm_ok hC
    rw [e1, e2, hC] at HM
    have HI := Lib.hid fun wx (hb : Below w.heap.size w wx) => iIms_any (fst0 L) (wrdK L W W.length) S hl3 a3 c3 wx (hr3.below hb)
    have e3 : setC (fst0 L) (wrdK L W W.length) S = ialC L W S := by unfold setC ialC; rw [if_pos hok, if_pos hC]
    have e4 : imsL (fst0 L) (wrdK L W W.length) S = ialL L W S := by unfold imsL ialL; rw [e3]
    rw [e3, e4] at HI
    have HM := Lib.hid HM
    clear hr1 hr2 hr3 hE hC e1 e2 hok e3 e4
    generalize ialL L W S = R at *
    generalize ialC L W S = C at *
    generalize wrdK L W W.length = T at *
    generalize fst0 L = P at *
    simp only [mv, mcells] at *
    go_enter Tryd.func21, Tryd.ntmps21
    go_wp2_with fail
    refine HM.out.mono ?_
    rintro e w1 ⟨rfl, hb⟩
    have HB := Lib.hid hb
    have hzb := hb.size
    clear hb
    go_wp2_with fail
    refine (HI.out _ (by (repeat' (first | (with_reducible exact Below.refl _ _) | (with_reducible refine Below.alloc ?_ ?_ _) | (with_reducible refine Below.setCell ?_ ?_ _) | (with_reducible refine Below.drew ?_) | (with_reducible refine below_drewN ?_ _) | (with_reducible refine Below.trans ?_ (Below.mono (Hid.out (by assumption)) ?_)) | omega | (simp; done) | (simp; omega))))).mono ?_
    rintro e w2 ⟨ax, cx, rfl, hrd, hb⟩
    have HB2 := Lib.hid hb
    have HRX := Lib.hid hrd
    have hz := hb.size
    simp at hz
    clear hb hrd
    go_wp2_with fail
    go_ret2
    refine ⟨ax, cx, rfl, HRX.out.mono (by simp; omega), ?_⟩
    (repeat' (first | (with_reducible exact Below.refl _ _) | (with_reducible refine Below.alloc ?_ ?_ _) | (with_reducible refine Below.setCell ?_ ?_ _) | (with_reducible refine Below.drew ?_) | (with_reducible refine below_drewN ?_ _) | (with_reducible refine Below.trans ?_ (Below.mono (Hid.out (by assumption)) ?_)) | omega | (simp; done) | (simp; omega)))
  · obtain ⟨e1, e2⟩ := wm_bad hC
    rw [e1, e2] at HM
    have e3 : ialC L W S = w5C L W := by unfold ialC; rw [if_neg hC]
    have e4 : ialL L W S = [] := by unfold ialL; rw [e3, if_neg hC]
    rw [e3, e4]
    have hne : (w5C L W != 0) = true := by simpa using hC
    have HM := Lib.hid HM
    clear hr1 hr2 hr3 hE hC e1 e2 e3 e4
    generalize w5C L W = C at *
    simp only [mv, mcells] at *
    go_enter Tryd.func21, Tryd.ntmps21
    go_wp2_with fail
    refine HM.out.mono ?_
    rintro e w1 ⟨rfl, hb⟩
    have HB := Lib.hid hb
    have hzb := hb.size
    clear hb
    go_wp2_with fail
    go_ret2
    refine ⟨none, 0, rfl, ⟨by simp, Or.inl rfl⟩, ?_⟩
    (repeat' (first | (with_reducible exact Below.refl _ _) | (with_reducible refine Below.alloc ?_ ?_ _) | (with_reducible refine Below.setCell ?_ ?_ _) | (with_reducible refine Below.drew ?_) | (with_reducible refine below_drewN ?_ _) | (with_reducible refine Below.trans ?_ (Below.mono (Hid.out (by assumption)) ?_)) | omega | (simp; done) | (simp; omega)))

end Go.Proofs.YthdjajelbpccpaaDoor
