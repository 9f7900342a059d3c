/- The contracts of impl.IsInvariantPartition and spec.IsInvariantPartition. -/
import Derived.Test.YtpphihjbgikjkaaDoorIlc
import Derived.Test.YtpphihjbgikjkaaDoorSiv
namespace Go.Proofs.YtpphihjbgikjkaaDoor
open Go Go.RowKit

/-- Whether a partition is invariant, with its code. -/
def iipB (L : List MapN) (P : List Int) : Bool := locC L P == 0
def iipV (L : List MapN) (P : List Int) : Value := .tuple #[.bool (iipB L P), .int .i64 (ptC L P)]

set_option maxRecDepth 100000 in
set_option maxHeartbeats 4000000 in
theorem iIip_any (L : List MapN) (hl1 : L.length ≤ 1048576) (P : List Int) (hl2 : P.length ≤ 1048576) (a : Option Addr) (cap : Nat) (hc1 : a = none → cap = 0) (a2 : Option Addr) (c2 : Nat) (w : World) (hr : InRowM w a L) (hr2 : InRow w a2 P) (hE : Er w) :
    Calls Tryd.prog 22 #[.slice a L.length cap, .slice a2 P.length c2] w fun e w' => e = .returned (iipV L P) ∧ Below w.heap.size w w' := by
  have HL := Lib.hid (iLoc_any L hl1 P hl2 a cap hc1 a2 c2 w hr hr2 hE)
  unfold iipV iipB
  have hcases : (locC L P = 0 ∧ ptC L P = 0) ∨ (locC L P = 5 ∧ ptC L P = 0) ∨ (locC L P = ptC L P ∧ locC L P ≠ 0 ∧ locC L P ≠ 5) := by
    by_cases hC : ptC L P = 0
    · by_cases hi : invB L P (fst0 L).toNat = true
      · exact Or.inl ⟨by unfold locC; rw [if_pos hC, if_pos hi], hC⟩
      · exact Or.inr (Or.inl ⟨by unfold locC; rw [if_pos hC, if_neg hi], hC⟩)
    · refine Or.inr (Or.inr ?_)
      have e : locC L P = ptC L P := by unfold locC; rw [if_neg hC]
      rw [e]
      refine ⟨rfl, hC, ?_⟩
      unfold ptC chkC
      (repeat' split) <;> decide
  clear hr hr2 hE
  rcases hcases with ⟨h1, h2⟩ | ⟨h1, h2⟩ | ⟨h1, h2, h3⟩
  · rw [h1] at HL
    rw [h1, h2]
    clear h1 h2
    generalize locL L P = R at *
    go_enter Tryd.func22, Tryd.ntmps22
    go_wp2_with fail
    refine HL.out.mono ?_
    rintro e w1 ⟨a1, c1, rfl, _, hb⟩
    have HB := Lib.hid hb
    clear hb
    go_wp2_with fail
    go_ret2
    exact ⟨rfl, HB.out⟩
  · rw [h1] at HL
    rw [h1, h2]
    clear h1 h2
    generalize locL L P = R at *
    go_enter Tryd.func22, Tryd.ntmps22
    go_wp2_with fail
    refine HL.out.mono ?_
    rintro e w1 ⟨a1, c1, rfl, _, hb⟩
    have HB := Lib.hid hb
    clear hb
    go_wp2_with fail
    go_ret2
    exact ⟨rfl, HB.out⟩
  · rw [← h1]
    have hd : decide (locC L P = 5) = false := by simpa using h3
    have hd2 : (locC L P == 5) = false := by simpa using h3
    have hd0 : (locC L P == 0) = false := by simpa using h2
    rw [hd0]
    clear h1 h2 h3
    generalize locL L P = R at *
    generalize locC L P = C at *
    go_enter Tryd.func22, Tryd.ntmps22
    go_wp2_with fail
    refine HL.out.mono ?_
    rintro e w1 ⟨a1, c1, rfl, _, hb⟩
    have HB := Lib.hid hb
    clear hb
    go_wp2_with fail
    go_ret2
    exact ⟨rfl, HB.out⟩

set_option maxRecDepth 100000 in
set_option maxHeartbeats 4000000 in
theorem sIip_any (L : List MapN) (hl1 : L.length ≤ 1048576) (P : List Int) (_ : P.length ≤ 1048576) (a : Option Addr) (cap : Nat) (_ : a = none → cap = 0) (a2 : Option Addr) (c2 : Nat) (w : World) (hr : InRowM w a L) (hr2 : InRow w a2 P) :
    Calls Tryd.prog 20 #[.slice a L.length cap, .slice a2 P.length c2] w fun e w' => e = .returned (iipV L P) ∧ Below w.heap.size w w' := by
  have HG := Lib.hid (sgv10_any L hl1 P a cap a2 c2 w hr hr2)
  unfold iipV iipB
  by_cases hC : ptC L P = 0
  · obtain ⟨hck, hpb⟩ := ptC_zero hC
    obtain ⟨n, hok, hn⟩ := LOk.of hck
    rw [hn, Int.toNat_natCast] at hpb
    obtain ⟨hPl, hPo⟩ := parB_iff.1 hpb
    have HI := Lib.hid fun wx (hb : Below w.heap.size w wx) => sinv_any L hok P hPl a cap a2 c2 wx (hr.below hb) (hr2.below hb)
    have e1 : (locC L P == 0) = invB L P n := by
      unfold locC
      rw [if_pos hC, hn, Int.toNat_natCast]
      cases invB L P n <;> rfl
    rw [e1, hC]
    rw [hC] at HG
    clear hr hr2 hC hck hpb hok hn hPl hPo e1
    generalize invB L P n = B at *
    go_enter Tryd.func20, Tryd.ntmps20
    go_wp2_with fail
    refine HG.out.mono ?_
    rintro e w1 ⟨rfl, hb⟩
    have HB1 := Lib.hid hb
    clear hb
    go_wp2_with fail
    refine (HI.out _ HB1.out).mono ?_
    rintro e w2 ⟨rfl, hb⟩
    have HB2 := Lib.hid hb
    clear hb
    go_wp2_with fail
    go_ret2
    exact ⟨rfl, HB1.out.trans (HB2.out.mono HB1.out.size)⟩
  · have e1 : locC L P = ptC L P := by unfold locC; rw [if_neg hC]
    have hd0 : (ptC L P == 0) = false := by simpa using hC
    have hne : (ptC L P != 0) = true := by simpa using hC
    rw [e1, hd0]
    clear hr hr2 hC e1 hd0
    generalize ptC L P = C at *
    go_enter Tryd.func20, Tryd.ntmps20
    go_wp2_with fail
    refine HG.out.mono ?_
    rintro e w1 ⟨rfl, hb⟩
    have HB1 := Lib.hid hb
    clear hb
    go_wp2_with fail
    go_ret2
    exact ⟨rfl, HB1.out⟩

end Go.Proofs.YtpphihjbgikjkaaDoor
