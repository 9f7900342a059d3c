/- The contracts of impl.IsTransitive and spec.IsTransitive. -/
import Derived.Test.YtpphihjbgikjkaaDoorSts
import Derived.Test.YtpphihjbgikjkaaDoorIpp
import Derived.Test.YtpphihjbgikjkaaDoorErd
namespace Go.Proofs.YtpphihjbgikjkaaDoor
open Go Go.RowKit

/-- Whether there is one strong part alone. -/
noncomputable def traB (L : List MapN) : Bool := ((sprL L).length : Int) == 1
noncomputable def traV (L : List MapN) : Value := .tuple #[.bool (traB L), .int .i64 (chkC L [])]

set_option maxRecDepth 100000 in
set_option maxHeartbeats 4000000 in
theorem iTra_any (L : List MapN) (hl1 : L.length ≤ 1048576) (a : Option Addr) (cap : Nat) (hc1 : a = none → cap = 0) (w : World) (hr : InRowM w a L) (_ : Er w) :
    Calls Tryd.prog 19 #[.slice a L.length cap] w fun e w' => e = .returned (traV L) ∧ Below w.heap.size w w' := by
  have HS := Lib.hid (iStp_any L hl1 a cap hc1 w hr)
  unfold traV traB
  clear hr
  generalize chkC L [] = C at *
  generalize sprL L = R at *
  go_enter Tryd.func19, Tryd.ntmps19
  go_wp2_with fail
  refine HS.out.mono ?_
  rintro e w1 ⟨a1, c1, rfl, _, _, hb⟩
  have HB := Lib.hid hb
  clear hb
  go_wp2_with fail
  go_ret2
  exact ⟨rfl, HB.out⟩

set_option maxRecDepth 100000 in
set_option maxHeartbeats 4000000 in
theorem sTra_any (L : List MapN) (hl1 : L.length ≤ 1048576) (a : Option Addr) (cap : Nat) (_ : a = none → cap = 0) (w : World) (hr : InRowM w a L) :
    Calls Tryd.prog 18 #[.slice a L.length cap] w fun e w' => e = .returned (traV L) ∧ Below w.heap.size w w' := by
  have HG := Lib.hid (given_any a none cap 0 L [] hl1 (by simp) w hr (Or.inl rfl))
  by_cases hC : chkC L [] = 0
  · obtain ⟨n, hok, hn⟩ := LOk.of hC
    have hsp : sprL L = prR L n := by unfold sprL; rw [if_pos hC, hn, Int.toNat_natCast]
    have hn5 := hok.n5
    have hrk := rkK_le (orM L) n
    have HP := Lib.hid fun wx (hb : Below w.heap.size w wx) => sprt_any L hok a cap wx (hr.below hb)
    have HML := Lib.hid (prM_len L n)
    unfold traV traB
    rw [hsp, hC, prR_len]
    rw [hC] at HG
    clear hr hC hn hok hsp
    generalize rkK (orM L) n = m at *
    generalize prM L n = R at *
    go_enter Tryd.func18, Tryd.ntmps18
    go_wp2_with fail
    refine HG.out.mono ?_
    rintro e w1 ⟨rfl, hb⟩
    have HB1 := Lib.hid hb
    clear hb
    go_wp2_with fail
    refine (HP.out _ HB1.out).mono ?_
    rintro e w2 ⟨v2, rfl, hown, hb⟩
    obtain ⟨a2, c2, rfl, hrd⟩ := own_rd hown (by rw [HML.out]; omega)
    rw [HML.out]
    have HB2 := Lib.hid hb
    have hz1 := HB1.out.size
    clear hown hrd hb
    go_wp2_with fail
    go_ret2
    exact ⟨rfl, HB1.out.trans (HB2.out.mono hz1)⟩
  · have hsp : sprL L = [] := by unfold sprL; rw [if_neg hC]
    have hne : (chkC L [] != 0) = true := by simpa using hC
    unfold traV traB
    rw [hsp]
    clear hr hC hsp
    generalize chkC L [] = C at *
    go_enter Tryd.func18, Tryd.ntmps18
    go_wp2_with fail
    refine HG.out.mono ?_
    rintro e w1 ⟨rfl, hb⟩
    have HB1 := Lib.hid hb
    clear hb
    go_wp2_with fail
    go_ret2
    exact ⟨rfl, HB1.out⟩

end Go.Proofs.YtpphihjbgikjkaaDoor
