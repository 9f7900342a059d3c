/- The contracts of impl.orbitsOfPoints and impl.StrongParts. -/
import Derived.Test.YtpphihjbgikjkaaDoorIob
import Derived.Test.YtpphihjbgikjkaaDoorNbs
import Derived.Test.YtpphihjbgikjkaaDoorSpp
import Derived.Test.YtpphihjbgikjkaaDoorCla
import Derived.Test.YtpphihjbgikjkaaDoorRlo
namespace Go.Proofs.YtpphihjbgikjkaaDoor
open Go Go.RowKit Go.Maps

set_option maxRecDepth 100000 in
set_option maxHeartbeats 4000000 in
theorem iops_any (L : List MapN) {n : Nat} (hok : LOk L n) (a : Option Addr) (cap : Nat) (w : World) (hr : InRowM w a L) :
    Calls Tryd.prog 38 #[.slice a L.length cap] w fun e w' => ∃ v, e = .returned v ∧ OwnP w' w.heap.size v (psL (rchS L) n) ∧ Below w.heap.size w w' := by
  have hn5 := hok.n5
  have hl : 0 < L.length := by have := hok.len1; omega
  have hl' : (0 : Int) < (L.length : Int) := by omega
  obtain ⟨b, off, rfl, hbl, hat⟩ := hr.at0 hl
  have h0 := hat.1
  rw [hok.pts 0 hl] at h0
  have HO := Lib.hid fun c hc wx (hb : Below w.heap.size w wx) => iorb_any L hok c hc (some ⟨b, off, none⟩) cap wx (hr.below hb)
  have HSU := Lib.hid (psL_succ (rchS L))
  have HLN := Lib.hid (psL_len (rchS L))
  clear hat hr hok
  generalize rchS L = s at *
  go_enter Tryd.func38, Tryd.ntmps38
  go_wp2_with fail
  go_loopw [3, 4, 9] (fun v _ i wr => ∃ k : Nat, k ≤ n ∧ i = .int .i64 (k : Int) ∧ OwnP wr w.heap.size v (psL s k) ∧ Below w.heap.size w wr) (fun _ _ i _ => n - (intOf i).toNat)
  case atStart => exact ⟨0, by omega, rfl, World.ownsRow_nil _ _ _ _, Below.refl _ _⟩
  case round =>
    obtain ⟨k, hk, rfl, hown, hb⟩ := hrel
    have HW := Lib.hid hown
    have HB := Lib.hid hb
    have hsr := hb.size
    clear hown hb
    obtain ⟨wo, hwo⟩ : ∃ wo, wo = wr := ⟨_, rfl⟩
    subst hwo
    by_cases hkn : k < n
    · have hkn' : (k : Int) < (n : Int) := by omega
      go_wp2_with fail
      refine (HO.out k hkn _ HB.out).mono ?_
      rintro e w1 ⟨rfl, hb⟩
      have HB1 := Lib.hid hb
      have hs1 := hb.size
      have HW1 : Hid (OwnP w1 w.heap.size u3 (psL s k)) := Lib.hid ((Turn.of_below (S := fun _ => False) hb).own HW.out (fun _ _ h => h))
      clear hb
      simp only [cells5]
      go_wp2_with (at_builtin; refine wpList_appP rfl _ _ rfl w.heap.size _ (psL s k) rfl (World.ownsRow.alloc HW1.out _) w1.heap.size 1 (s k) rfl (halloc_at _ _ _ rfl) (by rw [HLN.out]; omega) (by simp; omega) ?_; intro v2 w2 ho2 hg2)
      rw [← HSU.out] at ho2
      have HO2 := Lib.hid ho2
      have HB2 : Hid (Below w.heap.size w w2) := Lib.hid (((HB.out.trans (HB1.out.mono hsr)).alloc (by omega) _).grown hg2 (by simp; omega) (fun r e => (HW.out.lt r e).1))
      clear ho2 hg2
      go_roundw
      case rel => exact ⟨k + 1, by omega, by go_num, HO2.out, HB2.out⟩
      case measure => simp [intOf]; omega
    · obtain rfl : k = n := by omega
      have hkn' : ¬ ((k : Int) < (k : Int)) := by omega
      go_wp2_with fail
      go_ret
      exact ⟨_, rfl, HW.out, HB.out⟩

/-- The strong parts, and none with an error. -/
noncomputable def sprL (L : List MapN) : List (List Int) := if chkC L [] = 0 then prR L (fst0 L).toNat else []

theorem ky_orM {L : List MapN} : Ky (fun i => k5L (rchS L i)) (orM L) :=
  ⟨fun _ => trivial, fun i j => by
    rw [k5L_inj]
    exact ⟨fun h => by unfold orM mask; rw [h 0 (by omega), h 1 (by omega), h 2 (by omega), h 3 (by omega), h 4 (by omega)], fun h => mask_ext h⟩⟩

set_option maxRecDepth 100000 in
set_option maxHeartbeats 4000000 in
theorem iStp_any (L : List MapN) (hl1 : L.length ≤ 1048576) (a : Option Addr) (cap : Nat) (hc1 : a = none → cap = 0) (w : World) (hr : InRowM w a L) :
    Calls Tryd.prog 12 #[.slice a L.length cap] w (RetT w.heap.size (sprL L) (chkC L []) w) := by
  have HG := Lib.hid (check_any a none cap 0 L [] hc1 (fun _ => rfl) hl1 (by simp) w hr (Or.inl rfl))
  by_cases hC : chkC L [] = 0
  · obtain ⟨n, hok, hn⟩ := LOk.of hC
    have hsp : sprL L = prR L n := by unfold sprL; rw [if_pos hC, hn, Int.toNat_natCast]
    rw [hsp, hC]
    rw [hC] at HG
    have hn5 := hok.n5
    have hl : 0 < L.length := by have := hok.len1; omega
    have hl' : (0 : Int) < (L.length : Int) := by omega
    have HO := Lib.hid fun wx (hb : Below w.heap.size w wx) => iops_any L hok a cap wx (hr.below hb)
    obtain ⟨b, off, rfl, hbl, hat⟩ := hr.at0 hl
    have h0 := hat.1
    rw [hok.pts 0 hl] at h0
    have HN := Lib.hid fun a2 c2 wx (h : InP wx a2 n (rchS L)) => nbs_any n (by omega) (rchS L) (orM L) ky_orM a2 c2 wx h
    have HCL := Lib.hid fun a3 c3 wx (h : InRow wx a3 (kerK (orM L) n)) => icla_any (kerK (orM L) n) n hn5 ⟨0, 0, none⟩ a3 c3 wx h (fun h => by rw [par_ker] at h; cases h)
    have HPR := Lib.hid (cls_prt hok)
    have HPL := Lib.hid (prR_len L n)
    have HRK := Lib.hid (rkK_le (orM L) n)
    have HKL := Lib.hid (kerK_len (orM L) n)
    have HRL := Lib.hid fun c => clsK_rlen (kerK (orM L) n) n c
    have HPB := Lib.hid (par_ker (orM L) n)
    have HMK : Hid (mkF (prR L n) 1 ≤ 20000000) := Lib.hid (by
      have h1 := mkF_le n (prR L n) 1 (fun X hX => by
        obtain ⟨j, hj, e⟩ := getD_mem hX
        rw [← e, ← cls_prt hok]
        exact clsK_rlen _ _ _)
      have h2 := rkK_le (orM L) n
      have h3 : (n : Int) * ((prR L n).length : Int) ≤ 5 * 5 := Int.mul_le_mul (by omega) (by rw [prR_len]; omega) (by omega) (by omega)
      omega)
    clear hr hC hn hok hat hsp
    generalize kerK (orM L) n = P at *
    go_enter Tryd.func12, Tryd.ntmps12
    go_wp2_with fail
    refine HG.out.mono ?_
    rintro e w1 ⟨rfl, hb⟩
    have HB1 := Lib.hid hb
    have hz1 := hb.size
    clear hb
    go_wp2_with fail
    refine (HO.out _ HB1.out).mono ?_
    rintro e w2 ⟨v2, rfl, hown, hb⟩
    obtain ⟨a2, c2, rfl, hin⟩ := ownP_in hown
    have HIN := Lib.hid hin
    have HB2 := Lib.hid hb
    have hz2 := hb.size
    clear hown hin hb
    go_wp2_with fail
    refine (HN.out a2 c2 _ HIN.out).mono ?_
    rintro e w3 ⟨v3, rfl, hown, hb⟩
    obtain ⟨a3, c3, rfl, hrd⟩ := own_rd hown (by rw [HKL.out]; omega)
    rw [HKL.out]
    have HRD := Lib.hid hrd
    have HB3 := Lib.hid hb
    have hz3 := hb.size
    have HBA : Hid (Below w.heap.size w w3) := Lib.hid ((HB1.out.trans (HB2.out.mono hz1)).trans (hb.mono (by omega)))
    have h3 := (HBA.out.cell (p := ⟨b, off, none⟩) hbl).trans h0
    clear hown hrd hb h0
    have HC3 := HCL.out a3 c3 _ HRD.out.inRow
    rw [HKL.out] at HC3
    have HC3 := Lib.hid HC3
    go_wp2_with fail
    refine HC3.out.mono ?_
    intro e w4 hq
    unfold RetCla at hq
    rw [if_pos HPB.out] at hq
    obtain ⟨v4, us, rfl, ht, hb⟩ := hq
    have hrl := HRL.out
    rw [HPR.out] at ht hrl
    obtain ⟨a4, c4, rfl, hrt⟩ := ht.rdT (by rw [HPL.out]; have := HRK.out; omega) (fun j _ => by have := hrl j; omega)
    have HRT := Lib.hid hrt
    have HB4 := Lib.hid hb
    have hz4 := hb.size
    clear ht hrt hb hrl
    go_wp2_with fail
    go_ret2
    exact retT_of rfl HRT.out (by omega) HMK.out (HBA.out.trans (HB4.out.mono (by omega)))
  · have hsp : sprL L = [] := by unfold sprL; rw [if_neg hC]
    rw [hsp]
    have hne : (chkC L [] != 0) = true := by simpa using hC
    clear hr hC hsp
    generalize chkC L [] = C at *
    go_enter Tryd.func12, Tryd.ntmps12
    go_wp2_with fail
    refine HG.out.mono ?_
    rintro e w1 ⟨rfl, hb⟩
    have HB1 := Lib.hid hb
    clear hb
    go_wp2_with fail
    go_ret2
    exact retT_nil HB1.out _
end Go.Proofs.YtpphihjbgikjkaaDoor
