/- The contract of impl.OrbitOf. -/
import Derived.Test.YtpphihjbgikjkaaIob
namespace Go.Proofs.Ytpphihjbgikjkaa
open Go Go.RowKit Go.Maps

set_option maxRecDepth 100000 in
set_option maxHeartbeats 4000000 in
theorem iOrb_any (L : List MapN) (hl1 : L.length ≤ 1048576) (p : Int) (a : Option Addr) (cap : Nat) (hc1 : a = none → cap = 0) (w : World) (hr : InRowM w a L) :
    Calls Try.prog 15 #[.slice a L.length cap, .int .i64 p] w (RetRow w.heap.size (orbL L p) (orbC L p) w) := by
  have HG := Lib.hid (check_any a none cap 0 L [] hc1 (fun _ => rfl) hl1 (by simp) w hr (Or.inl rfl))
  by_cases hC : chkC L [] = 0
  · obtain ⟨n, hok, hn⟩ := LOk.of hC
    have hn1 := hok.n1
    have hn5 := hok.n5
    have hl : 0 < L.length := by have := hok.len1; omega
    have hl' : (0 : Int) < (L.length : Int) := by omega
    obtain ⟨b, off, rfl, hbl, hat⟩ := hr.at0 hl
    have h0 := hat.1
    rw [hok.pts 0 hl] at h0
    rw [hC] at HG
    by_cases hpn : 0 ≤ p ∧ p < (n : Int)
    · obtain ⟨q, rfl⟩ := Int.eq_ofNat_of_zero_le hpn.1
      have hin : inB (q : Int) 0 (fst0 L - 1) = true := by rw [hn]; exact inB_true.2 (by omega)
      rw [orbL_good (orbC_good hC hin), orbC_good hC hin]
      have HO := Lib.hid fun wx (hb : Below w.heap.size w wx) => iorb_any L hok q (by omega) (some ⟨b, off, none⟩) cap wx (hr.below hb)
      have HP := Lib.hid fun w => asc_any (rchS L q) w
      have HLen : Hid ((asc (rchS L q)).length ≤ 2000000) := Lib.hid (by have := ascK_len (rchS L q) 5; unfold asc; omega)
      have hge : ¬ ((q : Int) ≥ (n : Int)) := by omega
      simp only [Int.toNat_natCast]
      clear hr hC hin hok hn hat
      generalize asc (rchS L q) = R at *
      generalize rchS L q = s at *
      simp only [cells5] at HO HP
      go_enter Try.func15, Try.ntmps15
      go_wp2_with fail
      refine HG.out.mono ?_
      rintro e w1 ⟨rfl, hb⟩
      have HB1 := Lib.hid hb
      have hx := (hb.cell (p := ⟨b, off, none⟩) hbl).trans h0
      have hz1 := hb.size
      clear hb h0
      go_wp2_with fail
      refine (HO.out _ HB1.out).mono ?_
      rintro e w2 ⟨rfl, hb⟩
      have HB2 := Lib.hid hb
      have hz2 := hb.size
      clear hb
      go_wp2_with fail
      refine (HP.out _).mono ?_
      rintro e w3 ⟨v, rfl, hown, hb⟩
      obtain ⟨ax, cx, rfl, hrd⟩ := own_rd hown HLen.out
      have HB3 := Lib.hid hb
      have HRD := Lib.hid hrd
      clear hown hb hrd
      go_wp2_with fail
      go_ret2
      exact ⟨_, _, rfl, HRD.out.mono (by omega), by (repeat' (first | (with_reducible exact Below.refl _ _) | (with_reducible refine Below.alloc ?_ ?_ _) | (with_reducible refine Below.setCell ?_ ?_ _) | (with_reducible refine Below.drew ?_) | (with_reducible refine below_drewN ?_ _) | (with_reducible refine Below.trans ?_ (Below.mono (Hid.out (by assumption)) ?_)) | omega | (simp; done) | (simp; omega)))⟩
    · have hin : inB p 0 (fst0 L - 1) = false := by
        rw [hn, Bool.eq_false_iff]
        intro h
        have := inB_true.1 h
        omega
      have e1 := orbC_out hC hin
      rw [orbL_bad (by omega), e1]
      clear hr hC hin hok hn hat e1
      by_cases hp0 : p < 0
      · go_enter Try.func15, Try.ntmps15
        go_wp2_with fail
        refine HG.out.mono ?_
        rintro e w1 ⟨rfl, hb⟩
        have HB1 := Lib.hid hb
        clear hb
        go_wp2_with fail
        go_ret2
        exact ⟨none, 0, rfl, ⟨by simp, Or.inl rfl⟩, HB1.out⟩
      · have hge : p ≥ (n : Int) := by omega
        go_enter Try.func15, Try.ntmps15
        go_wp2_with fail
        refine HG.out.mono ?_
        rintro e w1 ⟨rfl, hb⟩
        have HB1 := Lib.hid hb
        have hx := (hb.cell (p := ⟨b, off, none⟩) hbl).trans h0
        clear hb h0
        go_wp2_with fail
        go_ret2
        exact ⟨none, 0, rfl, ⟨by simp, Or.inl rfl⟩, HB1.out⟩
  · rw [orbC_bad hC, orbL_bad (by rw [orbC_bad hC]; exact hC)]
    have hne : (chkC L [] != 0) = true := by simpa using hC
    clear hr hC
    generalize chkC L [] = C at *
    go_enter Try.func15, Try.ntmps15
    go_wp2_with fail
    refine HG.out.mono ?_
    rintro e w1 ⟨rfl, hb⟩
    have HB1 := Lib.hid hb
    clear hb
    go_wp2_with fail
    go_ret2
    exact ⟨none, 0, rfl, ⟨by simp, Or.inl rfl⟩, HB1.out⟩

end Go.Proofs.Ytpphihjbgikjkaa
