/- The contract of impl.ImageOf. -/
import Derived.Test.YtooeiafkhdiepaaIms
import Derived.Test.YtooeiafkhdiepaaIim
namespace Go.Proofs.Ytooeiafkhdiepaa
open Go.RowKit

set_option maxHeartbeats 1000000 in
theorem iIms_any (p : Int) (t : Nat → Int) (L : List Int) (hn : L.length ≤ 1048576) (a : Option Addr) (c : Nat) (w : World) (h : InRow w a L) :
    Calls Try.prog 25 #[mv p t, .slice a L.length c] w (RetRow w.heap.size (imsL p t L) (setC p t L) w) := by
  have HN := Lib.hid h
  have HI := Lib.hid fun w => iis_any p t w
  clear h
  rcases setC_cases p t L with hC | ⟨_, hv, hC⟩ | ⟨_, hv, hp, hC⟩
  · have e1 : imsL p t L = asc (movK t (memB L) p.toNat) := by unfold imsL; rw [if_pos hC]
    obtain ⟨hv, hp⟩ := setC_zero hC
    rw [e1, hC, ← lis_mov hp]
    obtain ⟨h1, h5⟩ := isB_pts hv
    have HV := Lib.hid hv
    have HP := Lib.hid fun k hk => ptsB_at hp k hk
    have HA := fun wx (hx : Below w.heap.size w wx) => aap_any p L hn a c wx (HN.out.below hx)
    rw [hp] at HA
    have HA := Lib.hid HA
    have HI := HI.out
    rw [hv] at HI
    have HI := Lib.hid HI
    clear hC e1 hv hp
    simp only [mv, mcells] at *
    go_enter Try.func25, Try.ntmps25
    go_wp2_with fail
    (refine (HI.out _).mono ?_; rintro e w1 ⟨rfl, hb⟩; obtain ⟨hc, hf⟩ := bcell hb; have hz := hb.size; have Hb := Lib.hid hb; (try simp at hz hc hf); (try (have hy := Nat.lt_of_succ_le hz)); have hz0 : w.heap.size < w1.heap.size := (by omega); clear hb)
    go_wp2_with fail
    refine (HA.out _ (by (repeat' (first | (with_reducible exact Below.refl _ _) | (with_reducible refine Below.alloc ?_ ?_ _) | (with_reducible refine Below.setCell ?_ ?_ _) | (with_reducible refine Below.drew ?_) | (with_reducible refine below_drewN ?_ _) | (with_reducible refine Below.trans ?_ (Below.mono (Hid.out (by assumption)) ?_)) | omega | (simp; done) | (simp; omega))))).mono ?_
    rintro e w2 ⟨rfl, m, rfl⟩
    have hz9 : w.heap.size < (w1.drewN m).heap.size := (by show _ < w1.heap.size; omega)
    go_wp2_with fail
    obtain ⟨wo, hwo⟩ : ∃ wo, wo = w1 := ⟨_, rfl⟩
    subst hwo
    have hw1 : w.heap.size < wo.heap.size := by omega
    go_loopw [8, 19] (fun _ i wr => ∃ k : Nat, k ≤ L.length ∧ i = .int .i64 k ∧ Below w.heap.size w wr ∧ wo.heap.size < wr.heap.size ∧
        wr.heap[w.heap.size]? = some (.cells (mcells p t) 26 (0, 0)) ∧ wr.heap[wo.heap.size]? = some (.cells (cells5 (lisK t L k)) 70 (0, 0))) (fun _ i _ => L.length - (intOf i).toNat)
    case atStart =>
      refine ⟨0, by omega, rfl, ?_, by show wo.heap.size < ((wo.drewN m).alloc _).heap.size; rw [World.size_alloc]; exact Nat.lt_succ_self _, ?_, ?_⟩
      · (repeat' (first | (with_reducible exact Below.refl _ _) | (with_reducible refine Below.alloc ?_ ?_ _) | (with_reducible refine Below.setCell ?_ ?_ _) | (with_reducible refine Below.drew ?_) | (with_reducible refine below_drewN ?_ _) | (with_reducible refine Below.trans ?_ (Below.mono (Hid.out (by assumption)) ?_)) | omega | (simp; done) | (simp; omega)))
      · exact (halloc_lt (wo.drewN m) _ _ hw1).trans ((Hb.out.block w.heap.size (by simp)).trans (halloc_at w _ _ rfl))
      · exact halloc_at (wo.drewN m) _ _ rfl
    case round =>
      clear hz9 hc hf hz hz0 hy Hb
      obtain ⟨k, hk, rfl, hb, hsz, b0, b1⟩ := hrel
      have Hb := Lib.hid hb
      have B0 := Lib.hid b0
      have B1 := Lib.hid b1
      have HR := Lib.hid (HN.out.below hb)
      clear hb b0 b1
      by_cases hkl : k < L.length
      · obtain ⟨b, off, rfl, hlt, hin⟩ := HR.out.resolve_left (fun e => by rw [e] at hkl; simp at hkl)
        have hkl' : (k : Int) < (L.length : Int) := by omega
        have e1 := hin k hkl
        obtain ⟨f0, f1⟩ := HP.out k hkl
        have hX5 : L.getD k 0 < 5 := by omega
        obtain ⟨g0, g1, _⟩ := ok_at HV.out (L.getD k 0).toNat (by omega)
        have g5 : t (L.getD k 0).toNat < 5 := by omega
        have hfk := blk_at B0.out (L.getD k 0).toNat (by omega)
        have hok := blk5_at B1.out (t (L.getD k 0).toNat).toNat (by omega)
        have hfr := blk_free B1.out (t (L.getD k 0).toNat).toNat
        have hset := blk5_set B1.out (t (L.getD k 0).toNat).toNat (by omega)
        rw [lisK_succ t L k g0] at hset
        have HSET := Lib.hid hset
        clear hset hin
        generalize L.getD k 0 = X at *
        generalize t X.toNat = Y at *
        go_wp2_with fail
        go_roundw
        case rel =>
          refine ⟨k + 1, by omega, by go_num, Hb.out.setCell (by simp; omega) _, by simpa using hsz, ?_, HSET.out⟩
          rw [hset_ne _ _ _ _ (by simp; omega)]; exact B0.out
        case measure => simp [intOf]; omega
      · obtain rfl : k = L.length := by omega
        obtain ⟨e0, e1, e2, e3, e4⟩ := blk5 B1.out
        have HRR := Lib.hid (asc_any (lisK t L L.length))
        have HLen := Lib.hid (asc_len (lisK t L L.length))
        simp only [cells5] at HRR
        go_wp2_with fail
        refine (HRR.out _).mono ?_
        rintro e w2 ⟨v, rfl, hown, hbel⟩
        obtain ⟨ax, cx, rfl, hrd⟩ := own_rd hown HLen.out
        have HB := Lib.hid hbel
        have HO := Lib.hid hrd
        clear hbel hown hrd
        go_wp2_with fail
        go_ret2
        refine ⟨_, _, rfl, HO.out.mono (by omega), ?_⟩
        (repeat' (first | (with_reducible exact Below.refl _ _) | (with_reducible refine Below.alloc ?_ ?_ _) | (with_reducible refine Below.setCell ?_ ?_ _) | (with_reducible refine Below.drew ?_) | (with_reducible refine below_drewN ?_ _) | (with_reducible refine Below.trans ?_ (Below.mono (Hid.out (by assumption)) ?_)) | omega | (simp; done) | (simp; omega)))
  · have e1 : imsL p t L = [] := by unfold imsL; rw [if_neg (by omega)]
    rw [e1, hC]
    have HI := HI.out
    rw [hv] at HI
    have HI := Lib.hid HI
    clear hC e1 hv
    simp only [mv, mcells] at *
    go_enter Try.func25, Try.ntmps25
    go_wp2_with fail
    (refine (HI.out _).mono ?_; rintro e w1 ⟨rfl, hb⟩; obtain ⟨hc, hf⟩ := bcell hb; have hz := hb.size; have Hb := Lib.hid hb; (try simp at hz hc hf); (try (have hy := Nat.lt_of_succ_le hz)); have hz0 : w.heap.size < w1.heap.size := (by omega); clear hb)
    go_wp2_with fail
    go_ret2
    refine ⟨none, 0, rfl, ⟨by simp, Or.inl rfl⟩, ?_⟩
    (repeat' (first | (with_reducible exact Below.refl _ _) | (with_reducible refine Below.alloc ?_ ?_ _) | (with_reducible refine Below.setCell ?_ ?_ _) | (with_reducible refine Below.drew ?_) | (with_reducible refine below_drewN ?_ _) | (with_reducible refine Below.trans ?_ (Below.mono (Hid.out (by assumption)) ?_)) | omega | (simp; done) | (simp; omega)))
  · have e1 : imsL p t L = [] := by unfold imsL; rw [if_neg (by omega)]
    rw [e1, hC]
    have HI := HI.out
    rw [hv] at HI
    have HI := Lib.hid HI
    have HA := fun wx (hx : Below w.heap.size w wx) => aap_any p L hn a c wx (HN.out.below hx)
    rw [hp] at HA
    have HA := Lib.hid HA
    clear hC e1 hv hp
    simp only [mv, mcells] at *
    go_enter Try.func25, Try.ntmps25
    go_wp2_with fail
    (refine (HI.out _).mono ?_; rintro e w1 ⟨rfl, hb⟩; obtain ⟨hc, hf⟩ := bcell hb; have hz := hb.size; have Hb := Lib.hid hb; (try simp at hz hc hf); (try (have hy := Nat.lt_of_succ_le hz)); have hz0 : w.heap.size < w1.heap.size := (by omega); clear hb)
    go_wp2_with fail
    refine (HA.out _ (by (repeat' (first | (with_reducible exact Below.refl _ _) | (with_reducible refine Below.alloc ?_ ?_ _) | (with_reducible refine Below.setCell ?_ ?_ _) | (with_reducible refine Below.drew ?_) | (with_reducible refine below_drewN ?_ _) | (with_reducible refine Below.trans ?_ (Below.mono (Hid.out (by assumption)) ?_)) | omega | (simp; done) | (simp; omega))))).mono ?_
    rintro e w2 ⟨rfl, m, rfl⟩
    go_wp2_with fail
    go_ret2
    refine ⟨none, 0, rfl, ⟨by simp, Or.inl rfl⟩, ?_⟩
    (repeat' (first | (with_reducible exact Below.refl _ _) | (with_reducible refine Below.alloc ?_ ?_ _) | (with_reducible refine Below.setCell ?_ ?_ _) | (with_reducible refine Below.drew ?_) | (with_reducible refine below_drewN ?_ _) | (with_reducible refine Below.trans ?_ (Below.mono (Hid.out (by assumption)) ?_)) | omega | (simp; done) | (simp; omega)))
end Go.Proofs.Ytooeiafkhdiepaa
