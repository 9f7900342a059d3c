/- The contracts of spec.SideZeros and impl.SideZeros. -/
import Derived.Test.YtpkapgidpgmdoaaSize
import Derived.Test.YtpkapgidpgmdoaaZero
import Derived.Test.YtpkapgidpgmdoaaThz
import Derived.Laws.EntriesVeiled
namespace Go.Proofs.Ytpkapgidpgmdoaa
open Go.RowKit Go.Maps

theorem filt_same {P Q : Nat → Bool} {F : List Nat} (h : ∀ x ∈ F, P x = Q x) : F.filter P = F.filter Q := List.filter_congr h

set_option maxRecDepth 100000 in
set_option maxHeartbeats 1000000 in
theorem sside_any (a : Option Addr) (c : Nat) (L : List MapN) (r : Bool) (hl : L.length ≤ 1048576) (w : World) (hr : InRowM w a L) :
    Calls Try.prog 44 #[.slice a L.length c, .bool r] w (RetRowM w.heap.size (filL (fun p c => if r then zrA p (dcd c) L else zlA p (dcd c) L) L) (elsC L []) w) := by
  have HS := Lib.hid (sels_any a none c 0 L [] hl (by simp) w hr (Or.inl rfl))
  by_cases hc : elsC L [] = 0
  · have hg := (chk_good (elsC_good hc)).1
    have hz := (filL_good hc (q := fun p c => if r then zrA p (dcd c) L else zlA p (dcd c) L)).trans (congrArg (mE (fst0 L)) (filt_same fun c hcm => (zs_same hc r c hcm).symm))
    have hk := elsL_0 hc (O := [])
    rw [hz]
    have hHS := HS.out
    rw [hc, hk] at hHS
    rw [hc]
    have HS := Lib.hid hHS
    have hK3 := elsK_300 hc hg
    have HC := Lib.hid fun (a1 : Option Addr) (c1 : Nat) (z : World) h1 => szer_any r (elsK_vld hg) hK3 a1 c1 z h1
    clear hHS hz hk hg hc hr
    generalize elsK L = K at *
    generalize fst0 L = p at *
    simp only [List.length_nil] at HS
    go_enter Try.func44, Try.ntmps44
    go_wp2_with fail
    refine HS.out.mono ?_
    rintro e w1 ⟨aK, cK, rfl, hrd, hb⟩
    rw [mE_len]
    have HB1 := Lib.hid hb
    have HRD := Lib.hid hrd
    have hs1 := hb.size
    clear hb hrd HS
    go_wp2_with fail
    refine (HC.out aK cK _ HRD.out.inRow).mono ?_
    rintro e w2 ⟨a2, cap2, rfl, hr2, hb2⟩
    have HR2 := Lib.hid hr2
    have HB2 := Lib.hid hb2
    clear hr2 hb2
    go_wp2_with fail
    go_ret2
    exact ⟨a2, cap2, by rw [mE_len]; rfl, HR2.out.mono hs1, HB1.out.trans (HB2.out.mono hs1)⟩
  · have hz := filL_bad hc (q := fun p c => if r then zrA p (dcd c) L else zlA p (dcd c) L)
    have hk := elsL_1 hc (O := [])
    rw [hz]
    have hHS := HS.out
    rw [hk] at hHS
    have HS := Lib.hid hHS
    clear hHS hz hk hr
    generalize elsC L [] = C at *
    have hcb : (C != 0) = true := by simpa using hc
    simp only [List.length_nil] at HS
    go_enter Try.func44, Try.ntmps44
    go_wp2_with fail
    refine HS.out.mono ?_
    rintro e w1 ⟨aK, cK, rfl, _, hb⟩
    have HB := Lib.hid hb
    clear hb
    go_wp2_with fail
    go_ret2
    exact ⟨none, 0, rfl, ⟨by simp, Or.inl rfl⟩, HB.out⟩

set_option maxRecDepth 100000 in
set_option maxHeartbeats 1000000 in
theorem iside_any (a : Option Addr) (c : Nat) (L : List MapN) (r : Bool) (h1 : a = none → c = 0) (hl : L.length ≤ 1048576) (w : World) (hr : InRowM w a L) :
    Calls Try.prog 45 #[.slice a L.length c, .bool r] w (RetRowM w.heap.size (filL (fun p c => if r then zrA p (dcd c) L else zlA p (dcd c) L) L) (elsC L []) w) := by
  have hb0 : Below w.heap.size w (w.alloc (.cells #[.slice a L.length c] 24)) := (Below.refl _ _).alloc (Nat.le_refl _) _
  have HS := Lib.hid (mono_any a none c 0 L [] h1 (fun _ => rfl) hl (by simp) _ (hr.below hb0) (Or.inl rfl))
  have HR := Lib.hid (hr.below hb0)
  have HB0 := Lib.hid hb0
  simp only [List.length_nil] at HS
  clear hr hb0
  cases r
  · go_enter Try.func45, Try.ntmps45
    go_wp2_with fail
    refine HS.out.mono ?_
    rintro e w1 ⟨hb, ⟨hc, rfl⟩ | ⟨hc, hg, gE, cE, b, l, rfl, hput, _, _, hI⟩⟩
    · have HB : Hid (Below w.heap.size w w1) := Lib.hid (HB0.out.trans (hb.mono (by simp)))
      have hs1 : w.heap.size < w1.heap.size := by have := hb.size; simp at this; omega
      have hbx : w1.heap[w.heap.size]? = some (.cells #[.slice a L.length c] 24 (0, 0)) := (hb.block _ (by simp)).trans (halloc_at _ _ _ rfl)
      have hxc := Joins.cell_of_block hbx 0
      have HK : Hid (filL (fun p c => if false then zrA p (dcd c) L else zlA p (dcd c) L) L = []) := Lib.hid (filL_bad hc)
      have HT := Lib.hid fun fv z hm => thatI_nil w1.heap.size none fv z hm
      clear hb hc hbx
      go_wp2_with fail
      refine (HT.out _ _ (by first | exact (halloc_lt _ _ _ (by simp)).trans (halloc_at _ _ _ rfl) | exact (hset_ne _ _ _ _ (by simp)).trans ((halloc_lt _ _ _ (by simp)).trans (halloc_at _ _ _ rfl)) | exact (hset_ne _ _ _ _ (by simp)).trans ((hset_ne _ _ _ _ (by simp)).trans ((halloc_lt _ _ _ (by simp)).trans (halloc_at _ _ _ rfl))))).mono ?_
      rintro e w2 ⟨rfl, rfl⟩
      go_wp2_with fail
      go_ret2
      have hKK := HK.out
      refine ⟨none, 0, ?_, ⟨by first | (rw [hKK]; simp) | (simp at hKK ⊢; rw [hKK]; simp), Or.inl (by first | exact hKK | simpa using hKK)⟩, by (repeat' (first | (with_reducible exact Below.refl _ _) | (with_reducible refine Below.alloc ?_ ?_ _) | (with_reducible refine Below.setCell ?_ ?_ _) | (with_reducible refine Below.drew ?_) | (with_reducible refine below_drewN ?_ _) | (with_reducible refine Below.trans ?_ (Below.mono (Hid.out (by assumption)) ?_)) | omega | (simp; done) | (simp; omega)))⟩
      first | rw [hKK]; rfl | (simp only [Bool.false_eq_true, if_false] at hKK ⊢; rw [hKK]; rfl)
    · have HB : Hid (Below w.heap.size w w1) := Lib.hid (HB0.out.trans (hb.mono (by simp)))
      have hs1 : w.heap.size < w1.heap.size := by have := hb.size; simp at this; omega
      have hbx : w1.heap[w.heap.size]? = some (.cells #[.slice a L.length c] 24 (0, 0)) := (hb.block _ (by simp)).trans (halloc_at _ _ _ rfl)
      have hxc := Joins.cell_of_block hbx 0
      have HK : Hid (filL (fun p c => if false then zrA p (dcd c) L else zlA p (dcd c) L) L = mE (fst0 L) ((elsK L).filter fun c => zlA (fst0 L) (dcd c) L)) := Lib.hid (filL_good hc)
      have HC := Lib.hid hc
      have HT := Lib.hid fun (z : World) (hz : Below w1.heap.size w1 z) hm hf => thatL_any (elsK_vld hg) (elsK_300 hc hg) w1.heap.size gE cE _ (some b) z hm (hput.below hz) L (fun k hk => by have := hg.ok k hk; exact ⟨this.1, by rw [← this.1]; exact this.2⟩) (Nat.le_trans hg.n6 (by omega)) a c w.heap.size (bel_at hz hbx) ((HR.out.below hb).below hz) (w1.heap.size + 1) hf
      clear hb hc hput hI hg hbx
      go_wp2_with fail
      refine (HT.out _ (by (repeat' (first | (with_reducible exact Below.refl _ _) | (with_reducible refine Below.alloc ?_ ?_ _) | (with_reducible refine Below.setCell ?_ ?_ _) | (with_reducible refine Below.drew ?_) | (with_reducible refine below_drewN ?_ _) | (with_reducible refine Below.trans ?_ (Below.mono (Hid.out (by assumption)) ?_)) | omega | (simp; done) | (simp; omega)))) (by first | exact (halloc_lt _ _ _ (by simp)).trans (halloc_at _ _ _ rfl) | exact (hset_ne _ _ _ _ (by simp)).trans ((halloc_lt _ _ _ (by simp)).trans (halloc_at _ _ _ rfl)) | exact (hset_ne _ _ _ _ (by simp)).trans ((hset_ne _ _ _ _ (by simp)).trans ((halloc_lt _ _ _ (by simp)).trans (halloc_at _ _ _ rfl)))) (by first | exact halloc_at _ _ _ (by simp) | exact halloc_at (w1.alloc (.cells #[.slice (some ⟨gE, 0, none⟩) (elsK L).length cE, .map (some b)] 71)) (.cells #[(.func (.func 86) #[] #[])] 90) _ (by simp) | (have h := Joins.block_setCell (i := 0) (halloc_at (w1.alloc (.cells #[.slice (some ⟨gE, 0, none⟩) (elsK L).length cE, .map (some b)] 71)) (.cells #[(.func (.func 86) #[] #[])] 90) (w1.heap.size + 1) (by simp)) (.func (.func 87) #[] #[]); exact h))).mono ?_
      rintro e w2 ⟨a2, cap2, rfl, hr2, hb2⟩
      have HR2 := Lib.hid hr2
      have HB2 := Lib.hid hb2
      have hs2 := hb2.size
      (try simp at hs2)
      clear hr2 hb2
      go_wp2_with fail
      go_ret2
      have hKK := HK.out
      (try simp only [Bool.false_eq_true, if_false] at hKK ⊢)
      rw [hKK, HC.out]
      exact ⟨a2, cap2, by rw [mE_len]; rfl, HR2.out.mono (by simp; omega), by (repeat' (first | (with_reducible exact Below.refl _ _) | (with_reducible refine Below.alloc ?_ ?_ _) | (with_reducible refine Below.setCell ?_ ?_ _) | (with_reducible refine Below.drew ?_) | (with_reducible refine below_drewN ?_ _) | (with_reducible refine Below.trans ?_ (Below.mono (Hid.out (by assumption)) ?_)) | omega | (simp; done) | (simp; omega)))⟩
  · go_enter Try.func45, Try.ntmps45
    go_wp2_with fail
    refine HS.out.mono ?_
    rintro e w1 ⟨hb, ⟨hc, rfl⟩ | ⟨hc, hg, gE, cE, b, l, rfl, hput, _, _, hI⟩⟩
    · have HB : Hid (Below w.heap.size w w1) := Lib.hid (HB0.out.trans (hb.mono (by simp)))
      have hs1 : w.heap.size < w1.heap.size := by have := hb.size; simp at this; omega
      have hbx : w1.heap[w.heap.size]? = some (.cells #[.slice a L.length c] 24 (0, 0)) := (hb.block _ (by simp)).trans (halloc_at _ _ _ rfl)
      have hxc := Joins.cell_of_block hbx 0
      have HK : Hid (filL (fun p c => if true then zrA p (dcd c) L else zlA p (dcd c) L) L = []) := Lib.hid (filL_bad hc)
      have HT := Lib.hid fun fv z hm => thatI_nil w1.heap.size none fv z hm
      clear hb hc hbx
      go_wp2_with fail
      refine (HT.out _ _ (by first | exact (halloc_lt _ _ _ (by simp)).trans (halloc_at _ _ _ rfl) | exact (hset_ne _ _ _ _ (by simp)).trans ((halloc_lt _ _ _ (by simp)).trans (halloc_at _ _ _ rfl)) | exact (hset_ne _ _ _ _ (by simp)).trans ((hset_ne _ _ _ _ (by simp)).trans ((halloc_lt _ _ _ (by simp)).trans (halloc_at _ _ _ rfl))))).mono ?_
      rintro e w2 ⟨rfl, rfl⟩
      go_wp2_with fail
      go_ret2
      have hKK := HK.out
      refine ⟨none, 0, ?_, ⟨by first | (rw [hKK]; simp) | (simp at hKK ⊢; rw [hKK]; simp), Or.inl (by first | exact hKK | simpa using hKK)⟩, by (repeat' (first | (with_reducible exact Below.refl _ _) | (with_reducible refine Below.alloc ?_ ?_ _) | (with_reducible refine Below.setCell ?_ ?_ _) | (with_reducible refine Below.drew ?_) | (with_reducible refine below_drewN ?_ _) | (with_reducible refine Below.trans ?_ (Below.mono (Hid.out (by assumption)) ?_)) | omega | (simp; done) | (simp; omega)))⟩
      first | rw [hKK]; rfl | (simp only [if_true] at hKK ⊢; rw [hKK]; rfl)
    · have HB : Hid (Below w.heap.size w w1) := Lib.hid (HB0.out.trans (hb.mono (by simp)))
      have hs1 : w.heap.size < w1.heap.size := by have := hb.size; simp at this; omega
      have hbx : w1.heap[w.heap.size]? = some (.cells #[.slice a L.length c] 24 (0, 0)) := (hb.block _ (by simp)).trans (halloc_at _ _ _ rfl)
      have hxc := Joins.cell_of_block hbx 0
      have HK : Hid (filL (fun p c => if true then zrA p (dcd c) L else zlA p (dcd c) L) L = mE (fst0 L) ((elsK L).filter fun c => zrA (fst0 L) (dcd c) L)) := Lib.hid (filL_good hc)
      have HC := Lib.hid hc
      have HT := Lib.hid fun (z : World) (hz : Below w1.heap.size w1 z) hm hf => thatR_any (elsK_vld hg) (elsK_300 hc hg) w1.heap.size gE cE _ (some b) z hm (hput.below hz) L (fun k hk => by have := hg.ok k hk; exact ⟨this.1, by rw [← this.1]; exact this.2⟩) (Nat.le_trans hg.n6 (by omega)) a c w.heap.size (bel_at hz hbx) ((HR.out.below hb).below hz) (w1.heap.size + 1) hf
      clear hb hc hput hI hg hbx
      go_wp2_with fail
      refine (HT.out _ (by (repeat' (first | (with_reducible exact Below.refl _ _) | (with_reducible refine Below.alloc ?_ ?_ _) | (with_reducible refine Below.setCell ?_ ?_ _) | (with_reducible refine Below.drew ?_) | (with_reducible refine below_drewN ?_ _) | (with_reducible refine Below.trans ?_ (Below.mono (Hid.out (by assumption)) ?_)) | omega | (simp; done) | (simp; omega)))) (by first | exact (halloc_lt _ _ _ (by simp)).trans (halloc_at _ _ _ rfl) | exact (hset_ne _ _ _ _ (by simp)).trans ((halloc_lt _ _ _ (by simp)).trans (halloc_at _ _ _ rfl)) | exact (hset_ne _ _ _ _ (by simp)).trans ((hset_ne _ _ _ _ (by simp)).trans ((halloc_lt _ _ _ (by simp)).trans (halloc_at _ _ _ rfl)))) (by first | exact halloc_at _ _ _ (by simp) | exact halloc_at (w1.alloc (.cells #[.slice (some ⟨gE, 0, none⟩) (elsK L).length cE, .map (some b)] 71)) (.cells #[(.func (.func 86) #[] #[])] 90) _ (by simp) | (have h := Joins.block_setCell (i := 0) (halloc_at (w1.alloc (.cells #[.slice (some ⟨gE, 0, none⟩) (elsK L).length cE, .map (some b)] 71)) (.cells #[(.func (.func 86) #[] #[])] 90) (w1.heap.size + 1) (by simp)) (.func (.func 87) #[] #[]); exact h))).mono ?_
      rintro e w2 ⟨a2, cap2, rfl, hr2, hb2⟩
      have HR2 := Lib.hid hr2
      have HB2 := Lib.hid hb2
      have hs2 := hb2.size
      (try simp at hs2)
      clear hr2 hb2
      go_wp2_with fail
      go_ret2
      have hKK := HK.out
      (try simp only [if_true] at hKK ⊢)
      rw [hKK, HC.out]
      exact ⟨a2, cap2, by rw [mE_len]; rfl, HR2.out.mono (by simp; omega), by (repeat' (first | (with_reducible exact Below.refl _ _) | (with_reducible refine Below.alloc ?_ ?_ _) | (with_reducible refine Below.setCell ?_ ?_ _) | (with_reducible refine Below.drew ?_) | (with_reducible refine below_drewN ?_ _) | (with_reducible refine Below.trans ?_ (Below.mono (Hid.out (by assumption)) ?_)) | omega | (simp; done) | (simp; omega)))⟩

end Go.Proofs.Ytpkapgidpgmdoaa
