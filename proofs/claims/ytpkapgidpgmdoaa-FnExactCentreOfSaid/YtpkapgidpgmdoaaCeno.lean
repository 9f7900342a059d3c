/- The contracts of spec.CentreOf and impl.CentreOf. -/
import Derived.Test.YtpkapgidpgmdoaaSize
import Derived.Test.YtpkapgidpgmdoaaCent
import Derived.Test.YtpkapgidpgmdoaaThc
namespace Go.Proofs.Ytpkapgidpgmdoaa
open Go.RowKit Go.Maps

set_option maxRecDepth 100000 in
set_option maxHeartbeats 1000000 in
theorem sceno_any (a : Option Addr) (c : Nat) (L : List MapN) (hl : L.length ≤ 1048576) (w : World) (hr : InRowM w a L) :
    Calls Try.prog 48 #[.slice a L.length c] w (RetRowM w.heap.size (filL (fun p c => comA p (dcd c) L) L) (elsC L []) w) := by
  have HS := Lib.hid (sels_any a none c 0 L [] hl (by simp) w hr (Or.inl rfl))
  by_cases hc : elsC L [] = 0
  · have hg := (chk_good (elsC_good hc)).1
    have hz := filL_good hc (q := fun p c => comA p (dcd c) L)
    have hk := elsL_0 hc (O := [])
    rw [hz]
    have hHS := HS.out
    rw [hc, hk] at hHS
    rw [hc]
    have HS := Lib.hid hHS
    have HC := Lib.hid fun (z : World) (h : Below w.heap.size w z) (a1 : Option Addr) (c1 : Nat) h1 => scen_any (elsK_vld hg) (elsK_300 hc hg) L (fun k hk => by have := hg.ok k hk; exact ⟨this.1, by rw [← this.1]; exact this.2⟩) (Nat.le_trans hg.n6 (by omega)) a1 a c1 c z h1 (hr.below h)
    clear hHS hz hk hg hc hr
    generalize elsK L = K at *
    generalize fst0 L = p at *
    simp only [List.length_nil] at HS
    go_enter Try.func48, Try.ntmps48
    go_wp2_with fail
    refine HS.out.mono ?_
    rintro e w1 ⟨aK, cK, rfl, hrd, hb⟩
    rw [mE_len]
    have HB1 := Lib.hid hb
    have HRD := Lib.hid hrd
    have hs1 := hb.size
    clear hb hrd HS
    go_wp2_with fail
    refine (HC.out _ HB1.out aK cK HRD.out.inRow).mono ?_
    rintro e w2 ⟨a2, cap2, rfl, hr2, hb2⟩
    have HR2 := Lib.hid hr2
    have HB2 := Lib.hid hb2
    clear hr2 hb2
    go_wp2_with fail
    go_ret2
    exact ⟨a2, cap2, by rw [mE_len]; rfl, HR2.out.mono hs1, HB1.out.trans (HB2.out.mono hs1)⟩
  · have hz := filL_bad hc (q := fun p c => comA p (dcd c) L)
    have hk := elsL_1 hc (O := [])
    rw [hz]
    have hHS := HS.out
    rw [hk] at hHS
    have HS := Lib.hid hHS
    clear hHS hz hk hr
    generalize elsC L [] = C at *
    have hcb : (C != 0) = true := by simpa using hc
    simp only [List.length_nil] at HS
    go_enter Try.func48, Try.ntmps48
    go_wp2_with fail
    refine HS.out.mono ?_
    rintro e w1 ⟨aK, cK, rfl, _, hb⟩
    have HB := Lib.hid hb
    clear hb
    go_wp2_with fail
    go_ret2
    exact ⟨none, 0, rfl, ⟨by simp, Or.inl rfl⟩, HB.out⟩

set_option maxRecDepth 100000 in
set_option maxHeartbeats 1000000 in
theorem iceno_any (a : Option Addr) (c : Nat) (L : List MapN) (h1 : a = none → c = 0) (hl : L.length ≤ 1048576) (w : World) (hr : InRowM w a L) :
    Calls Try.prog 49 #[.slice a L.length c] w (RetRowM w.heap.size (filL (fun p c => comA p (dcd c) L) L) (elsC L []) w) := by
  have hb0 : Below w.heap.size w (w.alloc (.cells #[.slice a L.length c] 24)) := (Below.refl _ _).alloc (Nat.le_refl _) _
  have HS := Lib.hid (mono_any a none c 0 L [] h1 (fun _ => rfl) hl (by simp) _ (hr.below hb0) (Or.inl rfl))
  have HR := Lib.hid (hr.below hb0)
  have HB0 := Lib.hid hb0
  simp only [List.length_nil] at HS
  clear hr hb0
  go_enter Try.func49, Try.ntmps49
  go_wp2_with fail
  refine HS.out.mono ?_
  rintro e w1 ⟨hb, ⟨hc, rfl⟩ | ⟨hc, hg, gE, cE, b, l, rfl, hput, _, _, hI⟩⟩
  · have HB : Hid (Below w.heap.size w w1) := Lib.hid (HB0.out.trans (hb.mono (by simp)))
    have hs1 : w.heap.size < w1.heap.size := by have := hb.size; simp at this; omega
    have hbx : Hid (w1.heap[w.heap.size]? = some (.cells #[.slice a L.length c] 24 (0, 0))) := Lib.hid ((hb.block _ (by simp)).trans (halloc_at _ _ _ rfl))
    have HK : Hid (filL (fun p c => comA p (dcd c) L) L = []) := Lib.hid (filL_bad hc)
    have HT := Lib.hid fun fv => thatI_nil w1.heap.size none fv _ (halloc_at w1 (.cells #[.slice none 0 0, .map none] 71) _ rfl)
    clear hb hc
    go_wp2_with fail
    refine (HT.out _).mono ?_
    rintro e w2 ⟨rfl, rfl⟩
    go_wp2_with fail
    go_ret2
    rw [HK.out]
    exact ⟨none, 0, rfl, ⟨by simp, Or.inl rfl⟩, HB.out.alloc HB.out.size _⟩
  · have HB : Hid (Below w.heap.size w w1) := Lib.hid (HB0.out.trans (hb.mono (by simp)))
    have hs1 : w.heap.size < w1.heap.size := by have := hb.size; simp at this; omega
    have hbx : w1.heap[w.heap.size]? = some (.cells #[.slice a L.length c] 24 (0, 0)) := (hb.block _ (by simp)).trans (halloc_at _ _ _ rfl)
    have HK : Hid (filL (fun p c => comA p (dcd c) L) L = mE (fst0 L) ((elsK L).filter fun c => comA (fst0 L) (dcd c) L)) := Lib.hid (filL_good hc)
    have HC := Lib.hid hc
    have hba : Below w1.heap.size w1 (w1.alloc (.cells #[.slice (some ⟨gE, 0, none⟩) (elsK L).length cE, .map (some b)] 71)) := (Below.refl _ _).alloc (Nat.le_refl _) _
    have HT := Lib.hid (thatC_any (elsK_vld hg) (elsK_300 hc hg) w1.heap.size gE cE _ (some b) _ (halloc_at w1 (.cells #[.slice (some ⟨gE, 0, none⟩) (elsK L).length cE, .map (some b)] 71) _ rfl) (hput.below hba) L (fun k hk => by have := hg.ok k hk; exact ⟨this.1, by rw [← this.1]; exact this.2⟩) (Nat.le_trans hg.n6 (by omega)) a c w.heap.size (bel_at hba hbx) ((HR.out.below hb).below hba))
    have HBX := Lib.hid hbx
    clear hb hc hput hI hg hba hbx
    go_wp2_with fail
    refine HT.out.mono ?_
    rintro e w2 ⟨a2, cap2, rfl, hr2, hb2⟩
    have HR2 := Lib.hid hr2
    have HB2 := Lib.hid hb2
    clear hr2 hb2
    go_wp2_with fail
    go_ret2
    rw [HK.out, HC.out]
    exact ⟨a2, cap2, by rw [mE_len]; rfl, HR2.out.mono (by simp; omega), (HB.out.alloc HB.out.size _).trans (HB2.out.mono (by simp; omega))⟩

end Go.Proofs.Ytpkapgidpgmdoaa
