/- The contract of impl.IdempotentsOf. -/
import Derived.Test.YtpkapgidpgmdoaaSize
import Derived.Test.YtpkapgidpgmdoaaThat
namespace Go.Proofs.Ytpkapgidpgmdoaa
open Go.RowKit Go.Maps

set_option maxRecDepth 100000 in
theorem iido_any (a : Option Addr) (c : Nat) (L : List MapN) (h1 : a = none → c = 0) (hl : L.length ≤ 1048576) (w : World) (hr : InRowM w a L) :
    Calls Try.prog 47 #[.slice a L.length c] w (RetRowM w.heap.size (filL (fun p c => idemB p (dcd c)) L) (elsC L []) w) := by
  have HS := Lib.hid (mono_any a none c 0 L [] h1 (fun _ => rfl) hl (by simp) w hr (Or.inl rfl))
  simp only [List.length_nil] at HS
  clear hr
  go_enter Try.func47, Try.ntmps47
  go_wp2_with fail
  refine HS.out.mono ?_
  rintro e w1 ⟨hb, ⟨hc, rfl⟩ | ⟨hc, hg, gE, cE, b, l, rfl, hput, _, _, hI⟩⟩
  · have HB := Lib.hid hb
    have HK : Hid (filL (fun p c => idemB p (dcd c)) L = []) := Lib.hid (filL_bad hc)
    have HT := Lib.hid fun fv => thatI_nil w1.heap.size none fv _ (halloc_at w1 (.cells #[.slice none 0 0, .map none] 71) _ rfl)
    clear hb hc
    go_wp2_with fail
    refine (HT.out _).mono ?_
    rintro e w2 ⟨rfl, rfl⟩
    go_wp2_with fail
    go_ret2
    rw [HK.out]
    exact ⟨none, 0, rfl, ⟨by simp, Or.inl rfl⟩, HB.out.alloc HB.out.size _⟩
  · have HB := Lib.hid hb
    have HK : Hid (filL (fun p c => idemB p (dcd c)) L = mE (fst0 L) ((elsK L).filter fun c => idemB (fst0 L) (dcd c))) := Lib.hid (filL_good hc)
    have HC := Lib.hid hc
    have hba : Below w1.heap.size w1 (w1.alloc (.cells #[.slice (some ⟨gE, 0, none⟩) (elsK L).length cE, .map (some b)] 71)) := (Below.refl _ _).alloc (Nat.le_refl _) _
    have HT := Lib.hid (thatI_any (elsK_vld hg) (elsK_300 hc hg) w1.heap.size gE cE w.heap.size (some b) _ (halloc_at w1 (.cells #[.slice (some ⟨gE, 0, none⟩) (elsK L).length cE, .map (some b)] 71) _ rfl) (hput.below hba))
    have hs1 := hb.size
    clear hb hc hput hI hg hba
    go_wp2_with fail
    refine HT.out.mono ?_
    rintro e w2 ⟨a2, cap2, rfl, hr2, hb2⟩
    have HR2 := Lib.hid hr2
    have HB2 := Lib.hid hb2
    clear hr2 hb2
    go_wp2_with fail
    go_ret2
    rw [HK.out, HC.out]
    exact ⟨a2, cap2, by rw [mE_len]; rfl, HR2.out.mono (by simp; omega), (HB.out.alloc HB.out.size _).trans (HB2.out.mono (by simp; omega))⟩

end Go.Proofs.Ytpkapgidpgmdoaa
