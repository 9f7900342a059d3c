/- The contracts of spec.IsCommutative and impl.IsCommutative. -/
import Derived.Test.YtpkapgidpgmdoaaSize
import Derived.Test.YtpkapgidpgmdoaaCent
import Derived.Test.YtpkapgidpgmdoaaWord
namespace Go.Proofs.Ytpkapgidpgmdoaa
open Go.RowKit Go.Maps

theorem eqB_ecd {p : Int} {f g : Nat → Int} (hf : isB p f = true) (hg : isB p g = true) : eqB p f p g = decide (ecd f = ecd g) := by
  rw [Bool.eq_iff_iff, decide_eq_true_iff]
  constructor
  · intro h; exact ecd_congr (eqB_at h).2
  · intro h
    have e : ∀ i, i < 5 → f i = g i := fun i hi => by rw [← dcd_ecd hf i hi, ← dcd_ecd hg i hi, h]
    unfold eqB eqA
    rw [e 0 (by omega), e 1 (by omega), e 2 (by omega), e 3 (by omega), e 4 (by omega)]
    simp

/-- A good list has a property of all its maps exactly if all its numbers have it. -/
theorem good_all {L : List MapN} (hg : GoodL L) {P : (Nat → Int) → Bool} {Q : Nat → Prop} (h : ∀ f, isB (fst0 L) f = true → (P f = true ↔ Q (ecd f))) : (L.all fun x => P x.2) = true ↔ ∀ g ∈ codes L, Q g := by
  rw [List.all_eq_true]
  have hb : ∀ x ∈ L, isB (fst0 L) x.2 = true := fun x hx => by
    obtain ⟨k, hk, rfl⟩ := List.getElem_of_mem hx
    have := hg.ok k hk
    rw [List.getD_eq_getElem?_getD, List.getElem?_eq_getElem hk] at this
    rw [← this.1]; exact this.2
  constructor
  · intro ha g hgm
    obtain ⟨x, hx, rfl⟩ := List.mem_map.1 hgm
    exact (h _ (hb x hx)).1 (ha x hx)
  · intro ha x hx
    exact (h _ (hb x hx)).2 (ha _ (List.mem_map.2 ⟨x, hx, rfl⟩))

theorem com_num {L : List MapN} (hg : GoodL L) {c : Nat} (hc : vld (fst0 L) c) : comA (fst0 L) (dcd c) L = true ↔ ∀ g ∈ codes L, mulC (fst0 L) c g = mulC (fst0 L) g c := by
  unfold comA
  refine good_all hg (P := fun f => comB (fst0 L) (dcd c) f) fun f hf => ?_
  unfold comB
  rw [eqB_ecd (mul_ok hc.2 hf) (mul_ok hf hc.2), decide_eq_true_iff]
  unfold mulC
  rw [mulC_right hc.2 hf, mulC_left hf]

/-- Whether the monoid is commutative. -/
noncomputable def icoB (L : List MapN) : Bool := if elsC L [] = 0 then L.all fun x => comA (fst0 L) x.2 L else false

noncomputable def icoV (L : List MapN) : Value := .tuple #[.bool (icoB L), .int .i64 (elsC L [])]

theorem comA_congr {p : Int} {f g : Nat → Int} {M : List MapN} (hf : isB p f = true) (hM : ∀ x ∈ M, isB p x.2 = true) (h : ∀ i, i < 5 → f i = g i) : comA p f M = comA p g M := by
  unfold comA
  rw [Bool.eq_iff_iff, List.all_eq_true, List.all_eq_true]
  have e : ∀ x ∈ M, comB p f x.2 = comB p g x.2 := fun x hx => by
    unfold comB
    rw [mul_congr hf h (fun _ _ => rfl), mul_congr (hM x hx) (fun _ _ => rfl) h]
  exact ⟨fun ha x hx => by rw [← e x hx]; exact ha x hx, fun ha x hx => by rw [e x hx]; exact ha x hx⟩

theorem good_bad {L : List MapN} (hg : GoodL L) : ∀ x ∈ L, isB (fst0 L) x.2 = true := fun x hx => by
  obtain ⟨k, hk, rfl⟩ := List.getElem_of_mem hx
  have := hg.ok k hk
  rw [List.getD_eq_getElem?_getD, List.getElem?_eq_getElem hk] at this
  rw [← this.1]; exact this.2

theorem ico_eq {L : List MapN} (hc : elsC L [] = 0) : decide ((((elsK L).filter fun c => comA (fst0 L) (dcd c) L).length : Int) = ((elsK L).length : Int)) = icoB L := by
  have hg := (chk_good (elsC_good hc)).1
  have h3 : (cfin (fst0 L) (codes L)).E.length ≤ 300 := by
    have h := hc
    unfold elsC at h
    rw [if_pos (elsC_good hc)] at h
    by_cases h3 : 300 < (cfin (fst0 L) (codes L)).E.length
    · rw [if_pos h3] at h; simp at h
    · omega
  have h1 : (∀ c ∈ elsK L, comA (fst0 L) (dcd c) L = true) ↔ ∀ c ∈ (cfin (fst0 L) (codes L)).E, ∀ g ∈ codes L, mulC (fst0 L) c g = mulC (fst0 L) g c := by
    constructor
    · intro h c hcm
      exact (com_num hg (fin_vld hg.p1 hg.p5 hg.vl hcm)).1 (h c ((srtE_mem _ _).2 hcm))
    · intro h c hcm
      have := (srtE_mem _ _).1 hcm
      exact (com_num hg (fin_vld hg.p1 hg.p5 hg.vl this)).2 (h c this)
  have h2 : (L.all fun x => comA (fst0 L) x.2 L) = true ↔ ∀ c ∈ codes L, ∀ g ∈ codes L, mulC (fst0 L) c g = mulC (fst0 L) g c :=
    good_all hg (P := fun f => comA (fst0 L) f L) fun f hf => by
      rw [comA_congr (g := dcd (ecd f)) hf (good_bad hg) (fun i hi => (dcd_ecd hf i hi).symm)]
      exact com_num hg (vld_ecd hf)
  unfold icoB
  rw [if_pos hc, Bool.eq_iff_iff, decide_eq_true_iff, h2, ← fin_comm hg.p1 hg.p5 hg.vl h3, ← h1, Int.ofNat_inj]
  exact List.length_filter_eq_length_iff

set_option maxRecDepth 100000 in
set_option maxHeartbeats 1000000 in
theorem sisco_any (a : Option Addr) (c : Nat) (L : List MapN) (hl : L.length ≤ 1048576) (w : World) (hr : InRowM w a L) :
    Calls Try.prog 50 #[.slice a L.length c] w fun e w' => e = .returned (icoV L) ∧ Below w.heap.size w w' := by
  have HS := Lib.hid (sels_any a none c 0 L [] hl (by simp) w hr (Or.inl rfl))
  by_cases hc : elsC L [] = 0
  · have hg := (chk_good (elsC_good hc)).1
    have hk := elsL_0 hc (O := [])
    have hHS := HS.out
    rw [hc, hk] at hHS
    have HS := Lib.hid hHS
    have HC := Lib.hid fun (z : World) (h : Below w.heap.size w z) (a1 : Option Addr) (c1 : Nat) h1 => scen_any (elsK_vld hg) (elsK_300 hc hg) L (fun k hk => by have := hg.ok k hk; exact ⟨this.1, by rw [← this.1]; exact this.2⟩) (Nat.le_trans hg.n6 (by omega)) a1 a c1 c z h1 (hr.below h)
    have hI := ico_eq hc
    have hV : icoV L = .tuple #[.bool (icoB L), .int .i64 0] := by unfold icoV; rw [hc]
    rw [hV, ← hI]
    clear hHS hk hg hc hr hI hV
    generalize elsK L = K at *
    generalize fst0 L = p at *
    simp only [List.length_nil] at HS
    go_enter Try.func50, Try.ntmps50
    go_wp2_with fail
    refine HS.out.mono ?_
    rintro e w1 ⟨aK, cK, rfl, hrd, hb⟩
    rw [mE_len]
    have HB1 := Lib.hid hb
    have HRD := Lib.hid hrd
    have hs1 := hb.size
    clear hb hrd HS
    go_wp2_with fail
    refine (HC.out _ HB1.out aK cK HRD.out.inRow).mono ?_
    rintro e w2 ⟨a2, cap2, rfl, hr2, hb2⟩
    have HB2 := Lib.hid hb2
    clear hr2 hb2
    go_wp2_with fail
    go_ret2
    exact ⟨by first | (simp; done) | (simp; rw [Bool.eq_iff_iff]; simp), HB1.out.trans (HB2.out.mono hs1)⟩
  · have hk := elsL_1 hc (O := [])
    have hHS := HS.out
    rw [hk] at hHS
    have HS := Lib.hid hHS
    have hV : icoV L = .tuple #[.bool false, .int .i64 (elsC L [])] := by unfold icoV icoB; rw [if_neg hc]
    rw [hV]
    clear hHS hk hr hV
    generalize elsC L [] = C at *
    have hcb : (C != 0) = true := by simpa using hc
    simp only [List.length_nil] at HS
    go_enter Try.func50, Try.ntmps50
    go_wp2_with fail
    refine HS.out.mono ?_
    rintro e w1 ⟨aK, cK, rfl, _, hb⟩
    have HB := Lib.hid hb
    clear hb
    go_wp2_with fail
    go_ret2
    exact ⟨rfl, HB.out⟩

theorem all_false {L : List MapN} {P : MapN → Bool} (k : Nat) (hk : k < L.length) (h : P (L.getD k z0) = false) : L.all P = false := by
  rw [List.all_eq_false]
  rw [List.getD_eq_getElem?_getD, List.getElem?_eq_getElem hk] at h
  exact ⟨_, List.getElem_mem hk, by simpa using h⟩

theorem all_true {L : List MapN} {P : MapN → Bool} (h : ∀ k, k < L.length → P (L.getD k z0) = true) : L.all P = true := by
  rw [List.all_eq_true]
  intro x hx
  obtain ⟨k, hk, rfl⟩ := List.getElem_of_mem hx
  have := h k hk
  rw [List.getD_eq_getElem?_getD, List.getElem?_eq_getElem hk] at this
  exact this

set_option maxRecDepth 100000 in
set_option maxHeartbeats 1000000 in
theorem iisco_any (a : Option Addr) (c : Nat) (L : List MapN) (h1 : a = none → c = 0) (hl : L.length ≤ 1048576) (w : World) (hr : InRowM w a L) :
    Calls Try.prog 51 #[.slice a L.length c] w fun e w' => e = .returned (icoV L) ∧ Below w.heap.size w w' := by
  have HS := Lib.hid (mono_any a none c 0 L [] h1 (fun _ => rfl) hl (by simp) w hr (Or.inl rfl))
  have HR := Lib.hid hr
  simp only [List.length_nil] at HS
  clear hr
  go_enter Try.func51, Try.ntmps51
  go_wp2_with fail
  refine HS.out.mono ?_
  rintro e w1 ⟨hb, ⟨hc, rfl⟩ | ⟨hc, hg, gE, cE, b, l, rfl, hput, _, _, hI⟩⟩
  · have HB := Lib.hid hb
    have hV : icoV L = .tuple #[.bool false, .int .i64 (elsC L [])] := by unfold icoV icoB; rw [if_neg hc]
    have HV := Lib.hid hV
    clear hb hV
    generalize elsC L [] = C at *
    have hcb : (C != 0) = true := by simpa using hc
    go_wp2_with fail
    go_ret2
    exact ⟨by rw [HV.out]; rfl, HB.out.alloc HB.out.size _⟩
  · have hV : icoV L = .tuple #[.bool (L.all fun x => comA (fst0 L) x.2 L), .int .i64 0] := by unfold icoV icoB; rw [if_pos hc, hc]
    have HV := Lib.hid hV
    have hba : Below w1.heap.size w1 (w1.alloc (.cells #[.slice (some ⟨gE, 0, none⟩) (elsK L).length cE, .map (some b)] 71)) := (Below.refl _ _).alloc (Nat.le_refl _) _
    have HB := Lib.hid (hb.trans (hba.mono hb.size))
    have hMok : ∀ k, k < L.length → (L.getD k z0).1 = fst0 L ∧ isB (fst0 L) (L.getD k z0).2 = true := fun k hk => by have := hg.ok k hk; exact ⟨this.1, by rw [← this.1]; exact this.2⟩
    have HM := Lib.hid hMok
    have hn6 := hg.n6
    have HCM := Lib.hid fun (z : World) (h : Below w.heap.size w z) (k : Nat) (hk : k < L.length) => icomm_any (fst0 L) (L.getD k z0).2 (hMok k hk).2 L hMok (by omega) a c z (HR.out.below h)
    have hs1 := hb.size
    clear hb hV hc hg hput hI hMok
    generalize fst0 L = p at *
    go_wp2_with fail
    generalize hwz : w1.alloc (.cells #[.slice (some ⟨gE, 0, none⟩) (elsK L).length cE, .map (some b)] 71) = wz at *
    have hsz : w.heap.size ≤ wz.heap.size := HB.out.size
    clear hwz hba
    go_loopw [7, 18] (fun _ i wr => ∃ k : Nat, k ≤ L.length ∧ i = .int .i64 k ∧ Below w.heap.size w wr ∧ ∀ j, j < k → comA p (L.getD j z0).2 L = true) (fun _ i _ => L.length - (intOf i).toNat)
    case atStart => exact ⟨0, by omega, rfl, HB.out, fun j hj => by omega⟩
    case round =>
      obtain ⟨k, hk, rfl, hbr, hal⟩ := hrel
      have HBR := Lib.hid hbr
      have HAL := Lib.hid hal
      have hsr := hbr.size
      clear hbr hal
      by_cases hkl : k < L.length
      · have hkl' : (k : Int) < (L.length : Int) := by omega
        obtain ⟨b1, o1, rfl, hl1, hat1⟩ := (HR.out.below HBR.out).at6 k hkl
        obtain ⟨x0, x1, x2, x3, x4, x5⟩ := hat1
        obtain ⟨e1, e2⟩ := HM.out k hkl
        rw [e1] at x0
        have HQ := Lib.hid fun z h => HCM.out z h k hkl
        have HF := Lib.hid fun e => all_false (P := fun x => comA p x.2 L) k hkl e
        have HS2 := Lib.hid fun (e : comA p (L.getD k z0).2 L = true) (j : Nat) (hj : j < k + 1) => (show comA p (L.getD j z0).2 L = true by
          by_cases h : j = k
          · rw [h]; exact e
          · exact HAL.out j (by omega))
        clear e1 e2
        generalize (L.getD k z0).2 = t at *
        generalize comA p t L = G at *
        simp only [mv, mcells] at HQ
        go_wp2_with fail
        refine (HQ.out _ (HBR.out.alloc hsr _)).mono ?_
        rintro e w3 ⟨rfl, hb3⟩
        have HB3 : Hid (Below w.heap.size w w3) := Lib.hid ((HBR.out.alloc hsr _).trans (hb3.mono (by simp; omega)))
        clear hb3 x0 x1 x2 x3 x4 x5
        cases G with
        | true =>
          go_wp2_with fail
          go_roundw
          case rel => exact ⟨k + 1, by omega, by go_num, HB3.out, HS2.out (by simp)⟩
          case measure => simp [intOf]; omega
        | false =>
          go_wp2_with fail
          go_ret2
          exact ⟨by rw [HV.out, HF.out (by simp)]; rfl, HB3.out⟩
      · obtain rfl : k = L.length := by omega
        have e := all_true (P := fun x => comA p x.2 L) HAL.out
        have HE := Lib.hid e
        clear e
        go_wp2_with fail
        go_ret2
        exact ⟨by rw [HV.out, HE.out]; rfl, HBR.out⟩

end Go.Proofs.Ytpkapgidpgmdoaa
