/- The contracts of spec.LeastGenerating and impl.LeastGenerating. -/
import Derived.Test.YtpkapgidpgmdoaaLgc
import Derived.Test.YtpkapgidpgmdoaaMono
import Derived.Test.YtpkapgidpgmdoaaSzr
import Derived.Test.YtpkapgidpgmdoaaSl
namespace Go.Proofs.Ytpkapgidpgmdoaa
open Go.RowKit Go.Maps

theorem findL_at {t : List Nat → Bool} : ∀ {F : List (List Nat)} {i : Nat}, i < F.length → (∀ j, j < i → t (F.getD j []) = false) → t (F.getD i []) = true → F.find? t = some (F.getD i [])
  | [], _, h, _, _ => by simp at h
  | x :: F, 0, _, _, hq => by
    have : t x = true := hq
    rw [List.find?_cons, this]; rfl
  | x :: F, i + 1, h, hn, hq => by
    have h0 : t x = false := hn 0 (by omega)
    rw [List.find?_cons, h0]
    exact findL_at (F := F) (i := i) (by simpa using h) (fun j hj => hn (j + 1) (by omega)) hq

theorem first_ex {Q : Nat → Bool} : ∀ {n : Nat}, (∃ k, k < n ∧ Q k = true) → ∃ i, i < n ∧ Q i = true ∧ ∀ j, j < i → Q j = false
  | 0, h => by obtain ⟨k, hk, _⟩ := h; omega
  | n + 1, h => by
    by_cases hc : ∃ k, k < n ∧ Q k = true
    · obtain ⟨i, hi, h1, h2⟩ := first_ex hc
      exact ⟨i, by omega, h1, h2⟩
    · obtain ⟨k, hk, hq⟩ := h
      have e : k = n := by
        rcases Nat.lt_or_ge k n with h | h
        · exact absurd ⟨k, h, hq⟩ hc
        · omega
      subst e
      refine ⟨k, by omega, hq, fun j hj => ?_⟩
      cases hv : Q j with
      | false => rfl
      | true => exact absurd ⟨j, hj, hv⟩ hc

theorem find_flat {t : List Nat → Bool} {f : Nat → List (List Nat)} {n k : Nat} (hk : k ≤ n) (h0 : ∀ c, c < k → ∀ r ∈ f c, t r = false) {x : List Nat} (h1 : (f k).find? t = some x) : ((List.range (n + 1)).flatMap f).find? t = some x := by
  have e := List.take_append_drop k (List.range (n + 1))
  have hd : (List.range (n + 1)).drop k = k :: (List.range (n + 1)).drop (k + 1) := by
    rw [List.drop_eq_getElem_cons (by rw [List.length_range]; omega), List.getElem_range]
  rw [← e, List.flatMap_append, hd, List.flatMap_cons, List.find?_append, List.find?_append, h1]
  have hn : (((List.range (n + 1)).take k).flatMap f).find? t = none := by
    rw [List.find?_eq_none]
    intro r hr
    obtain ⟨c, hc, hrc⟩ := List.mem_flatMap.1 hr
    obtain ⟨j, hj, rfl⟩ := List.getElem_of_mem hc
    rw [List.length_take] at hj
    rw [List.getElem_take, List.getElem_range] at hrc
    rw [h0 j (by omega) r hrc]
    decide
  rw [hn]
  rfl

theorem full_last (n : Nat) (hn : n ≤ 6) : 0 < (alP n).length ∧ (alP n).getD ((alP n).length - 1) [] = List.range n ∧ partsR n n 0 = [List.range n] := by
  rcases (by omega : n = 0 ∨ n = 1 ∨ n = 2 ∨ n = 3 ∨ n = 4 ∨ n = 5 ∨ n = 6) with rfl | rfl | rfl | rfl | rfl | rfl | rfl <;> exact of_decide_eq_true (by kernel_rfl)

theorem selP_full (gs : List Nat) : selP gs (List.range gs.length) = gs := by
  unfold selP
  refine List.ext_getElem (by rw [List.length_map, List.length_range]) fun i h1 h2 => ?_
  rw [List.getElem_map, List.getElem_range, List.getD_eq_getElem?_getD, List.getElem?_eq_getElem h2]
  rfl

/-- Whether the maps at these places make as many elements. -/
noncomputable def tstP (L : List MapN) (r : List Nat) : Bool := ((szP (fst0 L) (selP (codes L) r) : Int) == ((elsK L).length : Int))

/-- The least generating part. -/
noncomputable def lgL (L : List MapN) : List Int := if elsC L [] = 0 then rowI (((alP L.length).find? (tstP L)).getD []) else []

theorem lgL_bad {L : List MapN} (h : elsC L [] ≠ 0) : lgL L = [] := by unfold lgL; rw [if_neg h]
theorem lgL_at {L : List MapN} (h : elsC L [] = 0) {r : List Nat} (hf : (alP L.length).find? (tstP L) = some r) : lgL L = rowI r := by unfold lgL; rw [if_pos h, hf]; rfl

theorem elsK_E {L : List MapN} (hc : elsC L [] = 0) : (elsK L).length = (cfin (fst0 L) (codes L)).E.length ∧ (cfin (fst0 L) (codes L)).E.length ≤ 300 ∧ 0 < (cfin (fst0 L) (codes L)).E.length := by
  have hg := (chk_good (elsC_good hc)).1
  have h := srtE_len _ (els_inv hg).nd
  have h3 := elsK_300 hc hg
  unfold elsK at *
  exact ⟨h, by omega, (els_inv hg).one⟩

theorem tst_full {L : List MapN} (hc : elsC L [] = 0) : tstP L (List.range L.length) = true := by
  have h := elsK_E hc
  unfold tstP
  rw [← codes_len L, selP_full]
  unfold szP
  rw [if_pos h.2.1, h.1]
  simp

theorem tst_big {L : List MapN} (hc : elsC L [] = 0) {r : List Nat} (h : 300 < (cfin (fst0 L) (selP (codes L) r)).E.length) : tstP L r = false := by
  have h2 := elsK_E hc
  unfold tstP szP
  rw [if_neg (by omega), beq_eq_false_iff_ne]
  omega

theorem tst_small {L : List MapN} {r : List Nat} (h : (cfin (fst0 L) (selP (codes L) r)).E.length ≤ 300) : tstP L r = (((cfin (fst0 L) (selP (codes L) r)).E.length : Int) == ((elsK L).length : Int)) := by
  unfold tstP szP
  rw [if_pos h]

set_option maxRecDepth 100000 in
set_option maxHeartbeats 2000000 in
theorem ilg_any (a : Option Addr) (c : Nat) (L : List MapN) (h1 : a = none → c = 0) (hl : L.length ≤ 1048576) (w : World) (hr : InRowM w a L) :
    Calls Try.prog 57 #[.slice a L.length c] w (RetRow w.heap.size (lgL L) (elsC L []) w) := by
  have hb0 : Below w.heap.size w (w.alloc (.cells #[.slice a L.length c] 24)) := (Below.refl _ _).alloc (Nat.le_refl _) _
  have HS := Lib.hid (mono_any a none c 0 L [] h1 (fun _ => rfl) hl (by simp) _ (hr.below hb0) (Or.inl rfl))
  have HR := Lib.hid (hr.below hb0)
  have HB0 := Lib.hid hb0
  simp only [List.length_nil] at HS
  clear hr hb0
  go_enter Try.func57, Try.ntmps57
  go_wp2_with fail
  refine HS.out.mono ?_
  rintro e w1 ⟨hb, ⟨hc, rfl⟩ | ⟨hc, hg, gE, cE, b, l, rfl, hput, _, _, hI⟩⟩
  · have HB : Hid (Below w.heap.size w w1) := Lib.hid (HB0.out.trans (hb.mono (by simp)))
    have HK := Lib.hid (lgL_bad hc)
    have hcb : (elsC L [] != 0) = true := by simpa using hc
    clear hb hc
    go_wp2_with fail
    go_ret2
    rw [HK.out]
    exact ⟨none, 0, rfl, ⟨by simp, Or.inl rfl⟩, HB.out.alloc HB.out.size _⟩
  · have HB : Hid (Below w.heap.size w w1) := Lib.hid (HB0.out.trans (hb.mono (by simp)))
    have hs1 : w.heap.size < w1.heap.size := by have := hb.size; simp at this; omega
    have hbx : w1.heap[w.heap.size]? = some (.cells #[.slice a L.length c] 24 (0, 0)) := (hb.block _ (by simp)).trans (halloc_at _ _ _ rfl)
    have hba : Below w1.heap.size w1 (w1.alloc (.cells #[.slice (some ⟨gE, 0, none⟩) (elsK L).length cE, .map (some b)] 71)) := (Below.refl _ _).alloc (Nat.le_refl _) _
    have hmx : (w1.alloc (.cells #[.slice (some ⟨gE, 0, none⟩) (elsK L).length cE, .map (some b)] 71)).heap[w1.heap.size]? = some (.cells #[.slice (some ⟨gE, 0, none⟩) (elsK L).length cE, .map (some b)] 71 (0, 0)) := halloc_at _ _ _ rfl
    have HBX := Lib.hid (bel_at hba hbx)
    have HMX := Lib.hid hmx
    have HRL := Lib.hid ((HR.out.below hb).below hba)
    have hn6 := hg.n6
    obtain ⟨W, hW⟩ : ∃ W, W = (alP L.length).map rowI := ⟨_, rfl⟩
    have hWl : W.length = (alP L.length).length := by rw [hW, List.length_map]
    have HIP := Lib.hid fun z => iparts_any L.length hn6 z
    rw [← hW] at HIP
    have hxc := Joins.cell_of_block hbx 0
    simp only [List.getElem?_toArray, List.getElem?_cons_zero] at hxc
    obtain ⟨i, hi, hq1, hq0⟩ := first_ex (Q := fun k => tstP L ((alP L.length).getD k [])) (n := (alP L.length).length) ⟨(alP L.length).length - 1, by have := (full_last _ hn6).1; omega, by rw [(full_last _ hn6).2.1]; exact tst_full hc⟩
    have hWi : W.getD i [] = rowI ((alP L.length).getD i []) := by rw [hW]; exact row_at i hi
    have HVL : Hid (lgL L = W.getD i []) := Lib.hid ((lgL_at hc (findL_at hi hq0 hq1)).trans hWi.symm)
    have HW6 : Hid ((W.getD i []).length ≤ 6) := Lib.hid (by rw [hWi, rowI_len]; exact (okP_at hn6 hi).2.2.2.2)
    have hle := (endP L.length hn6).2.1
    have HC := Lib.hid hc
    have HZ : Hid (∀ z, Below w1.heap.size w1 z → z.heap[w1.heap.size]? = some (.cells #[.slice (some ⟨gE, 0, none⟩) (elsK L).length cE, .map (some b)] 71 (0, 0)) → ∀ (aP : Option Addr) (capP : Nat) (usP : List Value), Wdx z w1.heap.size (.slice aP W.length capP) usP W → Calls Try.prog 97 #[.slice aP W.length capP, .func (.func 98) #[] #[.pointer (some ⟨w.heap.size, 0, none⟩), .pointer (some ⟨w1.heap.size, 0, none⟩)]] z fun e w' => e = .returned (.int .i64 i) ∧ Below z.heap.size z w') := Lib.hid fun z hz hm aP capP usP hw => by
      subst hW
      refine idxf_any w.heap.size w1.heap.size z hw (by rw [List.length_map]; omega) (fun k => tstP L ((alP L.length).getD k [])) (fun k hk z2 hz2 => ?_) i (by rw [List.length_map]; exact hi) hq0 hq1
      rw [List.length_map] at hk
      obtain ⟨_, _, _, hxs, hr6⟩ := okP_at hn6 hk
      have hrow := hw.row k (by rw [List.length_map]; exact hk)
      rw [row_at k hk] at hrow
      obtain ⟨au, cu, eu, hrd⟩ := own_rd hrow (by rw [rowI_len]; omega)
      rw [eu, rowI_len]
      exact lgc_any hg a c cu _ w.heap.size w1.heap.size gE (elsK L).length cE (some b) au hxs hr6 z2 (bel_at hz2 (bel_at hz hbx)) (((HR.out.below hb).below hz).below hz2) (bel_at hz2 hm) (hrd.below hz2)
    have hil : i < W.length := by rw [hWl]; exact hi
    have hil' : (i : Int) < (W.length : Int) := by omega
    clear hb hput hI hba hbx hmx hq0 hq1 hc hg hW hWi hWl hi hle
    go_wp2_with fail
    refine (HIP.out _).mono ?_
    rintro e w2 ⟨aP, capP, usP, rfl, hwP, hb2⟩
    have hbz : Below w1.heap.size w1 w2 := ((Below.refl w1.heap.size w1).alloc (Nat.le_refl _) (.cells #[.slice (some ⟨gE, 0, none⟩) (elsK L).length cE, .map (some b)] 71)).trans (hb2.mono (by simp))
    have hWP : Wdx w2 w1.heap.size (.slice aP W.length capP) usP W := ⟨World.ownsRow.mono hwP.own (by simp), fun j hj => World.ownsRow.mono (hwP.row j hj) (by simp)⟩
    have HX := Lib.hid (HZ.out _ hbz (bel_at hb2 HMX.out) aP capP usP hWP)
    have HWP := Lib.hid hWP
    have HB2 := Lib.hid (HB.out.trans (hbz.mono (by omega)))
    have hs2 : w.heap.size < w2.heap.size := by have := hbz.size; omega
    clear hwP hb2 hbz hWP
    go_wp2_with fail
    refine HX.out.mono ?_
    rintro e w3 ⟨rfl, hb3⟩
    have HWP3 := Lib.hid (HWP.out.below hb3)
    have HB3 := Lib.hid (HB2.out.trans (hb3.mono (by omega)))
    clear hb3
    obtain ⟨g, cap2, e2, hgl, hcell⟩ := HWP3.out.at_ hil
    injection e2 with e2 _ e3
    subst e2 e3
    have hrow := HWP3.out.row i hil
    obtain ⟨au, cu, eu, hrd⟩ := own_rd hrow (by have := HW6.out; omega)
    rw [eu] at hcell
    have HRD := Lib.hid hrd
    clear hrow eu hrd
    go_wp2_with fail
    go_ret2
    rw [HVL.out, HC.out]
    refine ⟨au, cu, ?_, HRD.out.mono (by omega), HB3.out⟩
    rw [List.getD_eq_getElem?_getD, List.getElem?_eq_getElem hil]; rfl

theorem parts_ge {n : Nat} : ∀ {c f : Nat} {r : List Nat}, r ∈ partsR n c f → f ≤ n → c + f ≤ n
  | 0, f, r, _, hf => by omega
  | c + 1, f, r, hr, hf => by
    obtain ⟨i, hi, h2⟩ := List.mem_flatMap.1 hr
    obtain ⟨q, hq, _⟩ := List.mem_map.1 h2
    rw [List.mem_range'_1] at hi
    have := parts_ge hq (by omega)
    omega

theorem parts_big {n k : Nat} {r : List Nat} {P : Prop} (hk : n < k) (hr : r ∈ partsR n k 0) : ¬ P := by
  have := parts_ge hr (by omega)
  omega

set_option maxRecDepth 100000 in
set_option maxHeartbeats 4000000 in
theorem slg_any (a : Option Addr) (c : Nat) (L : List MapN) (hl : L.length ≤ 1048576) (w : World) (hr : InRowM w a L) :
    Calls Try.prog 56 #[.slice a L.length c] w (RetRow w.heap.size (lgL L) (elsC L []) w) := by
  have HS := Lib.hid (sels_any a none c 0 L [] hl (by simp) w hr (Or.inl rfl))
  have HR0 := Lib.hid hr
  clear hr
  by_cases hc : elsC L [] = 0
  · have hg := (chk_good (elsC_good hc)).1
    have hk := elsL_0 hc (O := [])
    have hHS := HS.out
    rw [hc, hk] at hHS
    rw [hc]
    have HS := Lib.hid hHS
    have hn6 := hg.n6
    have hn1 := hg.n1
    have hn1' : (0 : Int) < (L.length : Int) := by omega
    have hn6' : (L.length : Int) ≤ 6 := by omega
    have HRN := Lib.hid (inRow_num hg HR0.out)
    have HVL := Lib.hid hg.vl
    have hcl := codes_len L
    have h1 := hg.p1
    have h5 := hg.p5
    obtain ⟨b0, o0, rfl, hb0, hat0⟩ := HR0.out.at0 (by omega)
    obtain ⟨x0, _, _, _, _, _⟩ := hat0
    have hl0 : (L.getD 0 z0).1 = fst0 L := rfl
    rw [hl0] at x0
    have hK0 : 0 < (elsK L).length := by have := elsK_E hc; omega
    have hK3 : (elsK L).length ≤ 300 := elsK_300 hc hg
    have HTB := Lib.hid fun (r : List Nat) h => tst_big hc (r := r) h
    have HTS := Lib.hid fun (r : List Nat) h => tst_small (L := L) (r := r) h
    have HFIN : Hid (∀ k i, k ≤ L.length → (∀ c, c < k → ∀ r ∈ partsR L.length c 0, tstP L r = false) → i < (partsR L.length k 0).length → (∀ j, j < i → tstP L ((partsR L.length k 0).getD j []) = false) → tstP L ((partsR L.length k 0).getD i []) = true → lgL L = rowI ((partsR L.length k 0).getD i [])) := Lib.hid fun k i hk h0 hi hj h1 => by
      refine lgL_at hc ?_
      rw [alP_parts _ hn6]
      exact find_flat hk h0 (findL_at hi hj h1)
    have HFULL : Hid ((∀ c, c < L.length → ∀ r ∈ partsR L.length c 0, tstP L r = false) → lgL L = rowI (List.range L.length)) := Lib.hid fun h => by
      have hf := (full_last _ hn6).2.2
      have := HFIN.out L.length 0 (Nat.le_refl _) h (by rw [hf]; simp) (fun j hj => by omega) (by rw [hf]; exact tst_full hc)
      rw [hf] at this
      exact this
    have HPN : Hid (partsR L.length L.length 0 = [List.range L.length]) := Lib.hid (full_last _ hn6).2.2
    have HSP := Lib.hid fun (k : Nat) (hk : k ≤ 6) (z : World) => sparts_any L.length hn6 k hk 0 (by omega) z
    have HPR := Lib.hid (parts_row (n := L.length))
    have HPX : Hid (∀ k, ∀ r ∈ partsR L.length k 0, ∀ x ∈ r, x < L.length) := Lib.hid fun k r hr x hx => by
      by_cases hkn : k ≤ L.length
      · have hm : r ∈ alP L.length := by
          rw [alP_parts _ hn6]
          exact List.mem_flatMap.2 ⟨k, List.mem_range.2 (by omega), hr⟩
        obtain ⟨j, hj, rfl⟩ := List.getElem_of_mem hm
        have := (okP_at hn6 hj).2.2.2.1 x
        rw [List.getD_eq_getElem?_getD, List.getElem?_eq_getElem hj] at this
        exact this hx
      · exact absurd hx (parts_big (by omega) hr)
    have HCL := Lib.hid fun (r : List Nat) (hx : ∀ x ∈ r, x < L.length) (hrl : r.length ≤ 6) (a' : Option Addr) (cap' : Nat) (z : World) h => sclo_any h1 h5 (selP_vld (r := r) hg.vl (by rw [hcl]; exact hx)) (by unfold selP; rw [List.length_map]; exact hrl) a' cap' z h
    clear hHS hk hg hl0 hc h1 h5
    generalize lgL L = LG at *
    generalize tstP L = T at *
    generalize elsK L = K at *
    generalize codes L = gs at *
    generalize fst0 L = p at *
    simp only [List.length_nil] at HS
    have HCLN := Lib.hid hcl
    clear hcl
    go_enter Try.func56, Try.ntmps56
    go_wp2_with fail
    refine HS.out.mono ?_
    rintro e w1 ⟨aK, cK, rfl, hrd, hb⟩
    rw [mE_len]
    have HB1 := Lib.hid hb
    have hs1 := hb.size
    clear hb hrd HS
    go_wp2_with fail
    go_loopw [6, 7, 8, 9, 10, 11, 12, 13] (fun z _ _ _ _ _ _ _ wr => ∃ k : Nat, k ≤ L.length ∧ z = .int .i64 k ∧ Below w1.heap.size w1 wr ∧ ∀ c, c < k → ∀ r ∈ partsR L.length c 0, T r = false) (fun z _ _ _ _ _ _ _ _ => L.length - (intOf z).toNat)
    case atStart => exact ⟨0, by omega, rfl, Below.refl _ _, fun c hc => by omega⟩
    case round =>
      obtain ⟨k, hk, rfl, hbk, hal⟩ := hrel
      have HBK := Lib.hid hbk
      have HAL := Lib.hid hal
      have hsk := hbk.size
      clear hbk hal
      by_cases hkl : k < L.length
      · have hkl' : (k : Int) < (L.length : Int) := by omega
        obtain ⟨P, hP⟩ : ∃ P, P = partsR L.length k 0 := ⟨_, rfl⟩
        obtain ⟨W, hW⟩ : ∃ W, W = P.map rowI := ⟨_, rfl⟩
        have HQ := Lib.hid (HSP.out k (by omega))
        rw [← hP, ← hW] at HQ
        have hwl : W.length = P.length := by rw [hW, List.length_map]
        have hpl : P.length ≤ 46656 := by rw [hP]; exact Nat.le_trans (parts_le hn6 k 0) (Nat.le_trans (Nat.pow_le_pow_right (by omega) (show k ≤ 6 by omega)) (by decide))
        have HPK : Hid (∀ i, i < W.length → W.getD i [] = rowI (P.getD i []) ∧ (P.getD i []).length = k ∧ (∀ x ∈ P.getD i [], x < L.length) ∧ (W.getD i []).length = k) := Lib.hid fun i hi => by
          rw [hwl] at hi
          have hm : P.getD i [] ∈ partsR L.length k 0 := by rw [← hP, List.getD_eq_getElem?_getD, List.getElem?_eq_getElem hi]; exact List.getElem_mem hi
          have e : W.getD i [] = rowI (P.getD i []) := by rw [hW]; exact row_at i hi
          have e2 := HPR.out k 0 _ hm
          exact ⟨e, e2, HPX.out k _ hm, by rw [e, rowI_len, e2]⟩
        have HFK : Hid (∀ i, i < W.length → (∀ j, j < i → T (P.getD j []) = false) → T (P.getD i []) = true → LG = W.getD i []) := Lib.hid fun i hi hj h1 => by
          rw [(HPK.out i hi).1, hP]
          rw [hwl] at hi
          exact HFIN.out k i hk HAL.out (by rw [← hP]; exact hi) (by rw [← hP]; exact hj) (by rw [← hP]; exact h1)
        have HNK : Hid ((∀ j, j < W.length → T (P.getD j []) = false) → ∀ c, c < k + 1 → ∀ r ∈ partsR L.length c 0, T r = false) := Lib.hid fun h c hc r hr => by
          by_cases e : c = k
          · rw [e, ← hP] at hr
            obtain ⟨j, hj, rfl⟩ := List.getElem_of_mem hr
            have := h j (by rw [hwl]; exact hj)
            rw [List.getD_eq_getElem?_getD, List.getElem?_eq_getElem hj] at this
            exact this
          · exact HAL.out c (by omega) r hr
        clear hP hW
        have hwl6 : W.length ≤ 46656 := by omega
        have HWLP := Lib.hid hwl
        clear hwl hpl
        go_wp2_with fail
        refine (HQ.out _).mono ?_
        rintro e w2 ⟨aP, capP, usP, rfl, hwP, hb2⟩
        have HWP := Lib.hid hwP
        have HB2 := Lib.hid (HBK.out.trans (hb2.mono hsk))
        have hs2 : w1.heap.size ≤ w2.heap.size := HB2.out.size
        clear hwP hb2
        obtain ⟨wo, hwo⟩ : ∃ wo, wo = wr := ⟨_, rfl⟩
        subst hwo
        go_wp2_with fail
        go_loopw [8, 9, 10, 11, 12, 13] (fun z _ _ _ _ _ wr => ∃ i : Nat, i ≤ W.length ∧ z = .int .i64 i ∧ Below w2.heap.size w2 wr ∧ ∀ j, j < i → T (P.getD j []) = false) (fun z _ _ _ _ _ _ => W.length - (intOf z).toNat)
        case atStart => exact ⟨0, by omega, rfl, Below.refl _ _, fun j hj => by omega⟩
        case round =>
          obtain ⟨i, hi, rfl, hbi, hai⟩ := hrel
          have HBI := Lib.hid hbi
          have HAI := Lib.hid hai
          have hsi := hbi.size
          clear hbi hai
          by_cases hil : i < W.length
          · have hil' : (i : Int) < (W.length : Int) := by omega
            obtain ⟨e1, e2, e3, e4⟩ := HPK.out i hil
            have HE1 := Lib.hid e1
            have HX := Lib.hid e3
            have HE4 := Lib.hid e4
            have HRK := Lib.hid e2
            have HFK2 := Lib.hid (HFK.out i hil HAI.out)
            have HS2 := Lib.hid fun (e : T (P.getD i []) = false) (j : Nat) (hj : j < i + 1) => (show T (P.getD j []) = false by
              by_cases h : j = i
              · rw [h]; exact e
              · exact HAI.out j (by omega))
            have HTB2 := Lib.hid (HTB.out (P.getD i []))
            have HTS2 := Lib.hid (HTS.out (P.getD i []))
            have HCL2 := Lib.hid (HCL.out (P.getD i []) e3 (by rw [e2]; omega))
            clear e1 e2 e3 e4
            generalize P.getD i [] = r at *
            obtain ⟨wi, hwi⟩ : ∃ wi, wi = wr := ⟨_, rfl⟩
            subst hwi
            -- the row at i, in any world behind
            have HROW : Hid (∀ z, Below wi.heap.size wi z → ∃ gP gr cr, aP = some ⟨gP, 0, none⟩ ∧ z.cell? ⟨gP, i, none⟩ = some (.slice (some ⟨gr, 0, none⟩) k cr) ∧ (∀ m, m < k → z.cell? ⟨gr, m, none⟩ = some (.int .i64 ((r.getD m 0 : Nat) : Int))) ∧ Rd z wo.heap.size (some ⟨gr, 0, none⟩) (W.getD i [])) := Lib.hid fun z hz => by
              have hW := (HWP.out.below HBI.out).below hz
              obtain ⟨gP, cP, eP, hcP⟩ := wds_open hW (by omega)
              injection eP with eP _ _
              obtain ⟨gr, cr, eu, ho⟩ := hW.row i hil
              have hc := hcP i hil
              rw [eu, HE4.out] at hc
              obtain ⟨a', c', e', hrd⟩ := own_rd ho (by rw [HE4.out]; omega)
              injection e' with e' _ _
              refine ⟨gP, gr, cr, eP, hc, fun m hm => ?_, by rw [e']; exact hrd⟩
              have := (own_cells ho (by rw [HE4.out]; omega)).2 m (by rw [HE4.out]; exact hm)
              rw [Nat.zero_add, HE1.out, rowI_at (by rw [HRK.out]; exact hm)] at this
              exact this
            go_wp2_with fail
            go_loopw [9, 10] (fun v z wr => ∃ m : Nat, m ≤ k ∧ z = .int .i64 m ∧ OwnM wr wi.heap.size v (mE p (selP gs (r.take m))) ∧ Below wi.heap.size wi wr) (fun _ z _ => k - (intOf z).toNat)
            case atStart => exact ⟨0, by omega, rfl, own_emptyM (halloc_at _ _ _ rfl) (Nat.le_refl _), (Below.refl _ _).alloc (Nat.le_refl _) _⟩
            case round =>
              obtain ⟨m, hm, rfl, hown, hbm⟩ := hrel
              have HO := Lib.hid hown
              have HBM := Lib.hid hbm
              have hsm := hbm.size
              clear hown hbm
              by_cases hml : m < k
              · have hml' : (m : Int) < (k : Int) := by omega
                obtain ⟨gP, gr, cr, eP, hcP, hcr, _⟩ := HROW.out _ HBM.out
                have hcm := hcr m hml
                have hxm := HX.out (r.getD m 0) (getD_mem (by rw [HRK.out]; exact hml))
                have HSU := Lib.hid (selP_succ (gs := gs) (r := r) (k := m) (by rw [HRK.out]; exact hml))
                have hsl : (selP gs (r.take m)).length ≤ 6 := by unfold selP; rw [List.length_map, List.length_take]; omega
                generalize r.getD m 0 = x at *
                generalize selP gs (r.take m) = M at *
                have hxm' : (x : Int) < (L.length : Int) := by omega
                have hxg : x < gs.length := by rw [HCLN.out]; exact hxm
                obtain ⟨b1, o1, eb, hl1, hat1⟩ := (HRN.out.below (HB1.out.trans ((HB2.out.trans ((HBI.out.trans (HBM.out.mono hsi)).mono hs2)).mono hs1))).at6 x (by rw [mE_len]; exact hxg)
                injection eb with eb
                injection eb with eb1 eb2 _
                subst eb1 eb2
                rw [mE_at _ _ _ hxg] at hat1
                obtain ⟨x0', x1, x2, x3, x4, x5⟩ := hat1
                simp only [] at x0' x1 x2 x3 x4 x5
                generalize gs.getD x 0 = y at *
                subst eP
                have HB4 : Hid (Below wi.heap.size wi (wr.alloc (.cells (mcells p (dcd y)) 39))) := Lib.hid (HBM.out.alloc hsm _)
                clear hcr
                go_wp2_with (at_builtin; refine wpList_appM rfl _ _ rfl wi.heap.size u9 (mE p M) rfl (ownM_bel HO.out ((Below.refl _ _).alloc (Nat.le_refl _) _)) (some ⟨wr.heap.size, 0, none⟩) 1 [(p, dcd y)] (fun e => by cases e) rfl (Or.inr ⟨_, 0, rfl, by simp, at_one (halloc_at _ _ _ rfl)⟩) (by rw [mE_len]; simp; omega) (by simp; omega) ?_; intro v4 w4 hown4 hgrow4; have HO4 := Lib.hid hown4; have HB5 := Lib.hid (HB4.out.grown hgrow4 HB4.out.size (fun q e => (HO.out.lt q e).1)); clear hown4 hgrow4)
                go_roundw
                case rel => exact ⟨m + 1, by omega, by go_num, by rw [HSU.out, mE_app]; exact HO4.out, HB5.out⟩
                case measure => simp [intOf]; omega
              · obtain rfl : m = k := by omega
                have htk : r.take m = r := List.take_of_length_le (by rw [HRK.out]; exact Nat.le_refl _)
                rw [htk] at HO
                obtain ⟨aG, capG, rfl, hrG⟩ := ownM_rd HO.out (by rw [mE_len]; unfold selP; rw [List.length_map, HRK.out]; omega)
                rw [mE_len]
                have HRG := Lib.hid hrG
                have HQ5 := Lib.hid fun z h => HCL2.out aG capG z h
                have hx0 := ((HB1.out.trans ((HB2.out.trans ((HBI.out.trans (HBM.out.mono hsi)).mono hs2)).mono hs1)).cell (p := ⟨b0, o0, none⟩) hb0).trans x0
                clear hrG htk
                generalize selP gs r = G at *
                go_wp2_with fail
                refine (HQ5.out _ HRG.out.inRow).mono ?_
                rintro e w5 ⟨hb5, _, _, ⟨h3, rfl⟩ | ⟨h3, gO, capO, vW, us5, rfl, hown5, _⟩⟩
                · have HB5 := Lib.hid (HBI.out.trans ((HBM.out.trans (hb5.mono hsm)).mono hsi))
                  have HT := Lib.hid (HTB2.out h3)
                  clear hb5 h3 hx0
                  go_wp2_with fail
                  go_roundw
                  case rel => exact ⟨i + 1, by omega, by go_num, HB5.out, HS2.out HT.out⟩
                  case measure => simp [intOf]; omega
                · have HBW5 := Lib.hid (HBM.out.trans (hb5.mono hsm))
                  have HB5 := Lib.hid (HBI.out.trans (HBW5.out.mono hsi))
                  have HT := Lib.hid (HTS2.out h3)
                  clear hb5 hown5 hx0
                  generalize (cfin p G).E.length = nE at *
                  by_cases heq : nE = K.length
                  · subst heq
                    have hT : T r = true := by rw [HT.out]; simp
                    have HLG := Lib.hid (HFK2.out hT)
                    obtain ⟨gP, gr, cr, eP, hcP, _, hrd⟩ := HROW.out _ HBW5.out
                    subst eP
                    have HRD := Lib.hid hrd
                    clear hrd hT h3
                    go_wp2_with fail
                    go_ret2
                    rw [HLG.out]
                    refine ⟨some ⟨gr, 0, none⟩, cr, ?_, HRD.out.mono (by omega), HB1.out.trans ((HB2.out.trans (HB5.out.mono hs2)).mono hs1)⟩
                    rw [HE4.out]; rfl
                  · have hT : T r = false := by rw [HT.out, beq_eq_false_iff_ne]; omega
                    have HTF := Lib.hid hT
                    have hne : ((nE : Int) == (K.length : Int)) = false := by rw [beq_eq_false_iff_ne]; omega
                    clear hT heq
                    go_wp2_with fail
                    go_roundw
                    case rel => exact ⟨i + 1, by omega, by go_num, HB5.out, HS2.out HTF.out⟩
                    case measure => simp [intOf]; omega
          · obtain rfl : i = W.length := by omega
            go_wp2_with fail
            go_roundw
            case rel => exact ⟨k + 1, by omega, by go_num, HB2.out.trans (HBI.out.mono hs2), HNK.out HAI.out⟩
            case measure => simp [intOf]; omega
      · obtain rfl : k = L.length := by omega
        obtain ⟨W, hW⟩ : ∃ W, W = (partsR L.length L.length 0).map rowI := ⟨_, rfl⟩
        have HQ := Lib.hid (HSP.out L.length hn6)
        rw [← hW] at HQ
        rw [HPN.out] at hW
        have HW0 : Hid (W.length = 1 ∧ W.getD 0 [] = rowI (List.range L.length) ∧ (W.getD 0 []).length = L.length) := Lib.hid ⟨by rw [hW]; rfl, by rw [hW]; rfl, by rw [hW]; show (rowI (List.range L.length)).length = _; rw [rowI_len, List.length_range]⟩
        have HLG := Lib.hid (HFULL.out HAL.out)
        clear hW
        go_wp2_with fail
        refine (HQ.out _).mono ?_
        rintro e w2 ⟨aP, capP, usP, rfl, hwP, hb2⟩
        have h01 : 0 < W.length := by have := HW0.out.1; omega
        have h01' : (0 : Int) < (W.length : Int) := by omega
        obtain ⟨gP, cP, eP, hcP⟩ := wds_open hwP h01
        injection eP with eP1 _ eP2
        subst eP1 eP2
        obtain ⟨gr, cr, eu, ho⟩ := hwP.row 0 h01
        have hc0 := hcP 0 h01
        rw [eu, HW0.out.2.2] at hc0
        obtain ⟨a', c', e', hrd⟩ := own_rd ho (by rw [HW0.out.2.2]; omega)
        injection e' with e' _ _
        subst e'
        have HRD := Lib.hid hrd
        have HB2 := Lib.hid (HBK.out.trans (hb2.mono hsk))
        clear hwP hb2 hcP eu ho hrd
        go_wp2_with fail
        go_ret2
        rw [HLG.out, ← HW0.out.2.1]
        refine ⟨some ⟨gr, 0, none⟩, c', ?_, HRD.out.mono (by omega), HB1.out.trans (HB2.out.mono hs1)⟩
        rw [HW0.out.2.2]; rfl
  · have hz := lgL_bad hc
    have hk := elsL_1 hc (O := [])
    rw [hz]
    have hHS := HS.out
    rw [hk] at hHS
    have HS := Lib.hid hHS
    clear hHS hz hk
    generalize elsC L [] = C at *
    have hcb : (C != 0) = true := by simpa using hc
    simp only [List.length_nil] at HS
    go_enter Try.func56, Try.ntmps56
    go_wp2_with fail
    refine HS.out.mono ?_
    rintro e w1 ⟨aK, cK, rfl, _, hb⟩
    have HB := Lib.hid hb
    clear hb
    go_wp2_with fail
    go_ret2
    exact ⟨none, 0, rfl, ⟨by simp, Or.inl rfl⟩, HB.out⟩

end Go.Proofs.Ytpkapgidpgmdoaa
