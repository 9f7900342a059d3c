/- The contracts of IsRegularMonoid and IsInverseMonoid, in spec and impl. -/
import Derived.Test.YtiogagaclhjdaaaOn
import Derived.Test.YtiogagaclhjdaaaMono
import Derived.Test.YtiogagaclhjdaaaInvs
import Derived.Test.YtiogagaclhjdaaaReg
import Derived.Test.YtiogagaclhjdaaaIvn
import Derived.Deep.RegionHeld3
namespace Go.Proofs.Ytiogagaclhjdaaa
open Go Go.RowKit Go.Maps

def rgmC (p : Int) (K : List Nat) : Bool := K.all fun x => regC p K x
def unqC (p : Int) (K : List Nat) : Bool := K.all fun x => unqT p K x

theorem rgm_len (p : Int) (K : List Nat) : (((rglC p K).length : Int) == (K.length : Int)) = rgmC p K := by
  unfold rgmC rglC
  rw [Bool.eq_iff_iff, List.all_eq_true, beq_iff_eq]
  constructor
  · intro h
    exact List.length_filter_eq_length_iff.1 (by omega)
  · intro h
    rw [List.length_filter_eq_length_iff.2 h]

theorem unq_any (p : Int) (K : List Nat) : (!(K.any fun x => !unqT p K x)) = unqC p K := by
  unfold unqC
  rw [List.all_eq_not_any_not]

set_option maxRecDepth 100000 in
set_option maxHeartbeats 1000000 in
theorem srgm_any (a : Option Addr) (c : Nat) (L : List MapN) (hl : L.length ≤ 1048576) (w : World) (hr : InRowM w a L) :
    Calls Try.prog 25 #[.slice a L.length c] w fun e w' => e = .returned (alV rgmC L) ∧ Below w.heap.size w w' := by
  have HS := Lib.hid (all_any a none c 0 L [] hl (by simp) w hr (Or.inl rfl))
  simp only [List.length_nil] at HS
  clear hr
  by_cases hc : witC L [] = 0
  · have hmon := mon_els (witC_good hc).1
    have hHS := HS.out
    rw [hc, allL_0 hc] at hHS
    have HS := Lib.hid hHS
    rw [alV_0 hc]
    have HMON := Lib.hid hmon
    have hle := hmon.le
    clear hHS hc hmon
    generalize elsK L = K at *
    generalize fst0 L = p at *
    (try simp only [mE_len] at HS)
    unfold rgmC
    have HALL : Hid (∀ k, k < K.length → regC p K (K.getD k 0) = false → (K.all fun x => regC p K x) = false) := Lib.hid fun k hk h => by
      rw [List.all_eq_false]
      exact ⟨_, getD_mem hk, by simpa using h⟩
    have HALT : Hid ((∀ k, k < K.length → regC p K (K.getD k 0) = true) → (K.all fun x => regC p K x) = true) := Lib.hid fun h => by
      rw [List.all_eq_true]
      intro x hx
      obtain ⟨k, hk, rfl⟩ := List.getElem_of_mem hx
      have := h k hk
      rw [List.getD_eq_getElem?_getD, List.getElem?_eq_getElem hk] at this
      exact this
    generalize (K.all fun x => regC p K x) = RES at *
    go_enter Try.func25, Try.ntmps25
    go_wp2_with fail
    refine HS.out.mono ?_
    rintro e w1 ⟨aK, cK, rfl, hrd, hb⟩
    rw [mE_len]
    have HB1 := Lib.hid hb
    have hs1 := hb.size
    have HRD := Lib.hid hrd
    clear hb hrd HS
    go_wp2_with fail
    go_loopw [6] (fun i wr => ∃ k : Nat, k ≤ K.length ∧ i = .int .i64 k ∧ Below w1.heap.size w1 wr ∧ ∀ j, j < k → regC p K (K.getD j 0) = true) (fun i _ => K.length - (intOf i).toNat)
    case atStart => exact ⟨0, by omega, rfl, Below.refl _ _, fun j hj => by omega⟩
    case round =>
      obtain ⟨k, hk, rfl, hb, hown⟩ := hrel
      have HBR := Lib.hid hb
      have HOW := Lib.hid hown
      have hsr := hb.size
      clear hb hown
      by_cases hkl : k < K.length
      · have hkl' : (k : Int) < (K.length : Int) := by omega
        obtain ⟨b1, o1, rfl, hl1, hat1⟩ := (HRD.out.below HBR.out).inRow.at6 k (by rw [mE_len]; exact hkl)
        rw [mE_at _ _ _ hkl] at hat1
        have hxm := getD_mem hkl
        have HNO := Lib.hid (HALL.out k hkl)
        have HST := Lib.hid fun (e : regC p K (K.getD k 0) = true) (j : Nat) (hj : j < k + 1) => (show regC p K (K.getD j 0) = true by
          by_cases h : j = k
          · rw [h]; exact e
          · exact HOW.out j (by omega))
        obtain ⟨CB, hCB⟩ : ∃ CB, CB = regC p K (K.getD k 0) := ⟨_, rfl⟩
        have HCB := Lib.hid hCB
        rw [← hCB] at HNO HST
        obtain ⟨x0, x1, x2, x3, x4, x5⟩ := hat1
        simp only [] at x0 x1 x2 x3 x4 x5
        generalize K.getD k 0 = x at *
        have HQ := Lib.hid (sreg_any HMON.out hxm (some ⟨b1, o1, none⟩) cK wr (HRD.out.below HBR.out).inRow)
        simp only [mv, mcells] at HQ
        go_wp2_with fail
        refine (HQ.out).mono ?_
        rintro e w3 ⟨rfl, hb3⟩
        have hy : w3.cell? ⟨b1, _, none⟩ = _ ∧ w3.cell? ⟨b1, _, none⟩ = _ ∧ w3.cell? ⟨b1, _, none⟩ = _ ∧ w3.cell? ⟨b1, _, none⟩ = _ ∧ w3.cell? ⟨b1, _, none⟩ = _ ∧ w3.cell? ⟨b1, _, none⟩ = _ := ⟨(hb3.cell (p := ⟨b1, _, none⟩) hl1).trans x0, (hb3.cell (p := ⟨b1, _, none⟩) hl1).trans x1, (hb3.cell (p := ⟨b1, _, none⟩) hl1).trans x2, (hb3.cell (p := ⟨b1, _, none⟩) hl1).trans x3, (hb3.cell (p := ⟨b1, _, none⟩) hl1).trans x4, (hb3.cell (p := ⟨b1, _, none⟩) hl1).trans x5⟩
        obtain ⟨y0, y1, y2, y3, y4, y5⟩ := hy
        have hs3 := hb3.size
        have HBW : Hid (Below w1.heap.size w1 w3) := Lib.hid (HBR.out.trans (hb3.mono hsr))
        have HB4 : Hid (Below w1.heap.size w1 (w3.alloc (.cells (mcells p (dcd x)) 31))) := Lib.hid (HBW.out.alloc (by omega) _)
        clear hb3 x0 x1 x2 x3 x4 x5
        rw [← hCB]
        clear hCB
        cases CB with
        | false =>
          have e := HNO.out (by trivial)
          subst e
          go_wp2_with fail
          go_ret2
          exact ⟨rfl, HB1.out.trans (HBW.out.mono hs1)⟩
        | true =>
          go_wp2_with fail
          go_roundw
          case rel => exact ⟨k + 1, by omega, by go_num, HBW.out, HST.out (by trivial)⟩
          case measure => simp [intOf]; omega
      · obtain rfl : k = K.length := by omega
        have e := HALT.out HOW.out
        subst e
        go_wp2_with fail
        go_ret2
        exact ⟨rfl, HB1.out.trans (HBR.out.mono hs1)⟩
  · have hHS := HS.out
    rw [allL_1 hc] at hHS
    have HS := Lib.hid hHS
    rw [alV_1 hc]
    clear hHS
    generalize witC L [] = C at *
    have hcb : (C != 0) = true := by simpa using hc
    (try simp only [List.length_nil] at HS)
    go_enter Try.func25, Try.ntmps25
    go_wp2_with fail
    refine HS.out.mono ?_
    rintro e w1 ⟨aK, cK, rfl, _, hb⟩
    have HB := Lib.hid hb
    clear hb
    go_wp2_with fail
    go_ret2
    exact ⟨rfl, HB.out⟩

set_option maxRecDepth 100000 in
set_option maxHeartbeats 1000000 in
theorem irgm_any (a : Option Addr) (c : Nat) (L : List MapN) (h1 : a = none → c = 0) (hl : L.length ≤ 1048576) (w : World) (hr : InRowM w a L) :
    Calls Try.prog 26 #[.slice a L.length c] w fun e w' => e = .returned (alV rgmC L) ∧ Below w.heap.size w w' := by
  have HS := Lib.hid (mono_any a none c 0 L [] h1 (fun _ => rfl) hl (by simp) w hr (Or.inl rfl))
  simp only [List.length_nil] at HS
  clear hr
  by_cases hc : witC L [] = 0
  · have hmon := mon_els (witC_good hc).1
    rw [alV_0 hc]
    have HQ := Lib.hid (fun (w1 : World) (gE cE b : Nat) (hbm : (w1.alloc (.cells #[.slice (some ⟨gE, 0, none⟩) (elsK L).length cE, .map (some b)] 48)).heap[w1.heap.size]? = some (.cells #[.slice (some ⟨gE, 0, none⟩) (elsK L).length cE, .map (some b)] 48 (0, 0)))
      (hrow : InRowM (w1.alloc (.cells #[.slice (some ⟨gE, 0, none⟩) (elsK L).length cE, .map (some b)] 48)) (some ⟨gE, 0, none⟩) (mE (fst0 L) (elsK L))) => fun (z : World) (hz : Below (w1.alloc (.cells #[.slice (some ⟨gE, 0, none⟩) (elsK L).length cE, .map (some b)] 48)).heap.size (w1.alloc (.cells #[.slice (some ⟨gE, 0, none⟩) (elsK L).length cE, .map (some b)] 48)) z) => thatR_any hmon w1.heap.size cE (some ⟨gE, 0, none⟩) (some b) z (bel_at hz hbm) (hrow.below hz))
    have HF : Hid (elsC L [] ≠ 0 → False) := Lib.hid fun h => h (by rw [← witC_els]; exact hc)
    have hHS := HS.out
    unfold RetMono at hHS
    have HS := Lib.hid hHS
    have hle := hmon.le
    have HMON := Lib.hid hmon
    clear hmon hc hHS
    generalize elsK L = K at *
    generalize fst0 L = p at *
    go_enter Try.func26, Try.ntmps26
    go_wp2_with fail
    refine HS.out.mono ?_
    rintro e w1 ⟨hb, ⟨hc, rfl⟩ | ⟨_, _, gE, cE, b, l, rfl, hput, _, _, _⟩⟩
    · exact (HF.out hc).elim
    have HB := Lib.hid hb
    have hs1 := hb.size
    have hrow : InRowM (w1.alloc (.cells #[.slice (some ⟨gE, 0, none⟩) K.length cE, .map (some b)] 48)) (some ⟨gE, 0, none⟩) (mE p K) := hput.inRow.below ((Below.refl _ _).alloc (Nat.le_refl _) _)
    have HQ := Lib.hid (HQ.out w1 gE cE b (halloc_at _ _ _ rfl) hrow)
    clear hb hput hrow HS HF
    obtain ⟨wg, hwg⟩ : ∃ wg, wg = w1.alloc (.cells #[.slice (some ⟨gE, 0, none⟩) K.length cE, .map (some b)] 48) := ⟨_, rfl⟩
    have hgs : wg.heap.size = w1.heap.size + 1 := by rw [hwg]; simp
    have hgm : wg.heap[w1.heap.size]? = some (.cells #[.slice (some ⟨gE, 0, none⟩) K.length cE, .map (some b)] 48 (0, 0)) := by rw [hwg]; exact halloc_at _ _ _ rfl
    have HBG : Hid (Below w1.heap.size w1 wg) := Lib.hid (by rw [hwg]; exact (Below.refl _ _).alloc (Nat.le_refl _) _)
    have hHQ := HQ.out
    rw [← hwg] at hHQ
    have HQ := Lib.hid fun (z : World) (hz : Below (w1.heap.size + 1) wg z) => hHQ z (by rw [hgs]; exact hz)
    have m0 : ∀ z, Below (w1.heap.size + 1) wg z → z.cell? ⟨w1.heap.size, 0, none⟩ = some (.slice (some ⟨gE, 0, none⟩) K.length cE) := fun z hz => by
      have := Joins.cell_of_block ((hz.block _ (by omega)).trans hgm) 0
      simpa using this
    have HEQ := Lib.hid (rgm_len p K)
    generalize (rglC p K) = NN at *
    clear hHQ hgm
    go_wp2_with fail
    try rw [← hwg]
    clear hwg
    go_region_held3 (fun w' => Below (w1.heap.size + 1) wg w') (first | (with_reducible assumption) | ((repeat' (first | (with_reducible exact Below.refl _ _) | (with_reducible refine Below.alloc ?_ ?_ _) | (with_reducible refine Below.setCell ?_ ?_ _) | (with_reducible refine Below.drew ?_) | (with_reducible refine below_drewN ?_ _) | (with_reducible refine Below.trans ?_ (Below.mono (Hid.out (by assumption)) ?_)) | omega | (simp; done) | (simp; omega))); done)) (first | (go_at_call 52; (with_reducible refine (HQ.out _ (by assumption)).mono ?_); rintro e w3 ⟨a3, c3, rfl, _, hb⟩; obtain ⟨hc, hf⟩ := bcell hb; have hz := hb.size; have Hb := Lib.hid hb; (try simp at hz hc hf); clear hb))
    all_goals go_wp2_with fail
    all_goals go_ret2
    all_goals
      refine ⟨by rw [← HEQ.out]; rfl, ?_⟩
      (repeat' (first | (with_reducible exact Below.refl _ _) | (with_reducible refine Below.alloc ?_ ?_ _) | (with_reducible refine Below.setCell ?_ ?_ _) | (with_reducible refine Below.drew ?_) | (with_reducible refine below_drewN ?_ _) | (with_reducible refine Below.trans ?_ (Below.mono (Hid.out (by assumption)) ?_)) | omega | (simp; done) | (simp; omega)))
  · rw [alV_1 hc]
    have HF : Hid (elsC L [] = 0 → False) := Lib.hid fun h => hc (by rw [witC_els]; exact h)
    have hHS := HS.out
    unfold RetMono at hHS
    rw [← witC_els] at hHS
    have HS := Lib.hid hHS
    generalize witC L [] = C at *
    have hcb : (C != 0) = true := by simpa using hc
    clear hHS
    go_enter Try.func26, Try.ntmps26
    go_wp2_with fail
    refine HS.out.mono ?_
    rintro e w1 ⟨hb, ⟨_, rfl⟩ | ⟨hc2, _, gE, cE, b, l, rfl, hput, _, _, _⟩⟩
    rotate_left
    · exact (hc hc2).elim
    have HB := Lib.hid hb
    have hs1 := hb.size
    clear hb hc HS HF
    go_wp2_with fail
    go_ret2
    exact ⟨rfl, HB.out.alloc HB.out.size _⟩

set_option maxRecDepth 100000 in
set_option maxHeartbeats 1000000 in
theorem sunq_any (a : Option Addr) (c : Nat) (L : List MapN) (hl : L.length ≤ 1048576) (w : World) (hr : InRowM w a L) :
    Calls Try.prog 29 #[.slice a L.length c] w fun e w' => e = .returned (alV unqC L) ∧ Below w.heap.size w w' := by
  have HS := Lib.hid (all_any a none c 0 L [] hl (by simp) w hr (Or.inl rfl))
  simp only [List.length_nil] at HS
  clear hr
  by_cases hc : witC L [] = 0
  · have hmon := mon_els (witC_good hc).1
    have hHS := HS.out
    rw [hc, allL_0 hc] at hHS
    have HS := Lib.hid hHS
    rw [alV_0 hc]
    have HMON := Lib.hid hmon
    have hle := hmon.le
    clear hHS hc hmon
    generalize elsK L = K at *
    generalize fst0 L = p at *
    (try simp only [mE_len] at HS)
    unfold unqC
    have HALL : Hid (∀ k, k < K.length → unqT p K (K.getD k 0) = false → (K.all fun x => unqT p K x) = false) := Lib.hid fun k hk h => by
      rw [List.all_eq_false]
      exact ⟨_, getD_mem hk, by simpa using h⟩
    have HALT : Hid ((∀ k, k < K.length → unqT p K (K.getD k 0) = true) → (K.all fun x => unqT p K x) = true) := Lib.hid fun h => by
      rw [List.all_eq_true]
      intro x hx
      obtain ⟨k, hk, rfl⟩ := List.getElem_of_mem hx
      have := h k hk
      rw [List.getD_eq_getElem?_getD, List.getElem?_eq_getElem hk] at this
      exact this
    generalize (K.all fun x => unqT p K x) = RES at *
    go_enter Try.func29, Try.ntmps29
    go_wp2_with fail
    refine HS.out.mono ?_
    rintro e w1 ⟨aK, cK, rfl, hrd, hb⟩
    rw [mE_len]
    have HB1 := Lib.hid hb
    have hs1 := hb.size
    have HRD := Lib.hid hrd
    clear hb hrd HS
    go_wp2_with fail
    go_loopw [6] (fun i wr => ∃ k : Nat, k ≤ K.length ∧ i = .int .i64 k ∧ Below w1.heap.size w1 wr ∧ ∀ j, j < k → unqT p K (K.getD j 0) = true) (fun i _ => K.length - (intOf i).toNat)
    case atStart => exact ⟨0, by omega, rfl, Below.refl _ _, fun j hj => by omega⟩
    case round =>
      obtain ⟨k, hk, rfl, hb, hown⟩ := hrel
      have HBR := Lib.hid hb
      have HOW := Lib.hid hown
      have hsr := hb.size
      clear hb hown
      by_cases hkl : k < K.length
      · have hkl' : (k : Int) < (K.length : Int) := by omega
        obtain ⟨b1, o1, rfl, hl1, hat1⟩ := (HRD.out.below HBR.out).inRow.at6 k (by rw [mE_len]; exact hkl)
        rw [mE_at _ _ _ hkl] at hat1
        have hxm := getD_mem hkl
        have HNO := Lib.hid (HALL.out k hkl)
        have HST := Lib.hid fun (e : unqT p K (K.getD k 0) = true) (j : Nat) (hj : j < k + 1) => (show unqT p K (K.getD j 0) = true by
          by_cases h : j = k
          · rw [h]; exact e
          · exact HOW.out j (by omega))
        obtain ⟨CB, hCB⟩ : ∃ CB, CB = unqT p K (K.getD k 0) := ⟨_, rfl⟩
        have HCB := Lib.hid hCB
        rw [← hCB] at HNO HST
        obtain ⟨x0, x1, x2, x3, x4, x5⟩ := hat1
        simp only [] at x0 x1 x2 x3 x4 x5
        generalize K.getD k 0 = x at *
        have HQ := Lib.hid (sinvs_any HMON.out.vl (HMON.out.vl x hxm) hle (some ⟨b1, o1, none⟩) cK wr (HRD.out.below HBR.out).inRow)
        have hne : (((invC p K x).length : Int) != 1) = !CB := by
          rw [hCB]
          unfold unqT
          by_cases h : (invC p K x).length = 1
          · rw [h]; rfl
          · rw [decide_eq_false h]
            have : (((invC p K x).length : Int) != 1) = true := by simp; omega
            exact this
        clear hCB HCB
        generalize invC p K x = N at *
        simp only [mv, mcells] at HQ
        go_wp2_with fail
        refine (HQ.out).mono ?_
        rintro e w3 ⟨a3, c3, rfl, _, hb3⟩
        have hs3 := hb3.size
        have HBW : Hid (Below w1.heap.size w1 w3) := Lib.hid (HBR.out.trans (hb3.mono hsr))
        clear hb3 x0 x1 x2 x3 x4 x5
        cases CB with
        | false =>
          have e := HNO.out (by trivial)
          subst e
          go_wp2_with fail
          go_ret2
          exact ⟨rfl, HB1.out.trans (HBW.out.mono hs1)⟩
        | true =>
          go_wp2_with fail
          go_roundw
          case rel => exact ⟨k + 1, by omega, by go_num, HBW.out, HST.out (by trivial)⟩
          case measure => simp [intOf]; omega
      · obtain rfl : k = K.length := by omega
        have e := HALT.out HOW.out
        subst e
        go_wp2_with fail
        go_ret2
        exact ⟨rfl, HB1.out.trans (HBR.out.mono hs1)⟩
  · have hHS := HS.out
    rw [allL_1 hc] at hHS
    have HS := Lib.hid hHS
    rw [alV_1 hc]
    clear hHS
    generalize witC L [] = C at *
    have hcb : (C != 0) = true := by simpa using hc
    (try simp only [List.length_nil] at HS)
    go_enter Try.func29, Try.ntmps29
    go_wp2_with fail
    refine HS.out.mono ?_
    rintro e w1 ⟨aK, cK, rfl, _, hb⟩
    have HB := Lib.hid hb
    clear hb
    go_wp2_with fail
    go_ret2
    exact ⟨rfl, HB.out⟩

set_option maxRecDepth 100000 in
set_option maxHeartbeats 1000000 in
theorem iunqM_any (a : Option Addr) (c : Nat) (L : List MapN) (h1 : a = none → c = 0) (hl : L.length ≤ 1048576) (w : World) (hr : InRowM w a L) :
    Calls Try.prog 30 #[.slice a L.length c] w fun e w' => e = .returned (alV unqC L) ∧ Below w.heap.size w w' := by
  have HS := Lib.hid (mono_any a none c 0 L [] h1 (fun _ => rfl) hl (by simp) w hr (Or.inl rfl))
  simp only [List.length_nil] at HS
  clear hr
  by_cases hc : witC L [] = 0
  · have hmon := mon_els (witC_good hc).1
    rw [alV_0 hc]
    have HQ := Lib.hid (fun (w1 : World) (gE cE b : Nat) (hbm : (w1.alloc (.cells #[.slice (some ⟨gE, 0, none⟩) (elsK L).length cE, .map (some b)] 48)).heap[w1.heap.size]? = some (.cells #[.slice (some ⟨gE, 0, none⟩) (elsK L).length cE, .map (some b)] 48 (0, 0)))
      (hrow : InRowM (w1.alloc (.cells #[.slice (some ⟨gE, 0, none⟩) (elsK L).length cE, .map (some b)] 48)) (some ⟨gE, 0, none⟩) (mE (fst0 L) (elsK L))) => hasG_any hmon.le (enters_of Try.func55 (by kernel_rfl) rfl) (some ⟨gE, 0, none⟩) cE _ hrow (lb := #[.pointer (some ⟨w1.heap.size, 0, none⟩)]) (bd := #[]) (fun x hx z hz => by simpa using iunq_any hmon hx w1.heap.size cE (some ⟨gE, 0, none⟩) (some b) z (bel_at hz hbm) (hrow.below hz)))
    have HF : Hid (elsC L [] ≠ 0 → False) := Lib.hid fun h => h (by rw [← witC_els]; exact hc)
    have hHS := HS.out
    unfold RetMono at hHS
    have HS := Lib.hid hHS
    have hle := hmon.le
    have HMON := Lib.hid hmon
    clear hmon hc hHS
    generalize elsK L = K at *
    generalize fst0 L = p at *
    go_enter Try.func30, Try.ntmps30
    go_wp2_with fail
    refine HS.out.mono ?_
    rintro e w1 ⟨hb, ⟨hc, rfl⟩ | ⟨_, _, gE, cE, b, l, rfl, hput, _, _, _⟩⟩
    · exact (HF.out hc).elim
    have HB := Lib.hid hb
    have hs1 := hb.size
    have hrow : InRowM (w1.alloc (.cells #[.slice (some ⟨gE, 0, none⟩) K.length cE, .map (some b)] 48)) (some ⟨gE, 0, none⟩) (mE p K) := hput.inRow.below ((Below.refl _ _).alloc (Nat.le_refl _) _)
    have HQ := Lib.hid (HQ.out w1 gE cE b (halloc_at _ _ _ rfl) hrow)
    clear hb hput hrow HS HF
    have HEQ := Lib.hid (unq_any p K)
    generalize (K.any fun x => !unqT p K x) = NN at *
    go_wp2_with fail
    refine HQ.out.mono ?_
    rintro e w3 ⟨rfl, hb3⟩
    have HB3 := Lib.hid hb3
    clear hb3
    go_wp2_with fail
    go_ret2
    exact ⟨by rw [← HEQ.out]; rfl, (HB.out.alloc HB.out.size _).trans (HB3.out.mono (by simp; omega))⟩
  · rw [alV_1 hc]
    have HF : Hid (elsC L [] = 0 → False) := Lib.hid fun h => hc (by rw [witC_els]; exact h)
    have hHS := HS.out
    unfold RetMono at hHS
    rw [← witC_els] at hHS
    have HS := Lib.hid hHS
    generalize witC L [] = C at *
    have hcb : (C != 0) = true := by simpa using hc
    clear hHS
    go_enter Try.func30, Try.ntmps30
    go_wp2_with fail
    refine HS.out.mono ?_
    rintro e w1 ⟨hb, ⟨_, rfl⟩ | ⟨hc2, _, gE, cE, b, l, rfl, hput, _, _, _⟩⟩
    rotate_left
    · exact (hc hc2).elim
    have HB := Lib.hid hb
    have hs1 := hb.size
    clear hb hc HS HF
    go_wp2_with fail
    go_ret2
    exact ⟨rfl, HB.out.alloc HB.out.size _⟩

end Go.Proofs.Ytiogagaclhjdaaa
