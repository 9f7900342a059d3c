/- The contracts of spec.IsElement and impl.IsElement. -/
import Derived.Test.YtpkapgidpgmdoaaWfor
import Derived.Test.YtpkapgidpgmdoaaSize
import Derived.Test.YtpkapgidpgmdoaaSzr
namespace Go.Proofs.Ytpkapgidpgmdoaa
open Go.RowKit Go.Maps

/-- Whether a map is an element. -/
noncomputable def ielB (L : List MapN) (q : Int) (s : Nat → Int) : Bool := decide (elsC L [(q, s)] = 0) && decide (ecd s ∈ elsK L)
noncomputable def ielV (L : List MapN) (q : Int) (s : Nat → Int) : Value := .tuple #[.bool (ielB L q s), .int .i64 (elsC L [(q, s)])]

theorem ielB_bad {L : List MapN} {q : Int} {s : Nat → Int} (h : elsC L [(q, s)] ≠ 0) : ielB L q s = false := by unfold ielB; rw [decide_eq_false h]; rfl
theorem ielB_good {L : List MapN} {q : Int} {s : Nat → Int} (h : elsC L [(q, s)] = 0) : ielB L q s = decide (ecd s ∈ elsK L) := by unfold ielB; rw [decide_eq_true h]; rfl

theorem nil_has {w : World} {p : Int} {t : Nat → Int} (hp : (Lit.int .i64 p).wf = true) (h : ∀ i, i < 5 → (Lit.int .i64 (t i)).wf = true) :
    (Instr.lookup 69 (.map none) (mv p t) true).run Try.prog w = .ok (.tuple #[.slice none 0 0, .bool false]) w := by
  have := Maps.look_nil (w := w) true lawM Try.underlying69 (zeroRow w) (keyOf_map hp h)
  simpa using this

set_option maxRecDepth 100000 in
set_option maxHeartbeats 1000000 in
theorem iisel_any (a : Option Addr) (c : Nat) (L : List MapN) (q : Int) (s : Nat → Int) (wq : (Lit.int .i64 q).wf = true) (ws : ∀ i, i < 5 → (Lit.int .i64 (s i)).wf = true) (h1 : a = none → c = 0) (hl : L.length ≤ 1048576) (w : World) (hr : InRowM w a L) :
    Calls Try.prog 39 #[.slice a L.length c, mv q s] w fun e w' => e = .returned (ielV L q s) ∧ Below w.heap.size w w' := by
  have hb0 : Below w.heap.size w ((w.alloc (.cells (mcells q s) 39)).alloc (.cells (mcells q s) 39)) := ((Below.refl _ _).alloc (Nat.le_refl _) _).alloc (by simp) _
  have hone : InRowM ((w.alloc (.cells (mcells q s) 39)).alloc (.cells (mcells q s) 39)) (some ⟨w.heap.size + 1, 0, none⟩) [(q, s)] := Or.inr ⟨w.heap.size + 1, 0, rfl, by simp, at_one (by have := halloc_at (w.alloc (.cells (mcells q s) 39)) (.cells (mcells q s) 39) _ rfl; simpa using this)⟩
  have HS := Lib.hid (mono_any a (some ⟨w.heap.size + 1, 0, none⟩) c 1 L [(q, s)] h1 (fun e => by cases e) hl (by simp) _ (hr.below hb0) hone)
  have HX0 : Hid (((w.alloc (.cells (mcells q s) 39)).alloc (.cells (mcells q s) 39)).heap[w.heap.size]? = some (.cells (mcells q s) 39 (0, 0))) := Lib.hid ((halloc_lt _ _ _ (by simp)).trans (halloc_at _ _ _ rfl))
  have HB0 := Lib.hid hb0
  have HNIL := Lib.hid fun (z : World) => nil_has (w := z) wq ws
  simp only [one_len] at HS
  clear hr hb0 hone
  simp only [mv, mcells] at HS HX0 HB0 HNIL ⊢
  go_enter Try.func39, Try.ntmps39
  go_wp2_with fail
  refine HS.out.mono ?_
  rintro e w1 ⟨hb, ⟨hc, rfl⟩ | ⟨hc, hg, gE, cE, b, l, rfl, hput, hmap, hmws, hI⟩⟩
  · have HB := Lib.hid (HB0.out.trans (hb.mono (by simp; omega)))
    have hx := (hb.block w.heap.size (by simp; omega)).trans HX0.out
    have hsx : w.heap.size < w1.heap.size := (Array.getElem?_eq_some_iff.1 hx).1
    obtain ⟨x0, x1, x2, x3, x4, x5⟩ := blk6 hx
    have hlk := HNIL.out
    have HV : Hid (ielV L q s = .tuple #[.bool false, .int .i64 (elsC L [(q, s)])]) := Lib.hid (by unfold ielV; rw [ielB_bad hc])
    clear hb hc hx
    generalize elsC L [(q, s)] = C at *
    go_wp2_with fail
    go_ret2
    exact ⟨by rw [HV.out]; rfl, HB.out.alloc HB.out.size _⟩
  · have HB := Lib.hid (HB0.out.trans (hb.mono (by simp; omega)))
    have hx := (hb.block w.heap.size (by simp; omega)).trans HX0.out
    have hsx : w.heap.size < w1.heap.size := (Array.getElem?_eq_some_iff.1 hx).1
    obtain ⟨x0, x1, x2, x3, x4, x5⟩ := blk6 hx
    have hO := (chk_good (chk_good2 hc)).2 0 (by simp)
    have hq : q = fst0 L := hO.1
    have hs : isB q s = true := hO.2
    have hba : Below w1.heap.size w1 (w1.alloc (.cells #[.slice (some ⟨gE, 0, none⟩) (elsK L).length cE, .map (some b)] 71)) := (Below.refl _ _).alloc (Nat.le_refl _) _
    obtain ⟨v, hv⟩ := look_num (mapN2_below hmap hba) (vld_ecd (by rw [← hq]; exact hs))
    have hlk := hv _ rfl
    have e : mv q (dcd (ecd s)) = mv q s := congrArg Value.agg (mcells_ecd hs)
    rw [← hq, e] at hlk
    have hmem : decide (ecd s ∈ l.map Prod.fst) = ielB L q s := by
      rw [ielB_good hc]
      exact decide_eq_decide.2 ((hmws.mem _).trans (srtE_mem _ _).symm)
    rw [hmem] at hlk
    have HV : Hid (ielV L q s = .tuple #[.bool (ielB L q s), .int .i64 0]) := Lib.hid (by unfold ielV; rw [hc])
    clear hb hc hx hO hq hs hv e hmem hput hmap hmws hI hg hba HNIL
    generalize ielB L q s = R at *
    simp only [mv, mcells] at hlk
    go_wp2_with fail
    go_ret2
    exact ⟨by rw [HV.out]; rfl, HB.out.alloc HB.out.size _⟩

set_option maxRecDepth 100000 in
set_option maxHeartbeats 1000000 in
theorem sisel_any (a : Option Addr) (c : Nat) (L : List MapN) (q : Int) (s : Nat → Int) (_ : (Lit.int .i64 q).wf = true) (_ : ∀ i, i < 5 → (Lit.int .i64 (s i)).wf = true) (hl : L.length ≤ 1048576) (w : World) (hr : InRowM w a L) :
    Calls Try.prog 38 #[.slice a L.length c, mv q s] w fun e w' => e = .returned (ielV L q s) ∧ Below w.heap.size w w' := by
  have hb0 : Below w.heap.size w ((w.alloc (.cells (mcells q s) 39)).alloc (.cells (mcells q s) 39)) := ((Below.refl _ _).alloc (Nat.le_refl _) _).alloc (by simp) _
  have hone : InRowM ((w.alloc (.cells (mcells q s) 39)).alloc (.cells (mcells q s) 39)) (some ⟨w.heap.size + 1, 0, none⟩) [(q, s)] := Or.inr ⟨w.heap.size + 1, 0, rfl, by simp, at_one (by have := halloc_at (w.alloc (.cells (mcells q s) 39)) (.cells (mcells q s) 39) _ rfl; simpa using this)⟩
  have HS := Lib.hid (sels_any a (some ⟨w.heap.size + 1, 0, none⟩) c 1 L [(q, s)] hl (by simp) _ (hr.below hb0) hone)
  have HX0 : Hid (((w.alloc (.cells (mcells q s) 39)).alloc (.cells (mcells q s) 39)).heap[w.heap.size]? = some (.cells (mcells q s) 39 (0, 0))) := Lib.hid ((halloc_lt _ _ _ (by simp)).trans (halloc_at _ _ _ rfl))
  have HB0 := Lib.hid hb0
  simp only [one_len] at HS
  clear hr hb0 hone
  by_cases hc : elsC L [(q, s)] = 0
  · have hg := (chk_good (chk_good2 hc)).1
    have hO := (chk_good (chk_good2 hc)).2 0 (by simp)
    have hq : q = fst0 L := hO.1
    have hs : isB q s = true := hO.2
    have hle := elsK_300 hc hg
    have hk := elsL_0 hc
    have hHS := HS.out
    rw [hc, hk] at hHS
    have HS := Lib.hid hHS
    have hcv := vld_ecd hs
    have hcv2 : vld (fst0 L) (ecd s) := by rw [← hq]; exact hcv
    have HFI := Lib.hid fun (a : Option Addr) (cap : Nat) (z : World) h => find_any (elsK_vld hg) (srtE_srt _ : srtd (elsK L)) hcv2 (Nat.le_trans hle (by omega)) a cap z h
    have hV : ielV L q s = .tuple #[.bool (decide (ecd s ∈ elsK L)), .int .i64 0] := by unfold ielV; rw [hc, ielB_good hc]
    have HV := Lib.hid hV
    have e : mv q (dcd (ecd s)) = mv q s := congrArg Value.agg (mcells_ecd hs)
    rw [← hq, e] at HFI
    rw [← hq] at HS
    clear hHS hk hc hcv hcv2 hV e hO hs hle hg hq
    generalize elsK L = K at *
    (try simp only [mE_len] at HS)
    simp only [mv, mcells] at HS HX0 HB0 HFI ⊢
    go_enter Try.func38, Try.ntmps38
    go_wp2_with fail
    refine HS.out.mono ?_
    rintro e w1 ⟨aK, cK, rfl, hrd, hb⟩
    rw [mE_len]
    have HB1 := Lib.hid (HB0.out.trans (hb.mono (by simp; omega)))
    have hx := (hb.block w.heap.size (by simp; omega)).trans HX0.out
    have hsx : w.heap.size < w1.heap.size := (Array.getElem?_eq_some_iff.1 hx).1
    obtain ⟨x0, x1, x2, x3, x4, x5⟩ := blk6 hx
    have HRD := Lib.hid hrd
    clear hb hrd HS hx
    go_wp2_with fail
    refine (HFI.out aK cK _ HRD.out.inRow).mono ?_
    rintro e w2 ⟨rfl, hb2⟩
    have HB2 := Lib.hid hb2
    clear hb2
    by_cases hin : ecd s ∈ K
    · have hlo : (0 : Int) ≤ (lowN K (ecd s) : Int) := by omega
      rw [if_pos hin]
      rw [decide_eq_true hin] at HV
      clear hin
      generalize (lowN K (ecd s) : Int) = N1 at *
      go_wp2_with fail
      go_ret2
      exact ⟨by rw [HV.out]; rfl, HB1.out.trans (HB2.out.mono (by omega))⟩
    · rw [if_neg hin]
      rw [decide_eq_false hin] at HV
      clear hin
      go_wp2_with fail
      go_ret2
      exact ⟨by rw [HV.out]; rfl, HB1.out.trans (HB2.out.mono (by omega))⟩
  · have hk := elsL_1 hc
    have hHS := HS.out
    rw [hk] at hHS
    have HS := Lib.hid hHS
    have hV : ielV L q s = .tuple #[.bool false, .int .i64 (elsC L [(q, s)])] := by unfold ielV; rw [ielB_bad hc]
    rw [hV]
    clear hHS hk hV
    generalize elsC L [(q, s)] = C at *
    have hcb : (C != 0) = true := by simpa using hc
    (try simp only [List.length_nil] at HS)
    simp only [mv, mcells] at HS HX0 HB0 ⊢
    go_enter Try.func38, Try.ntmps38
    go_wp2_with fail
    refine HS.out.mono ?_
    rintro e w1 ⟨aK, cK, rfl, _, hb⟩
    have HB := Lib.hid (HB0.out.trans (hb.mono (by simp; omega)))
    clear hb
    go_wp2_with fail
    go_ret2
    exact ⟨rfl, HB.out⟩

end Go.Proofs.Ytpkapgidpgmdoaa
