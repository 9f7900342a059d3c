/- The contracts of IdealOf, in spec and impl. -/
import Derived.Test.YtiogagaclhjdaaaOn
import Derived.Test.YtiogagaclhjdaaaWith
import Derived.Test.YtiogagaclhjdaaaIds
import Derived.Test.YtiogagaclhjdaaaOrd
import Derived.Test.YtiogagaclhjdaaaRgt
namespace Go.Proofs.Ytiogagaclhjdaaa
open Go Go.RowKit Go.Maps

theorem sidlR_any {p : Int} {K : List Nat} {c : Nat} (hmon : Mon p K) (hc : c ∈ K) (a : Option Addr) (cap : Nat) (w : World) (hr : InRowM w a (mE p K)) :
    Calls Try.prog 64 #[.slice a K.length cap, mv p (dcd c)] w fun e w' => ∃ a cap, e = .returned (.slice a (idlC p K c).length cap) ∧ RdM w' w.heap.size a (mE p (idlC p K c)) ∧ Below w.heap.size w w' :=
  (sidl_any hmon hc a cap w hr).mono fun _ _ h => RetPut.row h (Nat.le_trans (hmon.len (srtE_srt _) (fun x hx => by
    obtain ⟨u, hu, v, hv, rfl⟩ := idl_mem.1 hx
    exact hmon.mul _ (hmon.mul u hu c hc) v hv)) (by omega))

theorem iidlC_any {p : Int} {K : List Nat} {s : Nat → Int} (hmon : Mon p K) (hs : isB p s = true) (hm : ecd s ∈ K) (b gE cE : Nat) (mo : Option Nat) (w : World) (hgE : gE < w.heap.size) (hbm : w.heap[b]? = some (.cells #[.slice (some ⟨gE, 0, none⟩) K.length cE, .map mo] 48 (0, 0))) (hrow : InRowM w (some ⟨gE, 0, none⟩) (mE p K)) :
    Calls Try.prog 65 #[.pointer (some ⟨b, 0, none⟩), mv p s] w
      fun e w' => ∃ a cap, e = .returned (.slice a (idlC p K (ecd s)).length cap) ∧ RdM w' w.heap.size a (mE p (idlC p K (ecd s))) ∧ Below w.heap.size w w' := by
  have h := iidlG_any (mE p (lftC p K (ecd s))) (mE p (idlC p K (ecd s))) p s b K.length cE (some ⟨gE, 0, none⟩) mo w hbm
    (fun z bl br fb hz f1 f2 f3 => by
      have h := ordP_any hmon (A := K) (B := [ecd s]) (fun a ha => ha) (fun a ha => by rw [List.mem_singleton.1 ha]; exact hm) hmon.le (by simp) (some ⟨gE, 0, none⟩) (some ⟨fb, 0, none⟩) cE 1 bl br z f2 f3 (hrow.below hz)
        (Or.inr ⟨fb, 0, rfl, (Array.getElem?_eq_some_iff.1 f1).1, at_one (by rw [mcells_ecd hs]; exact f1)⟩) (one_blk (Nat.lt_of_lt_of_le hgE hz.size)) (one_blk (Array.getElem?_eq_some_iff.1 f1).1)
      rw [ord_lft] at h
      exact h.mono fun _ _ ⟨a, cap, he, ⟨hr, hk⟩, hb⟩ => ⟨a, cap, by rw [mE_len]; exact he, ⟨hr.inRow, hk⟩, hb⟩)
    (fun z bl br a cap hz hr hk f1 f2 => by
      have h := ordP_any hmon (A := lftC p K (ecd s)) (B := K) (hmon.lft hm) (fun a ha => ha) (hmon.len (srtE_srt _) (hmon.lft hm)) hmon.le a (some ⟨gE, 0, none⟩) cap cE bl br z (by rw [mE_len] at f1; exact f1) f2 hr (hrow.below hz) hk (one_blk (Nat.lt_of_lt_of_le hgE hz.size))
      rw [← ord_lft, ord_idl] at h
      exact h.mono fun _ _ ⟨a, cap, he, hx⟩ => ⟨a, cap, by rw [mE_len]; exact he, hx⟩)
  rw [mE_len] at h
  exact h

theorem iidlN_any (q : Int) (s : Nat → Int) (b : Nat) (mo : Option Nat) (w : World) (hbm : w.heap[b]? = some (.cells #[.slice none 0 0, .map mo] 48 (0, 0))) :
    Calls Try.prog 65 #[.pointer (some ⟨b, 0, none⟩), mv q s] w
      fun e w' => ∃ a cap, e = .returned (.slice a 0 cap) ∧ RdM w' w.heap.size a [] ∧ Below w.heap.size w w' :=
  iidlG_any [] [] q s b 0 0 none mo w hbm
    (fun z bl br fb hz f1 f2 f3 => (ordN_any [] [(q, s)] (by simp) (by simp) (by simp) none (some ⟨fb, 0, none⟩) 0 1 bl br z f2 f3 (Or.inl rfl) (Or.inr ⟨fb, 0, rfl, (Array.getElem?_eq_some_iff.1 f1).1, at_one f1⟩) (fun b hb => by cases hb) (one_blk (Array.getElem?_eq_some_iff.1 f1).1)).mono fun _ _ ⟨a, cap, he, ⟨hr, hk⟩, hb⟩ => ⟨a, cap, he, ⟨hr.inRow, hk⟩, hb⟩)
    (fun z bl br a cap hz hr hk f1 f2 => ordN_any [] [] (by simp) (by simp) (by simp) a none cap 0 bl br z f1 f2 hr (Or.inl rfl) hk (fun b hb => by cases hb))

set_option maxRecDepth 100000 in
set_option maxHeartbeats 1000000 in
theorem sidlI_any (a : Option Addr) (c : Nat) (L : List MapN) (q : Int) (s : Nat → Int) (_ : (Lit.int .i64 q).wf = true) (_ : ∀ i, i < 5 → (Lit.int .i64 (s i)).wf = true) (hl : L.length ≤ 1048576) (w : World) (hr : InRowM w a L) :
    Calls Try.prog 39 #[.slice a L.length c, mv q s] w (RetRowM w.heap.size (onL idlC L q s) (witC L [(q, s)]) w) := by
  have hb0 : Below w.heap.size w ((w.alloc (.cells (mcells q s) 31)).alloc (.cells (mcells q s) 31)) := ((Below.refl _ _).alloc (Nat.le_refl _) _).alloc (by simp) _
  have hone : InRowM ((w.alloc (.cells (mcells q s) 31)).alloc (.cells (mcells q s) 31)) (some ⟨w.heap.size + 1, 0, none⟩) [(q, s)] := Or.inr ⟨w.heap.size + 1, 0, rfl, by simp, at_one (by have := halloc_at (w.alloc (.cells (mcells q s) 31)) (.cells (mcells q s) 31) _ rfl; simpa using this)⟩
  have HS := Lib.hid (all_any a (some ⟨w.heap.size + 1, 0, none⟩) c 1 L [(q, s)] hl (by simp) _ (hr.below hb0) hone)
  have HX0 : Hid (((w.alloc (.cells (mcells q s) 31)).alloc (.cells (mcells q s) 31)).heap[w.heap.size]? = some (.cells (mcells q s) 31 (0, 0))) := Lib.hid ((halloc_lt _ _ _ (by simp)).trans (halloc_at _ _ _ rfl))
  have HB0 := Lib.hid hb0
  simp only [show [(q, s)].length = 1 from rfl] at HS
  clear hr hb0 hone
  by_cases hc : witC L [(q, s)] = 0
  · obtain ⟨hmon, hq, hs, hm, he⟩ := on_good hc
    have HIN := Lib.hid fun (a : Option Addr) (cap : Nat) (z : World) h => sidlR_any hmon hm a cap z h
    have hHS := HS.out
    rw [hc, allL_0 hc, hq] at hHS
    have HS := Lib.hid hHS
    rw [he] at HIN
    rw [onL_0 hc, hq, hc]
    clear hHS hc hs hm hmon hq
    generalize elsK L = K at *
    generalize hNN : idlC q K (ecd s) = NN at *
    clear hNN
    (try simp only [mE_len] at HS)
    simp only [mv, mcells] at HS HX0 HB0 HIN ⊢
    go_enter Try.func39, Try.ntmps39
    go_wp2_with fail
    refine HS.out.mono ?_
    rintro e w1 ⟨aK, cK, rfl, hrd, hb⟩
    rw [mE_len]
    have HB1 := Lib.hid (HB0.out.trans (hb.mono (by simp; omega)))
    have hx := (hb.block w.heap.size (by simp; omega)).trans HX0.out
    have hsx : w.heap.size < w1.heap.size := (Array.getElem?_eq_some_iff.1 hx).1
    obtain ⟨x0, x1, x2, x3, x4, x5⟩ := blk6 hx
    have HRD := Lib.hid hrd
    clear hb hrd HS hx
    go_wp2_with fail
    refine (HIN.out aK cK _ HRD.out.inRow).mono ?_
    rintro e w2 ⟨a2, c2, rfl, hr2, hb2⟩
    have HB2 := Lib.hid hb2
    have HR2 := Lib.hid hr2
    clear hb2 hr2
    go_wp2_with fail
    go_ret2
    exact ⟨a2, c2, by rw [mE_len]; rfl, HR2.out.mono (by omega), HB1.out.trans (HB2.out.mono (by omega))⟩
  · have hHS := HS.out
    rw [allL_1 hc] at hHS
    have HS := Lib.hid hHS
    rw [onL_1 hc]
    clear hHS
    generalize witC L [(q, s)] = C at *
    have hcb : (C != 0) = true := by simpa using hc
    (try simp only [List.length_nil] at HS)
    simp only [mv, mcells] at HS HX0 HB0 ⊢
    go_enter Try.func39, Try.ntmps39
    go_wp2_with fail
    refine HS.out.mono ?_
    rintro e w1 ⟨aK, cK, rfl, _, hb⟩
    have HB := Lib.hid (HB0.out.trans (hb.mono (by simp; omega)))
    clear hb
    go_wp2_with fail
    go_ret2
    exact ⟨none, 0, rfl, ⟨by simp, Or.inl rfl⟩, HB.out⟩

set_option maxRecDepth 100000 in
set_option maxHeartbeats 1000000 in
theorem iidlI_any (a : Option Addr) (c : Nat) (L : List MapN) (q : Int) (s : Nat → Int) (_ : (Lit.int .i64 q).wf = true) (_ : ∀ i, i < 5 → (Lit.int .i64 (s i)).wf = true) (h1 : a = none → c = 0) (hl : L.length ≤ 1048576) (w : World) (hr : InRowM w a L) :
    Calls Try.prog 40 #[.slice a L.length c, mv q s] w (RetRowM w.heap.size (onL idlC L q s) (witC L [(q, s)]) w) := by
  have hb0 : Below w.heap.size w ((w.alloc (.cells (mcells q s) 31)).alloc (.cells (mcells q s) 31)) := ((Below.refl _ _).alloc (Nat.le_refl _) _).alloc (by simp) _
  have hone : InRowM ((w.alloc (.cells (mcells q s) 31)).alloc (.cells (mcells q s) 31)) (some ⟨w.heap.size + 1, 0, none⟩) [(q, s)] := Or.inr ⟨w.heap.size + 1, 0, rfl, by simp, at_one (by have := halloc_at (w.alloc (.cells (mcells q s) 31)) (.cells (mcells q s) 31) _ rfl; simpa using this)⟩
  have HS := Lib.hid (iwith_any a (some ⟨w.heap.size + 1, 0, none⟩) c 1 L [(q, s)] h1 (fun e => by cases e) hl (by simp) _ (hr.below hb0) hone)
  have HX0 : Hid (((w.alloc (.cells (mcells q s) 31)).alloc (.cells (mcells q s) 31)).heap[w.heap.size]? = some (.cells (mcells q s) 31 (0, 0))) := Lib.hid ((halloc_lt _ _ _ (by simp)).trans (halloc_at _ _ _ rfl))
  have HB0 := Lib.hid hb0
  simp only [show [(q, s)].length = 1 from rfl] at HS
  clear hr hb0 hone
  by_cases hc : witC L [(q, s)] = 0
  · obtain ⟨hmon, hq, hs, hm, he⟩ := on_good hc
    rw [onL_0 hc, hq, hc]
    have HQ := Lib.hid (fun (w1 : World) (gE cE b : Nat) (hx : w1.heap[w.heap.size]? = some (.cells (mcells q s) 31 (0, 0))) (hsx : w.heap.size < w1.heap.size) (hbm : (w1.alloc (.cells #[.slice (some ⟨gE, 0, none⟩) (elsK L).length cE, .map (some b)] 48)).heap[w1.heap.size]? = some (.cells #[.slice (some ⟨gE, 0, none⟩) (elsK L).length cE, .map (some b)] 48 (0, 0)))
      (hrow : InRowM (w1.alloc (.cells #[.slice (some ⟨gE, 0, none⟩) (elsK L).length cE, .map (some b)] 48)) (some ⟨gE, 0, none⟩) (mE q (elsK L))) => fun (hgE : gE < (w1.alloc (.cells #[.slice (some ⟨gE, 0, none⟩) (elsK L).length cE, .map (some b)] 48)).heap.size) => iidlC_any hmon hs hm w1.heap.size gE cE (some b) _ hgE hbm hrow)
    (try (have hHQ := HQ.out; rw [he] at hHQ; have HQ := Lib.hid hHQ; clear hHQ))
    have HF : Hid (witC L [(q, s)] ≠ 0 → False) := Lib.hid fun h => h hc
    have hHS := HS.out
    unfold RetWith at hHS
    rw [hq] at hHS
    have HS := Lib.hid hHS
    clear hmon hs hm he hc hq hHS
    generalize elsK L = K at *
    generalize hNN : idlC q K (ecd s) = NN at *
    clear hNN
    (try simp only [List.any_nil] at HQ)
    simp only [mv, mcells] at HS HX0 HB0 HQ ⊢
    go_enter Try.func40, Try.ntmps40
    go_wp2_with fail
    refine HS.out.mono ?_
    rintro e w1 ⟨hb, ⟨hc, rfl⟩ | ⟨_, _, _, _, gE, cE, b, l, rfl, hput, _, _, _⟩⟩
    · exact (HF.out hc).elim
    have HB := Lib.hid (HB0.out.trans (hb.mono (by simp; omega)))
    have hx := (hb.block w.heap.size (by simp; omega)).trans HX0.out
    have hsx : w.heap.size < w1.heap.size := (Array.getElem?_eq_some_iff.1 hx).1
    obtain ⟨x0, x1, x2, x3, x4, x5⟩ := blk6 hx
    have hrow : InRowM (w1.alloc (.cells #[.slice (some ⟨gE, 0, none⟩) K.length cE, .map (some b)] 48)) (some ⟨gE, 0, none⟩) (mE q K) := hput.inRow.below ((Below.refl _ _).alloc (Nat.le_refl _) _)
    have HQ := Lib.hid (HQ.out w1 gE cE b hx hsx (halloc_at _ _ _ rfl) hrow (by simp; exact Nat.lt_succ_of_lt hput.hi))
    clear hb hx hput hrow HS HF
    go_wp2_with fail
    refine HQ.out.mono ?_
    rintro e w3 ⟨a3, c3, rfl, hr3, hb3⟩
    have HB3 := Lib.hid hb3
    have HR3 := Lib.hid hr3
    clear hr3
    clear hb3
    go_wp2_with fail
    go_ret2
    exact ⟨a3, c3, by rw [mE_len]; rfl, HR3.out.mono (by simp; omega), (HB.out.alloc HB.out.size _).trans (HB3.out.mono (by simp; omega))⟩
  · rw [onL_1 hc]
    have HQ := Lib.hid (fun (w1 : World) => iidlN_any q s w1.heap.size none (w1.alloc (.cells #[.slice none 0 0, .map none] 48)) (halloc_at _ _ _ rfl))
    have HF : Hid (witC L [(q, s)] = 0 → False) := Lib.hid fun h => hc h
    have hHS := HS.out
    unfold RetWith at hHS
    have HS := Lib.hid hHS
    clear hc hHS
    generalize witC L [(q, s)] = C at *
    (try simp only [List.any_nil] at HQ)
    simp only [mv, mcells] at HS HX0 HB0 HQ ⊢
    go_enter Try.func40, Try.ntmps40
    go_wp2_with fail
    refine HS.out.mono ?_
    rintro e w1 ⟨hb, ⟨hc, rfl⟩ | ⟨hc, _, _, _, gE, cE, b, l, rfl, hput, _, _, _⟩⟩
    rotate_left
    · exact (HF.out hc).elim
    have HB := Lib.hid (HB0.out.trans (hb.mono (by simp; omega)))
    have hx := (hb.block w.heap.size (by simp; omega)).trans HX0.out
    have hsx : w.heap.size < w1.heap.size := (Array.getElem?_eq_some_iff.1 hx).1
    obtain ⟨x0, x1, x2, x3, x4, x5⟩ := blk6 hx
    have HQ := Lib.hid (HQ.out w1)
    clear hb hc hx HS HF
    go_wp2_with fail
    refine HQ.out.mono ?_
    rintro e w3 ⟨a3, c3, rfl, _, hb3⟩
    have HB3 := Lib.hid hb3
    clear hb3
    go_wp2_with fail
    go_ret2
    exact ⟨a3, c3, rfl, ⟨by simp, Or.inl rfl⟩, (HB.out.alloc HB.out.size _).trans (HB3.out.mono (by simp; omega))⟩

end Go.Proofs.Ytiogagaclhjdaaa
