/- The contracts of spec.IsRegularIn and impl.IsRegularIn. -/
import Derived.Test.YtiogagaclhjdaaaOn
import Derived.Test.YtiogagaclhjdaaaWith
import Derived.Test.YtiogagaclhjdaaaInvs
import Derived.Test.YtiogagaclhjdaaaReg
namespace Go.Proofs.Ytiogagaclhjdaaa
open Go Go.RowKit Go.Maps

set_option maxRecDepth 100000 in
set_option maxHeartbeats 1000000 in
theorem srin_any (a : Option Addr) (c : Nat) (L : List MapN) (q : Int) (s : Nat → Int) (_ : (Lit.int .i64 q).wf = true) (_ : ∀ i, i < 5 → (Lit.int .i64 (s i)).wf = true) (hl : L.length ≤ 1048576) (w : World) (hr : InRowM w a L) :
    Calls Try.prog 16 #[.slice a L.length c, mv q s] w fun e w' => e = .returned (onV regC L q s) ∧ Below w.heap.size w w' := by
  have hb0 : Below w.heap.size w ((w.alloc (.cells (mcells q s) 31)).alloc (.cells (mcells q s) 31)) := ((Below.refl _ _).alloc (Nat.le_refl _) _).alloc (by simp) _
  have hone : InRowM ((w.alloc (.cells (mcells q s) 31)).alloc (.cells (mcells q s) 31)) (some ⟨w.heap.size + 1, 0, none⟩) [(q, s)] := Or.inr ⟨w.heap.size + 1, 0, rfl, by simp, at_one (by have := halloc_at (w.alloc (.cells (mcells q s) 31)) (.cells (mcells q s) 31) _ rfl; simpa using this)⟩
  have HS := Lib.hid (all_any a (some ⟨w.heap.size + 1, 0, none⟩) c 1 L [(q, s)] hl (by simp) _ (hr.below hb0) hone)
  have HX0 : Hid (((w.alloc (.cells (mcells q s) 31)).alloc (.cells (mcells q s) 31)).heap[w.heap.size]? = some (.cells (mcells q s) 31 (0, 0))) := Lib.hid ((halloc_lt _ _ _ (by simp)).trans (halloc_at _ _ _ rfl))
  have HB0 := Lib.hid hb0
  simp only [show [(q, s)].length = 1 from rfl] at HS
  clear hr hb0 hone
  by_cases hc : witC L [(q, s)] = 0
  · obtain ⟨hmon, hq, hs, hm, he⟩ := on_good hc
    have HIN := Lib.hid fun (a : Option Addr) (cap : Nat) (z : World) h => sreg_any hmon hm a cap z h
    have hHS := HS.out
    rw [hc, allL_0 hc, hq] at hHS
    have HS := Lib.hid hHS
    rw [he] at HIN
    rw [onV_0 hc, hq]
    clear hHS hc hs hm hmon hq
    generalize elsK L = K at *
    generalize hNN : regC q K (ecd s) = NN at *
    clear hNN
    (try simp only [mE_len] at HS)
    simp only [mv, mcells] at HS HX0 HB0 HIN ⊢
    go_enter Try.func16, Try.ntmps16
    go_wp2_with fail
    refine HS.out.mono ?_
    rintro e w1 ⟨aK, cK, rfl, hrd, hb⟩
    rw [mE_len]
    have HB1 := Lib.hid (HB0.out.trans (hb.mono (by simp; omega)))
    have hx := (hb.block w.heap.size (by simp; omega)).trans HX0.out
    have hsx : w.heap.size < w1.heap.size := (Array.getElem?_eq_some_iff.1 hx).1
    obtain ⟨x0, x1, x2, x3, x4, x5⟩ := blk6 hx
    have HRD := Lib.hid hrd
    clear hb hrd HS hx
    go_wp2_with fail
    refine (HIN.out aK cK _ HRD.out.inRow).mono ?_
    rintro e w2 ⟨rfl, hb2⟩
    have HB2 := Lib.hid hb2
    clear hb2
    go_wp2_with fail
    go_ret2
    exact ⟨rfl, HB1.out.trans (HB2.out.mono (by omega))⟩
  · have hHS := HS.out
    rw [allL_1 hc] at hHS
    have HS := Lib.hid hHS
    rw [onV_1 hc]
    clear hHS
    generalize witC L [(q, s)] = C at *
    have hcb : (C != 0) = true := by simpa using hc
    (try simp only [List.length_nil] at HS)
    simp only [mv, mcells] at HS HX0 HB0 ⊢
    go_enter Try.func16, Try.ntmps16
    go_wp2_with fail
    refine HS.out.mono ?_
    rintro e w1 ⟨aK, cK, rfl, _, hb⟩
    have HB := Lib.hid (HB0.out.trans (hb.mono (by simp; omega)))
    clear hb
    go_wp2_with fail
    go_ret2
    exact ⟨rfl, HB.out⟩

set_option maxRecDepth 100000 in
set_option maxHeartbeats 1000000 in
theorem irin_any (a : Option Addr) (c : Nat) (L : List MapN) (q : Int) (s : Nat → Int) (_ : (Lit.int .i64 q).wf = true) (_ : ∀ i, i < 5 → (Lit.int .i64 (s i)).wf = true) (h1 : a = none → c = 0) (hl : L.length ≤ 1048576) (w : World) (hr : InRowM w a L) :
    Calls Try.prog 19 #[.slice a L.length c, mv q s] w fun e w' => e = .returned (onV regC L q s) ∧ Below w.heap.size w w' := by
  have hb0 : Below w.heap.size w ((w.alloc (.cells (mcells q s) 31)).alloc (.cells (mcells q s) 31)) := ((Below.refl _ _).alloc (Nat.le_refl _) _).alloc (by simp) _
  have hone : InRowM ((w.alloc (.cells (mcells q s) 31)).alloc (.cells (mcells q s) 31)) (some ⟨w.heap.size + 1, 0, none⟩) [(q, s)] := Or.inr ⟨w.heap.size + 1, 0, rfl, by simp, at_one (by have := halloc_at (w.alloc (.cells (mcells q s) 31)) (.cells (mcells q s) 31) _ rfl; simpa using this)⟩
  have HS := Lib.hid (iwith_any a (some ⟨w.heap.size + 1, 0, none⟩) c 1 L [(q, s)] h1 (fun e => by cases e) hl (by simp) _ (hr.below hb0) hone)
  have HX0 : Hid (((w.alloc (.cells (mcells q s) 31)).alloc (.cells (mcells q s) 31)).heap[w.heap.size]? = some (.cells (mcells q s) 31 (0, 0))) := Lib.hid ((halloc_lt _ _ _ (by simp)).trans (halloc_at _ _ _ rfl))
  have HB0 := Lib.hid hb0
  simp only [show [(q, s)].length = 1 from rfl] at HS
  clear hr hb0 hone
  by_cases hc : witC L [(q, s)] = 0
  · obtain ⟨hmon, hq, hs, hm, he⟩ := on_good hc
    rw [onV_0 hc, hq]
    have HQ := Lib.hid (fun (w1 : World) (gE cE b : Nat) (hx : w1.heap[w.heap.size]? = some (.cells (mcells q s) 31 (0, 0))) (hsx : w.heap.size < w1.heap.size) (hbm : (w1.alloc (.cells #[.slice (some ⟨gE, 0, none⟩) (elsK L).length cE, .map (some b)] 48)).heap[w1.heap.size]? = some (.cells #[.slice (some ⟨gE, 0, none⟩) (elsK L).length cE, .map (some b)] 48 (0, 0)))
      (hrow : InRowM (w1.alloc (.cells #[.slice (some ⟨gE, 0, none⟩) (elsK L).length cE, .map (some b)] 48)) (some ⟨gE, 0, none⟩) (mE q (elsK L))) => iregC_any hmon hm w1.heap.size cE (some ⟨gE, 0, none⟩) (some b) _ hbm hrow)
    (try (have hHQ := HQ.out; rw [he] at hHQ; have HQ := Lib.hid hHQ; clear hHQ))
    have HF : Hid (witC L [(q, s)] ≠ 0 → False) := Lib.hid fun h => h hc
    have hHS := HS.out
    unfold RetWith at hHS
    rw [hq] at hHS
    have HS := Lib.hid hHS
    clear hmon hs hm he hc hq hHS
    generalize elsK L = K at *
    generalize hNN : regC q K (ecd s) = NN at *
    clear hNN
    (try simp only [List.any_nil] at HQ)
    simp only [mv, mcells] at HS HX0 HB0 HQ ⊢
    go_enter Try.func19, Try.ntmps19
    go_wp2_with fail
    refine HS.out.mono ?_
    rintro e w1 ⟨hb, ⟨hc, rfl⟩ | ⟨_, _, _, _, gE, cE, b, l, rfl, hput, _, _, _⟩⟩
    · exact (HF.out hc).elim
    have HB := Lib.hid (HB0.out.trans (hb.mono (by simp; omega)))
    have hx := (hb.block w.heap.size (by simp; omega)).trans HX0.out
    have hsx : w.heap.size < w1.heap.size := (Array.getElem?_eq_some_iff.1 hx).1
    obtain ⟨x0, x1, x2, x3, x4, x5⟩ := blk6 hx
    have hrow : InRowM (w1.alloc (.cells #[.slice (some ⟨gE, 0, none⟩) K.length cE, .map (some b)] 48)) (some ⟨gE, 0, none⟩) (mE q K) := hput.inRow.below ((Below.refl _ _).alloc (Nat.le_refl _) _)
    have HQ := Lib.hid (HQ.out w1 gE cE b hx hsx (halloc_at _ _ _ rfl) hrow)
    clear hb hx hput hrow HS HF
    go_wp2_with fail
    refine HQ.out.mono ?_
    rintro e w3 ⟨rfl, hb3⟩
    have HB3 := Lib.hid hb3
    clear hb3
    go_wp2_with fail
    go_ret2
    exact ⟨rfl, (HB.out.alloc HB.out.size _).trans (HB3.out.mono (by simp; omega))⟩
  · rw [onV_1 hc]
    have HQ := Lib.hid (fun (w1 : World) => ireg_any (p := 0) (K := []) (by simp) (Q := fun _ => false) q s w1.heap.size 0 none none (w1.alloc (.cells #[.slice none 0 0, .map none] 48)) (halloc_at _ _ _ rfl) (Or.inl rfl) (fun x hx => by cases hx))
    have HF : Hid (witC L [(q, s)] = 0 → False) := Lib.hid fun h => hc h
    have hHS := HS.out
    unfold RetWith at hHS
    have HS := Lib.hid hHS
    clear hc hHS
    generalize witC L [(q, s)] = C at *
    (try simp only [List.any_nil] at HQ)
    simp only [mv, mcells] at HS HX0 HB0 HQ ⊢
    go_enter Try.func19, Try.ntmps19
    go_wp2_with fail
    refine HS.out.mono ?_
    rintro e w1 ⟨hb, ⟨hc, rfl⟩ | ⟨hc, _, _, _, gE, cE, b, l, rfl, hput, _, _, _⟩⟩
    rotate_left
    · exact (HF.out hc).elim
    have HB := Lib.hid (HB0.out.trans (hb.mono (by simp; omega)))
    have hx := (hb.block w.heap.size (by simp; omega)).trans HX0.out
    have hsx : w.heap.size < w1.heap.size := (Array.getElem?_eq_some_iff.1 hx).1
    obtain ⟨x0, x1, x2, x3, x4, x5⟩ := blk6 hx
    have HQ := Lib.hid (HQ.out w1)
    clear hb hc hx HS HF
    go_wp2_with fail
    refine HQ.out.mono ?_
    rintro e w3 ⟨rfl, hb3⟩
    have HB3 := Lib.hid hb3
    clear hb3
    go_wp2_with fail
    go_ret2
    exact ⟨rfl, (HB.out.alloc HB.out.size _).trans (HB3.out.mono (by simp; omega))⟩

end Go.Proofs.Ytiogagaclhjdaaa
