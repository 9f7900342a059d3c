/- The contracts of RightIdeal and LeftIdeal, in spec and impl. -/
import Derived.Test.YtiogagaclhjdaaaOn
import Derived.Test.YtiogagaclhjdaaaWith
import Derived.Test.YtiogagaclhjdaaaIds
import Derived.Test.YtiogagaclhjdaaaOrd
namespace Go.Proofs.Ytiogagaclhjdaaa
open Go Go.RowKit Go.Maps

theorem RetPut.row {B : Nat} {p : Int} {M : List Nat} {w w' : World} {e : Ending} (h : RetPut B (mE p M) w e w') (hM : M.length ≤ 1000) : ∃ a cap, e = .returned (.slice a M.length cap) ∧ RdM w' B a (mE p M) ∧ Below w.heap.size w w' := by
  obtain ⟨g, cap, rfl, hp, hb⟩ := h
  exact ⟨_, cap, by rw [mE_len], hp.rd (by rw [mE_len]; omega), hb⟩

theorem srgtR_any {p : Int} {K : List Nat} {c : Nat} (hmon : Mon p K) (hc : c ∈ K) (a : Option Addr) (cap : Nat) (w : World) (hr : InRowM w a (mE p K)) :
    Calls Try.prog 60 #[.slice a K.length cap, mv p (dcd c)] w fun e w' => ∃ a cap, e = .returned (.slice a (rgtC p K c).length cap) ∧ RdM w' w.heap.size a (mE p (rgtC p K c)) ∧ Below w.heap.size w w' :=
  (srgt_any hmon.vl (hmon.vl c hc) hmon.le a cap w hr).mono fun _ _ h => RetPut.row h (Nat.le_trans (hmon.len (srtE_srt _) (hmon.rgt hc)) (by omega))

theorem slftR_any {p : Int} {K : List Nat} {c : Nat} (hmon : Mon p K) (hc : c ∈ K) (a : Option Addr) (cap : Nat) (w : World) (hr : InRowM w a (mE p K)) :
    Calls Try.prog 63 #[.slice a K.length cap, mv p (dcd c)] w fun e w' => ∃ a cap, e = .returned (.slice a (lftC p K c).length cap) ∧ RdM w' w.heap.size a (mE p (lftC p K c)) ∧ Below w.heap.size w w' :=
  (slft_any hmon.vl (hmon.vl c hc) hmon.le a cap w hr).mono fun _ _ h => RetPut.row h (Nat.le_trans (hmon.len (srtE_srt _) (hmon.lft hc)) (by omega))

set_option maxRecDepth 100000 in
set_option maxHeartbeats 1000000 in
theorem srgtI_any (a : Option Addr) (c : Nat) (L : List MapN) (q : Int) (s : Nat → Int) (_ : (Lit.int .i64 q).wf = true) (_ : ∀ i, i < 5 → (Lit.int .i64 (s i)).wf = true) (hl : L.length ≤ 1048576) (w : World) (hr : InRowM w a L) :
    Calls Try.prog 35 #[.slice a L.length c, mv q s] w (RetRowM w.heap.size (onL rgtC L q s) (witC L [(q, s)]) w) := by
  have hb0 : Below w.heap.size w ((w.alloc (.cells (mcells q s) 31)).alloc (.cells (mcells q s) 31)) := ((Below.refl _ _).alloc (Nat.le_refl _) _).alloc (by simp) _
  have hone : InRowM ((w.alloc (.cells (mcells q s) 31)).alloc (.cells (mcells q s) 31)) (some ⟨w.heap.size + 1, 0, none⟩) [(q, s)] := Or.inr ⟨w.heap.size + 1, 0, rfl, by simp, at_one (by have := halloc_at (w.alloc (.cells (mcells q s) 31)) (.cells (mcells q s) 31) _ rfl; simpa using this)⟩
  have HS := Lib.hid (all_any a (some ⟨w.heap.size + 1, 0, none⟩) c 1 L [(q, s)] hl (by simp) _ (hr.below hb0) hone)
  have HX0 : Hid (((w.alloc (.cells (mcells q s) 31)).alloc (.cells (mcells q s) 31)).heap[w.heap.size]? = some (.cells (mcells q s) 31 (0, 0))) := Lib.hid ((halloc_lt _ _ _ (by simp)).trans (halloc_at _ _ _ rfl))
  have HB0 := Lib.hid hb0
  simp only [show [(q, s)].length = 1 from rfl] at HS
  clear hr hb0 hone
  by_cases hc : witC L [(q, s)] = 0
  · obtain ⟨hmon, hq, hs, hm, he⟩ := on_good hc
    have HIN := Lib.hid fun (a : Option Addr) (cap : Nat) (z : World) h => srgtR_any hmon hm a cap z h
    have hHS := HS.out
    rw [hc, allL_0 hc, hq] at hHS
    have HS := Lib.hid hHS
    rw [he] at HIN
    rw [onL_0 hc, hq, hc]
    clear hHS hc hs hm hmon hq
    generalize elsK L = K at *
    generalize hNN : rgtC q K (ecd s) = NN at *
    clear hNN
    (try simp only [mE_len] at HS)
    simp only [mv, mcells] at HS HX0 HB0 HIN ⊢
    go_enter Try.func35, Try.ntmps35
    go_wp2_with fail
    refine HS.out.mono ?_
    rintro e w1 ⟨aK, cK, rfl, hrd, hb⟩
    rw [mE_len]
    have HB1 := Lib.hid (HB0.out.trans (hb.mono (by simp; omega)))
    have hx := (hb.block w.heap.size (by simp; omega)).trans HX0.out
    have hsx : w.heap.size < w1.heap.size := (Array.getElem?_eq_some_iff.1 hx).1
    obtain ⟨x0, x1, x2, x3, x4, x5⟩ := blk6 hx
    have HRD := Lib.hid hrd
    clear hb hrd HS hx
    go_wp2_with fail
    refine (HIN.out aK cK _ HRD.out.inRow).mono ?_
    rintro e w2 ⟨a2, c2, rfl, hr2, hb2⟩
    have HB2 := Lib.hid hb2
    have HR2 := Lib.hid hr2
    clear hb2 hr2
    go_wp2_with fail
    go_ret2
    exact ⟨a2, c2, by rw [mE_len]; rfl, HR2.out.mono (by omega), HB1.out.trans (HB2.out.mono (by omega))⟩
  · have hHS := HS.out
    rw [allL_1 hc] at hHS
    have HS := Lib.hid hHS
    rw [onL_1 hc]
    clear hHS
    generalize witC L [(q, s)] = C at *
    have hcb : (C != 0) = true := by simpa using hc
    (try simp only [List.length_nil] at HS)
    simp only [mv, mcells] at HS HX0 HB0 ⊢
    go_enter Try.func35, Try.ntmps35
    go_wp2_with fail
    refine HS.out.mono ?_
    rintro e w1 ⟨aK, cK, rfl, _, hb⟩
    have HB := Lib.hid (HB0.out.trans (hb.mono (by simp; omega)))
    clear hb
    go_wp2_with fail
    go_ret2
    exact ⟨none, 0, rfl, ⟨by simp, Or.inl rfl⟩, HB.out⟩

set_option maxRecDepth 100000 in
set_option maxHeartbeats 1000000 in
theorem irgtI_any (a : Option Addr) (c : Nat) (L : List MapN) (q : Int) (s : Nat → Int) (_ : (Lit.int .i64 q).wf = true) (_ : ∀ i, i < 5 → (Lit.int .i64 (s i)).wf = true) (h1 : a = none → c = 0) (hl : L.length ≤ 1048576) (w : World) (hr : InRowM w a L) :
    Calls Try.prog 36 #[.slice a L.length c, mv q s] w (RetRowM w.heap.size (onL rgtC L q s) (witC L [(q, s)]) w) := by
  have hb0 : Below w.heap.size w ((w.alloc (.cells (mcells q s) 31)).alloc (.cells (mcells q s) 31)) := ((Below.refl _ _).alloc (Nat.le_refl _) _).alloc (by simp) _
  have hone : InRowM ((w.alloc (.cells (mcells q s) 31)).alloc (.cells (mcells q s) 31)) (some ⟨w.heap.size + 1, 0, none⟩) [(q, s)] := Or.inr ⟨w.heap.size + 1, 0, rfl, by simp, at_one (by have := halloc_at (w.alloc (.cells (mcells q s) 31)) (.cells (mcells q s) 31) _ rfl; simpa using this)⟩
  have HS := Lib.hid (iwith_any a (some ⟨w.heap.size + 1, 0, none⟩) c 1 L [(q, s)] h1 (fun e => by cases e) hl (by simp) _ (hr.below hb0) hone)
  have HX0 : Hid (((w.alloc (.cells (mcells q s) 31)).alloc (.cells (mcells q s) 31)).heap[w.heap.size]? = some (.cells (mcells q s) 31 (0, 0))) := Lib.hid ((halloc_lt _ _ _ (by simp)).trans (halloc_at _ _ _ rfl))
  have HB0 := Lib.hid hb0
  simp only [show [(q, s)].length = 1 from rfl] at HS
  clear hr hb0 hone
  by_cases hc : witC L [(q, s)] = 0
  · obtain ⟨hmon, hq, hs, hm, he⟩ := on_good hc
    rw [onL_0 hc, hq, hc]
    have HQ := Lib.hid (fun (w1 : World) (gE cE b : Nat) (hx : w1.heap[w.heap.size]? = some (.cells (mcells q s) 31 (0, 0))) (hsx : w.heap.size < w1.heap.size) (hbm : (w1.alloc (.cells #[.slice (some ⟨gE, 0, none⟩) (elsK L).length cE, .map (some b)] 48)).heap[w1.heap.size]? = some (.cells #[.slice (some ⟨gE, 0, none⟩) (elsK L).length cE, .map (some b)] 48 (0, 0)))
      (hrow : InRowM (w1.alloc (.cells #[.slice (some ⟨gE, 0, none⟩) (elsK L).length cE, .map (some b)] 48)) (some ⟨gE, 0, none⟩) (mE q (elsK L))) => fun (hgE : gE < (w1.alloc (.cells #[.slice (some ⟨gE, 0, none⟩) (elsK L).length cE, .map (some b)] 48)).heap.size) (z : World) (bl br fb : Nat) (hz : Below (w1.alloc (.cells #[.slice (some ⟨gE, 0, none⟩) (elsK L).length cE, .map (some b)] 48)).heap.size (w1.alloc (.cells #[.slice (some ⟨gE, 0, none⟩) (elsK L).length cE, .map (some b)] 48)) z) (h1 : z.heap[fb]? = some (.cells (mcells q s) 31 (0, 0))) (h2 : z.heap[bl]? = some (.cells #[.slice (some ⟨fb, 0, none⟩) 1 1] 29 (0, 0))) (h3 : z.heap[br]? = some (.cells #[.slice (some ⟨gE, 0, none⟩) (elsK L).length cE] 29 (0, 0))) => (by have h := ordP_any hmon (A := [ecd s]) (B := elsK L) (fun a ha => by rw [List.mem_singleton.1 ha]; exact hm) (fun a ha => ha) (by simp) hmon.le (some ⟨fb, 0, none⟩) (some ⟨gE, 0, none⟩) 1 cE bl br z h2 h3 (Or.inr ⟨fb, 0, rfl, (Array.getElem?_eq_some_iff.1 h1).1, at_one (by rw [mcells_ecd hs]; exact h1)⟩) (hrow.below hz) (one_blk (Array.getElem?_eq_some_iff.1 h1).1) (one_blk (Nat.lt_of_lt_of_le hgE hz.size)); rw [ord_rgt q (elsK L) (ecd s)] at h; exact h : Calls Try.prog 61 #[.func (.func 90) #[] #[.pointer (some ⟨bl, 0, none⟩), .pointer (some ⟨br, 0, none⟩)]] z fun e w' => ∃ a cap, e = .returned (.slice a (rgtC q (elsK L) (ecd s)).length cap) ∧ (RdM w' z.heap.size a (mE q (rgtC q (elsK L) (ecd s))) ∧ ∀ b, b ∈ blkO a → b < w'.heap.size) ∧ Below z.heap.size z w'))
    (try (have hHQ := HQ.out; rw [he] at hHQ; have HQ := Lib.hid hHQ; clear hHQ))
    have HF : Hid (witC L [(q, s)] ≠ 0 → False) := Lib.hid fun h => h hc
    have hHS := HS.out
    unfold RetWith at hHS
    rw [hq] at hHS
    have HS := Lib.hid hHS
    clear hmon hs hm he hc hq hHS
    generalize elsK L = K at *
    generalize hNN : rgtC q K (ecd s) = NN at *
    clear hNN
    (try simp only [List.any_nil] at HQ)
    simp only [mv, mcells] at HS HX0 HB0 HQ ⊢
    go_enter Try.func36, Try.ntmps36
    go_wp2_with fail
    refine HS.out.mono ?_
    rintro e w1 ⟨hb, ⟨hc, rfl⟩ | ⟨_, _, _, _, gE, cE, b, l, rfl, hput, _, _, _⟩⟩
    · exact (HF.out hc).elim
    have HB := Lib.hid (HB0.out.trans (hb.mono (by simp; omega)))
    have hx := (hb.block w.heap.size (by simp; omega)).trans HX0.out
    have hsx : w.heap.size < w1.heap.size := (Array.getElem?_eq_some_iff.1 hx).1
    obtain ⟨x0, x1, x2, x3, x4, x5⟩ := blk6 hx
    have hrow : InRowM (w1.alloc (.cells #[.slice (some ⟨gE, 0, none⟩) K.length cE, .map (some b)] 48)) (some ⟨gE, 0, none⟩) (mE q K) := hput.inRow.below ((Below.refl _ _).alloc (Nat.le_refl _) _)
    have HQ := Lib.hid (HQ.out w1 gE cE b hx hsx (halloc_at _ _ _ rfl) hrow (by simp; exact Nat.lt_succ_of_lt hput.hi))
    clear hb hx hput hrow HS HF
    go_wp2_with (go_at_call 62; (with_reducible refine (products_any _ _ _ _ _ _ _).mono ?_); rintro e w2 ⟨rfl, rfl⟩)
    refine (HQ.out _ (w1.heap.size + 1 + 1) (w1.heap.size + 1 + 1 + 1) (w1.heap.size + 1) ?_ ?_ ?_ ?_).mono ?_
    · (repeat' (first | (with_reducible exact Below.refl _ _) | (with_reducible refine Below.alloc ?_ ?_ _) | (with_reducible refine Below.setCell ?_ ?_ _) | (with_reducible refine Below.drew ?_) | (with_reducible refine below_drewN ?_ _) | (with_reducible refine Below.trans ?_ (Below.mono (Hid.out (by assumption)) ?_)) | omega | (simp; done) | (simp; omega)))
    · (repeat' (first | omega | (rw [hdrew]) | (with_reducible assumption) | (with_reducible exact Hid.out (by assumption)) | (with_reducible rfl) | ((with_reducible refine halloc_at _ _ _ ?_) <;> (first | (with_reducible rfl) | omega | (simp; done))) | (with_reducible refine chain6 ?_) | (with_reducible refine Eq.trans (hset_ne _ _ _ _ ?_) ?_) | (with_reducible refine Eq.trans (halloc_lt _ _ _ ?_) ?_) | (with_reducible refine Eq.trans (Below.block (Hid.out (by assumption)) _ ?_) ?_) | (simp; done) | (simp; omega)))
    · (repeat' (first | omega | (rw [hdrew]) | (with_reducible assumption) | (with_reducible exact Hid.out (by assumption)) | (with_reducible rfl) | ((with_reducible refine halloc_at _ _ _ ?_) <;> (first | (with_reducible rfl) | omega | (simp; done))) | (with_reducible refine chain6 ?_) | (with_reducible refine Eq.trans (hset_ne _ _ _ _ ?_) ?_) | (with_reducible refine Eq.trans (halloc_lt _ _ _ ?_) ?_) | (with_reducible refine Eq.trans (Below.block (Hid.out (by assumption)) _ ?_) ?_) | (simp; done) | (simp; omega)))
    · (repeat' (first | omega | (rw [hdrew]) | (with_reducible assumption) | (with_reducible exact Hid.out (by assumption)) | (with_reducible rfl) | ((with_reducible refine halloc_at _ _ _ ?_) <;> (first | (with_reducible rfl) | omega | (simp; done))) | (with_reducible refine chain6 ?_) | (with_reducible refine Eq.trans (hset_ne _ _ _ _ ?_) ?_) | (with_reducible refine Eq.trans (halloc_lt _ _ _ ?_) ?_) | (with_reducible refine Eq.trans (Below.block (Hid.out (by assumption)) _ ?_) ?_) | (simp; done) | (simp; omega)))
    rintro e w3 ⟨a3, c3, rfl, ⟨hr3, _⟩, hb3⟩
    have HB3 := Lib.hid hb3
    have HR3 := Lib.hid hr3
    clear hr3
    clear hb3
    go_wp2_with fail
    go_ret2
    exact ⟨a3, c3, by rw [mE_len]; rfl, HR3.out.mono (by simp; omega), by (repeat' (first | (with_reducible exact Below.refl _ _) | (with_reducible refine Below.alloc ?_ ?_ _) | (with_reducible refine Below.setCell ?_ ?_ _) | (with_reducible refine Below.drew ?_) | (with_reducible refine below_drewN ?_ _) | (with_reducible refine Below.trans ?_ (Below.mono (Hid.out (by assumption)) ?_)) | omega | (simp; done) | (simp; omega)))⟩
  · rw [onL_1 hc]
    have HQ := Lib.hid (fun (w1 : World) => fun (z : World) (bl br fb : Nat) (_ : Below (w1.alloc (.cells #[.slice none 0 0, .map none] 48)).heap.size (w1.alloc (.cells #[.slice none 0 0, .map none] 48)) z) (h1 : z.heap[fb]? = some (.cells (mcells q s) 31 (0, 0))) (h2 : z.heap[bl]? = some (.cells #[.slice (some ⟨fb, 0, none⟩) 1 1] 29 (0, 0))) (h3 : z.heap[br]? = some (.cells #[.slice none 0 0] 29 (0, 0))) => ordN_any [(q, s)] [] (by simp) (by simp) (by simp) (some ⟨fb, 0, none⟩) none 1 0 bl br z h2 h3 (Or.inr ⟨fb, 0, rfl, (Array.getElem?_eq_some_iff.1 h1).1, at_one h1⟩) (Or.inl rfl) (one_blk (Array.getElem?_eq_some_iff.1 h1).1) (fun b hb => by cases hb))
    have HF : Hid (witC L [(q, s)] = 0 → False) := Lib.hid fun h => hc h
    have hHS := HS.out
    unfold RetWith at hHS
    have HS := Lib.hid hHS
    clear hc hHS
    generalize witC L [(q, s)] = C at *
    (try simp only [List.any_nil] at HQ)
    simp only [mv, mcells] at HS HX0 HB0 HQ ⊢
    go_enter Try.func36, Try.ntmps36
    go_wp2_with fail
    refine HS.out.mono ?_
    rintro e w1 ⟨hb, ⟨hc, rfl⟩ | ⟨hc, _, _, _, gE, cE, b, l, rfl, hput, _, _, _⟩⟩
    rotate_left
    · exact (HF.out hc).elim
    have HB := Lib.hid (HB0.out.trans (hb.mono (by simp; omega)))
    have hx := (hb.block w.heap.size (by simp; omega)).trans HX0.out
    have hsx : w.heap.size < w1.heap.size := (Array.getElem?_eq_some_iff.1 hx).1
    obtain ⟨x0, x1, x2, x3, x4, x5⟩ := blk6 hx
    have HQ := Lib.hid (HQ.out w1)
    clear hb hc hx HS HF
    go_wp2_with (go_at_call 62; (with_reducible refine (products_any _ _ _ _ _ _ _).mono ?_); rintro e w2 ⟨rfl, rfl⟩)
    refine (HQ.out _ (w1.heap.size + 1 + 1) (w1.heap.size + 1 + 1 + 1) (w1.heap.size + 1) ?_ ?_ ?_ ?_).mono ?_
    · (repeat' (first | (with_reducible exact Below.refl _ _) | (with_reducible refine Below.alloc ?_ ?_ _) | (with_reducible refine Below.setCell ?_ ?_ _) | (with_reducible refine Below.drew ?_) | (with_reducible refine below_drewN ?_ _) | (with_reducible refine Below.trans ?_ (Below.mono (Hid.out (by assumption)) ?_)) | omega | (simp; done) | (simp; omega)))
    · (repeat' (first | omega | (rw [hdrew]) | (with_reducible assumption) | (with_reducible exact Hid.out (by assumption)) | (with_reducible rfl) | ((with_reducible refine halloc_at _ _ _ ?_) <;> (first | (with_reducible rfl) | omega | (simp; done))) | (with_reducible refine chain6 ?_) | (with_reducible refine Eq.trans (hset_ne _ _ _ _ ?_) ?_) | (with_reducible refine Eq.trans (halloc_lt _ _ _ ?_) ?_) | (with_reducible refine Eq.trans (Below.block (Hid.out (by assumption)) _ ?_) ?_) | (simp; done) | (simp; omega)))
    · (repeat' (first | omega | (rw [hdrew]) | (with_reducible assumption) | (with_reducible exact Hid.out (by assumption)) | (with_reducible rfl) | ((with_reducible refine halloc_at _ _ _ ?_) <;> (first | (with_reducible rfl) | omega | (simp; done))) | (with_reducible refine chain6 ?_) | (with_reducible refine Eq.trans (hset_ne _ _ _ _ ?_) ?_) | (with_reducible refine Eq.trans (halloc_lt _ _ _ ?_) ?_) | (with_reducible refine Eq.trans (Below.block (Hid.out (by assumption)) _ ?_) ?_) | (simp; done) | (simp; omega)))
    · (repeat' (first | omega | (rw [hdrew]) | (with_reducible assumption) | (with_reducible exact Hid.out (by assumption)) | (with_reducible rfl) | ((with_reducible refine halloc_at _ _ _ ?_) <;> (first | (with_reducible rfl) | omega | (simp; done))) | (with_reducible refine chain6 ?_) | (with_reducible refine Eq.trans (hset_ne _ _ _ _ ?_) ?_) | (with_reducible refine Eq.trans (halloc_lt _ _ _ ?_) ?_) | (with_reducible refine Eq.trans (Below.block (Hid.out (by assumption)) _ ?_) ?_) | (simp; done) | (simp; omega)))
    rintro e w3 ⟨a3, c3, rfl, _, hb3⟩
    have HB3 := Lib.hid hb3
    clear hb3
    go_wp2_with fail
    go_ret2
    exact ⟨a3, c3, rfl, ⟨by simp, Or.inl rfl⟩, by (repeat' (first | (with_reducible exact Below.refl _ _) | (with_reducible refine Below.alloc ?_ ?_ _) | (with_reducible refine Below.setCell ?_ ?_ _) | (with_reducible refine Below.drew ?_) | (with_reducible refine below_drewN ?_ _) | (with_reducible refine Below.trans ?_ (Below.mono (Hid.out (by assumption)) ?_)) | omega | (simp; done) | (simp; omega)))⟩

set_option maxRecDepth 100000 in
set_option maxHeartbeats 1000000 in
theorem slftI_any (a : Option Addr) (c : Nat) (L : List MapN) (q : Int) (s : Nat → Int) (_ : (Lit.int .i64 q).wf = true) (_ : ∀ i, i < 5 → (Lit.int .i64 (s i)).wf = true) (hl : L.length ≤ 1048576) (w : World) (hr : InRowM w a L) :
    Calls Try.prog 37 #[.slice a L.length c, mv q s] w (RetRowM w.heap.size (onL lftC L q s) (witC L [(q, s)]) w) := by
  have hb0 : Below w.heap.size w ((w.alloc (.cells (mcells q s) 31)).alloc (.cells (mcells q s) 31)) := ((Below.refl _ _).alloc (Nat.le_refl _) _).alloc (by simp) _
  have hone : InRowM ((w.alloc (.cells (mcells q s) 31)).alloc (.cells (mcells q s) 31)) (some ⟨w.heap.size + 1, 0, none⟩) [(q, s)] := Or.inr ⟨w.heap.size + 1, 0, rfl, by simp, at_one (by have := halloc_at (w.alloc (.cells (mcells q s) 31)) (.cells (mcells q s) 31) _ rfl; simpa using this)⟩
  have HS := Lib.hid (all_any a (some ⟨w.heap.size + 1, 0, none⟩) c 1 L [(q, s)] hl (by simp) _ (hr.below hb0) hone)
  have HX0 : Hid (((w.alloc (.cells (mcells q s) 31)).alloc (.cells (mcells q s) 31)).heap[w.heap.size]? = some (.cells (mcells q s) 31 (0, 0))) := Lib.hid ((halloc_lt _ _ _ (by simp)).trans (halloc_at _ _ _ rfl))
  have HB0 := Lib.hid hb0
  simp only [show [(q, s)].length = 1 from rfl] at HS
  clear hr hb0 hone
  by_cases hc : witC L [(q, s)] = 0
  · obtain ⟨hmon, hq, hs, hm, he⟩ := on_good hc
    have HIN := Lib.hid fun (a : Option Addr) (cap : Nat) (z : World) h => slftR_any hmon hm a cap z h
    have hHS := HS.out
    rw [hc, allL_0 hc, hq] at hHS
    have HS := Lib.hid hHS
    rw [he] at HIN
    rw [onL_0 hc, hq, hc]
    clear hHS hc hs hm hmon hq
    generalize elsK L = K at *
    generalize hNN : lftC q K (ecd s) = NN at *
    clear hNN
    (try simp only [mE_len] at HS)
    simp only [mv, mcells] at HS HX0 HB0 HIN ⊢
    go_enter Try.func37, Try.ntmps37
    go_wp2_with fail
    refine HS.out.mono ?_
    rintro e w1 ⟨aK, cK, rfl, hrd, hb⟩
    rw [mE_len]
    have HB1 := Lib.hid (HB0.out.trans (hb.mono (by simp; omega)))
    have hx := (hb.block w.heap.size (by simp; omega)).trans HX0.out
    have hsx : w.heap.size < w1.heap.size := (Array.getElem?_eq_some_iff.1 hx).1
    obtain ⟨x0, x1, x2, x3, x4, x5⟩ := blk6 hx
    have HRD := Lib.hid hrd
    clear hb hrd HS hx
    go_wp2_with fail
    refine (HIN.out aK cK _ HRD.out.inRow).mono ?_
    rintro e w2 ⟨a2, c2, rfl, hr2, hb2⟩
    have HB2 := Lib.hid hb2
    have HR2 := Lib.hid hr2
    clear hb2 hr2
    go_wp2_with fail
    go_ret2
    exact ⟨a2, c2, by rw [mE_len]; rfl, HR2.out.mono (by omega), HB1.out.trans (HB2.out.mono (by omega))⟩
  · have hHS := HS.out
    rw [allL_1 hc] at hHS
    have HS := Lib.hid hHS
    rw [onL_1 hc]
    clear hHS
    generalize witC L [(q, s)] = C at *
    have hcb : (C != 0) = true := by simpa using hc
    (try simp only [List.length_nil] at HS)
    simp only [mv, mcells] at HS HX0 HB0 ⊢
    go_enter Try.func37, Try.ntmps37
    go_wp2_with fail
    refine HS.out.mono ?_
    rintro e w1 ⟨aK, cK, rfl, _, hb⟩
    have HB := Lib.hid (HB0.out.trans (hb.mono (by simp; omega)))
    clear hb
    go_wp2_with fail
    go_ret2
    exact ⟨none, 0, rfl, ⟨by simp, Or.inl rfl⟩, HB.out⟩

set_option maxRecDepth 100000 in
set_option maxHeartbeats 1000000 in
theorem ilftI_any (a : Option Addr) (c : Nat) (L : List MapN) (q : Int) (s : Nat → Int) (_ : (Lit.int .i64 q).wf = true) (_ : ∀ i, i < 5 → (Lit.int .i64 (s i)).wf = true) (h1 : a = none → c = 0) (hl : L.length ≤ 1048576) (w : World) (hr : InRowM w a L) :
    Calls Try.prog 38 #[.slice a L.length c, mv q s] w (RetRowM w.heap.size (onL lftC L q s) (witC L [(q, s)]) w) := by
  have hb0 : Below w.heap.size w ((w.alloc (.cells (mcells q s) 31)).alloc (.cells (mcells q s) 31)) := ((Below.refl _ _).alloc (Nat.le_refl _) _).alloc (by simp) _
  have hone : InRowM ((w.alloc (.cells (mcells q s) 31)).alloc (.cells (mcells q s) 31)) (some ⟨w.heap.size + 1, 0, none⟩) [(q, s)] := Or.inr ⟨w.heap.size + 1, 0, rfl, by simp, at_one (by have := halloc_at (w.alloc (.cells (mcells q s) 31)) (.cells (mcells q s) 31) _ rfl; simpa using this)⟩
  have HS := Lib.hid (iwith_any a (some ⟨w.heap.size + 1, 0, none⟩) c 1 L [(q, s)] h1 (fun e => by cases e) hl (by simp) _ (hr.below hb0) hone)
  have HX0 : Hid (((w.alloc (.cells (mcells q s) 31)).alloc (.cells (mcells q s) 31)).heap[w.heap.size]? = some (.cells (mcells q s) 31 (0, 0))) := Lib.hid ((halloc_lt _ _ _ (by simp)).trans (halloc_at _ _ _ rfl))
  have HB0 := Lib.hid hb0
  simp only [show [(q, s)].length = 1 from rfl] at HS
  clear hr hb0 hone
  by_cases hc : witC L [(q, s)] = 0
  · obtain ⟨hmon, hq, hs, hm, he⟩ := on_good hc
    rw [onL_0 hc, hq, hc]
    have HQ := Lib.hid (fun (w1 : World) (gE cE b : Nat) (hx : w1.heap[w.heap.size]? = some (.cells (mcells q s) 31 (0, 0))) (hsx : w.heap.size < w1.heap.size) (hbm : (w1.alloc (.cells #[.slice (some ⟨gE, 0, none⟩) (elsK L).length cE, .map (some b)] 48)).heap[w1.heap.size]? = some (.cells #[.slice (some ⟨gE, 0, none⟩) (elsK L).length cE, .map (some b)] 48 (0, 0)))
      (hrow : InRowM (w1.alloc (.cells #[.slice (some ⟨gE, 0, none⟩) (elsK L).length cE, .map (some b)] 48)) (some ⟨gE, 0, none⟩) (mE q (elsK L))) => fun (hgE : gE < (w1.alloc (.cells #[.slice (some ⟨gE, 0, none⟩) (elsK L).length cE, .map (some b)] 48)).heap.size) (z : World) (bl br fb : Nat) (hz : Below (w1.alloc (.cells #[.slice (some ⟨gE, 0, none⟩) (elsK L).length cE, .map (some b)] 48)).heap.size (w1.alloc (.cells #[.slice (some ⟨gE, 0, none⟩) (elsK L).length cE, .map (some b)] 48)) z) (h1 : z.heap[fb]? = some (.cells (mcells q s) 31 (0, 0))) (h2 : z.heap[bl]? = some (.cells #[.slice (some ⟨gE, 0, none⟩) (elsK L).length cE] 29 (0, 0))) (h3 : z.heap[br]? = some (.cells #[.slice (some ⟨fb, 0, none⟩) 1 1] 29 (0, 0))) => (by have h := ordP_any hmon (A := elsK L) (B := [ecd s]) (fun a ha => ha) (fun a ha => by rw [List.mem_singleton.1 ha]; exact hm) hmon.le (by simp) (some ⟨gE, 0, none⟩) (some ⟨fb, 0, none⟩) cE 1 bl br z h2 h3 (hrow.below hz) (Or.inr ⟨fb, 0, rfl, (Array.getElem?_eq_some_iff.1 h1).1, at_one (by rw [mcells_ecd hs]; exact h1)⟩) (one_blk (Nat.lt_of_lt_of_le hgE hz.size)) (one_blk (Array.getElem?_eq_some_iff.1 h1).1); rw [ord_lft q (elsK L) (ecd s)] at h; exact h : Calls Try.prog 61 #[.func (.func 90) #[] #[.pointer (some ⟨bl, 0, none⟩), .pointer (some ⟨br, 0, none⟩)]] z fun e w' => ∃ a cap, e = .returned (.slice a (lftC q (elsK L) (ecd s)).length cap) ∧ (RdM w' z.heap.size a (mE q (lftC q (elsK L) (ecd s))) ∧ ∀ b, b ∈ blkO a → b < w'.heap.size) ∧ Below z.heap.size z w'))
    (try (have hHQ := HQ.out; rw [he] at hHQ; have HQ := Lib.hid hHQ; clear hHQ))
    have HF : Hid (witC L [(q, s)] ≠ 0 → False) := Lib.hid fun h => h hc
    have hHS := HS.out
    unfold RetWith at hHS
    rw [hq] at hHS
    have HS := Lib.hid hHS
    clear hmon hs hm he hc hq hHS
    generalize elsK L = K at *
    generalize hNN : lftC q K (ecd s) = NN at *
    clear hNN
    (try simp only [List.any_nil] at HQ)
    simp only [mv, mcells] at HS HX0 HB0 HQ ⊢
    go_enter Try.func38, Try.ntmps38
    go_wp2_with fail
    refine HS.out.mono ?_
    rintro e w1 ⟨hb, ⟨hc, rfl⟩ | ⟨_, _, _, _, gE, cE, b, l, rfl, hput, _, _, _⟩⟩
    · exact (HF.out hc).elim
    have HB := Lib.hid (HB0.out.trans (hb.mono (by simp; omega)))
    have hx := (hb.block w.heap.size (by simp; omega)).trans HX0.out
    have hsx : w.heap.size < w1.heap.size := (Array.getElem?_eq_some_iff.1 hx).1
    obtain ⟨x0, x1, x2, x3, x4, x5⟩ := blk6 hx
    have hrow : InRowM (w1.alloc (.cells #[.slice (some ⟨gE, 0, none⟩) K.length cE, .map (some b)] 48)) (some ⟨gE, 0, none⟩) (mE q K) := hput.inRow.below ((Below.refl _ _).alloc (Nat.le_refl _) _)
    have HQ := Lib.hid (HQ.out w1 gE cE b hx hsx (halloc_at _ _ _ rfl) hrow (by simp; exact Nat.lt_succ_of_lt hput.hi))
    clear hb hx hput hrow HS HF
    go_wp2_with (go_at_call 62; (with_reducible refine (products_any _ _ _ _ _ _ _).mono ?_); rintro e w2 ⟨rfl, rfl⟩)
    refine (HQ.out _ (w1.heap.size + 1 + 1) (w1.heap.size + 1 + 1 + 1) (w1.heap.size + 1) ?_ ?_ ?_ ?_).mono ?_
    · (repeat' (first | (with_reducible exact Below.refl _ _) | (with_reducible refine Below.alloc ?_ ?_ _) | (with_reducible refine Below.setCell ?_ ?_ _) | (with_reducible refine Below.drew ?_) | (with_reducible refine below_drewN ?_ _) | (with_reducible refine Below.trans ?_ (Below.mono (Hid.out (by assumption)) ?_)) | omega | (simp; done) | (simp; omega)))
    · (repeat' (first | omega | (rw [hdrew]) | (with_reducible assumption) | (with_reducible exact Hid.out (by assumption)) | (with_reducible rfl) | ((with_reducible refine halloc_at _ _ _ ?_) <;> (first | (with_reducible rfl) | omega | (simp; done))) | (with_reducible refine chain6 ?_) | (with_reducible refine Eq.trans (hset_ne _ _ _ _ ?_) ?_) | (with_reducible refine Eq.trans (halloc_lt _ _ _ ?_) ?_) | (with_reducible refine Eq.trans (Below.block (Hid.out (by assumption)) _ ?_) ?_) | (simp; done) | (simp; omega)))
    · (repeat' (first | omega | (rw [hdrew]) | (with_reducible assumption) | (with_reducible exact Hid.out (by assumption)) | (with_reducible rfl) | ((with_reducible refine halloc_at _ _ _ ?_) <;> (first | (with_reducible rfl) | omega | (simp; done))) | (with_reducible refine chain6 ?_) | (with_reducible refine Eq.trans (hset_ne _ _ _ _ ?_) ?_) | (with_reducible refine Eq.trans (halloc_lt _ _ _ ?_) ?_) | (with_reducible refine Eq.trans (Below.block (Hid.out (by assumption)) _ ?_) ?_) | (simp; done) | (simp; omega)))
    · (repeat' (first | omega | (rw [hdrew]) | (with_reducible assumption) | (with_reducible exact Hid.out (by assumption)) | (with_reducible rfl) | ((with_reducible refine halloc_at _ _ _ ?_) <;> (first | (with_reducible rfl) | omega | (simp; done))) | (with_reducible refine chain6 ?_) | (with_reducible refine Eq.trans (hset_ne _ _ _ _ ?_) ?_) | (with_reducible refine Eq.trans (halloc_lt _ _ _ ?_) ?_) | (with_reducible refine Eq.trans (Below.block (Hid.out (by assumption)) _ ?_) ?_) | (simp; done) | (simp; omega)))
    rintro e w3 ⟨a3, c3, rfl, ⟨hr3, _⟩, hb3⟩
    have HB3 := Lib.hid hb3
    have HR3 := Lib.hid hr3
    clear hr3
    clear hb3
    go_wp2_with fail
    go_ret2
    exact ⟨a3, c3, by rw [mE_len]; rfl, HR3.out.mono (by simp; omega), by (repeat' (first | (with_reducible exact Below.refl _ _) | (with_reducible refine Below.alloc ?_ ?_ _) | (with_reducible refine Below.setCell ?_ ?_ _) | (with_reducible refine Below.drew ?_) | (with_reducible refine below_drewN ?_ _) | (with_reducible refine Below.trans ?_ (Below.mono (Hid.out (by assumption)) ?_)) | omega | (simp; done) | (simp; omega)))⟩
  · rw [onL_1 hc]
    have HQ := Lib.hid (fun (w1 : World) => fun (z : World) (bl br fb : Nat) (_ : Below (w1.alloc (.cells #[.slice none 0 0, .map none] 48)).heap.size (w1.alloc (.cells #[.slice none 0 0, .map none] 48)) z) (h1 : z.heap[fb]? = some (.cells (mcells q s) 31 (0, 0))) (h2 : z.heap[bl]? = some (.cells #[.slice none 0 0] 29 (0, 0))) (h3 : z.heap[br]? = some (.cells #[.slice (some ⟨fb, 0, none⟩) 1 1] 29 (0, 0))) => ordN_any [] [(q, s)] (by simp) (by simp) (by simp) none (some ⟨fb, 0, none⟩) 0 1 bl br z h2 h3 (Or.inl rfl) (Or.inr ⟨fb, 0, rfl, (Array.getElem?_eq_some_iff.1 h1).1, at_one h1⟩) (fun b hb => by cases hb) (one_blk (Array.getElem?_eq_some_iff.1 h1).1))
    have HF : Hid (witC L [(q, s)] = 0 → False) := Lib.hid fun h => hc h
    have hHS := HS.out
    unfold RetWith at hHS
    have HS := Lib.hid hHS
    clear hc hHS
    generalize witC L [(q, s)] = C at *
    (try simp only [List.any_nil] at HQ)
    simp only [mv, mcells] at HS HX0 HB0 HQ ⊢
    go_enter Try.func38, Try.ntmps38
    go_wp2_with fail
    refine HS.out.mono ?_
    rintro e w1 ⟨hb, ⟨hc, rfl⟩ | ⟨hc, _, _, _, gE, cE, b, l, rfl, hput, _, _, _⟩⟩
    rotate_left
    · exact (HF.out hc).elim
    have HB := Lib.hid (HB0.out.trans (hb.mono (by simp; omega)))
    have hx := (hb.block w.heap.size (by simp; omega)).trans HX0.out
    have hsx : w.heap.size < w1.heap.size := (Array.getElem?_eq_some_iff.1 hx).1
    obtain ⟨x0, x1, x2, x3, x4, x5⟩ := blk6 hx
    have HQ := Lib.hid (HQ.out w1)
    clear hb hc hx HS HF
    go_wp2_with (go_at_call 62; (with_reducible refine (products_any _ _ _ _ _ _ _).mono ?_); rintro e w2 ⟨rfl, rfl⟩)
    refine (HQ.out _ (w1.heap.size + 1 + 1) (w1.heap.size + 1 + 1 + 1) (w1.heap.size + 1) ?_ ?_ ?_ ?_).mono ?_
    · (repeat' (first | (with_reducible exact Below.refl _ _) | (with_reducible refine Below.alloc ?_ ?_ _) | (with_reducible refine Below.setCell ?_ ?_ _) | (with_reducible refine Below.drew ?_) | (with_reducible refine below_drewN ?_ _) | (with_reducible refine Below.trans ?_ (Below.mono (Hid.out (by assumption)) ?_)) | omega | (simp; done) | (simp; omega)))
    · (repeat' (first | omega | (rw [hdrew]) | (with_reducible assumption) | (with_reducible exact Hid.out (by assumption)) | (with_reducible rfl) | ((with_reducible refine halloc_at _ _ _ ?_) <;> (first | (with_reducible rfl) | omega | (simp; done))) | (with_reducible refine chain6 ?_) | (with_reducible refine Eq.trans (hset_ne _ _ _ _ ?_) ?_) | (with_reducible refine Eq.trans (halloc_lt _ _ _ ?_) ?_) | (with_reducible refine Eq.trans (Below.block (Hid.out (by assumption)) _ ?_) ?_) | (simp; done) | (simp; omega)))
    · (repeat' (first | omega | (rw [hdrew]) | (with_reducible assumption) | (with_reducible exact Hid.out (by assumption)) | (with_reducible rfl) | ((with_reducible refine halloc_at _ _ _ ?_) <;> (first | (with_reducible rfl) | omega | (simp; done))) | (with_reducible refine chain6 ?_) | (with_reducible refine Eq.trans (hset_ne _ _ _ _ ?_) ?_) | (with_reducible refine Eq.trans (halloc_lt _ _ _ ?_) ?_) | (with_reducible refine Eq.trans (Below.block (Hid.out (by assumption)) _ ?_) ?_) | (simp; done) | (simp; omega)))
    · (repeat' (first | omega | (rw [hdrew]) | (with_reducible assumption) | (with_reducible exact Hid.out (by assumption)) | (with_reducible rfl) | ((with_reducible refine halloc_at _ _ _ ?_) <;> (first | (with_reducible rfl) | omega | (simp; done))) | (with_reducible refine chain6 ?_) | (with_reducible refine Eq.trans (hset_ne _ _ _ _ ?_) ?_) | (with_reducible refine Eq.trans (halloc_lt _ _ _ ?_) ?_) | (with_reducible refine Eq.trans (Below.block (Hid.out (by assumption)) _ ?_) ?_) | (simp; done) | (simp; omega)))
    rintro e w3 ⟨a3, c3, rfl, _, hb3⟩
    have HB3 := Lib.hid hb3
    clear hb3
    go_wp2_with fail
    go_ret2
    exact ⟨a3, c3, rfl, ⟨by simp, Or.inl rfl⟩, by (repeat' (first | (with_reducible exact Below.refl _ _) | (with_reducible refine Below.alloc ?_ ?_ _) | (with_reducible refine Below.setCell ?_ ?_ _) | (with_reducible refine Below.drew ?_) | (with_reducible refine below_drewN ?_ _) | (with_reducible refine Below.trans ?_ (Below.mono (Hid.out (by assumption)) ?_)) | omega | (simp; done) | (simp; omega)))⟩

end Go.Proofs.Ytiogagaclhjdaaa
