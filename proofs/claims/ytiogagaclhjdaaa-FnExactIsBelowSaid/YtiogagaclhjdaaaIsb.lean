/- The contracts of IsBelow, in spec and impl. -/
import Derived.Test.YtiogagaclhjdaaaOn
import Derived.Test.YtiogagaclhjdaaaWith
import Derived.Test.YtiogagaclhjdaaaSbl
import Derived.Test.YtiogagaclhjdaaaBlw
import Derived.Deep.RegionHeld3
namespace Go.Proofs.Ytiogagaclhjdaaa
open Go Go.RowKit Go.Maps

noncomputable def isbB (L : List MapN) (q : Int) (s : Nat → Int) (r : Int) (t : Nat → Int) : Bool := decide (witC L [(q, s), (r, t)] = 0) && blwC (fst0 L) (elsK L) (ecd t) (ecd s)
noncomputable def isbV (L : List MapN) (q : Int) (s : Nat → Int) (r : Int) (t : Nat → Int) : Value := .tuple #[.bool (isbB L q s r t), .int .i64 (witC L [(q, s), (r, t)])]

variable {L : List MapN} {q r : Int} {s t : Nat → Int}
theorem isbV_0 (h : witC L [(q, s), (r, t)] = 0) : isbV L q s r t = .tuple #[.bool (blwC (fst0 L) (elsK L) (ecd t) (ecd s)), .int .i64 0] := by unfold isbV isbB; rw [h]; simp
theorem isbV_1 (h : witC L [(q, s), (r, t)] ≠ 0) : isbV L q s r t = .tuple #[.bool false, .int .i64 (witC L [(q, s), (r, t)])] := by unfold isbV isbB; rw [decide_eq_false h]; rfl

theorem on_good2 (h : witC L [(q, s), (r, t)] = 0) : Mon q (elsK L) ∧ fst0 L = q ∧ r = q ∧ (isB q s = true ∧ ecd s ∈ elsK L ∧ mv q (dcd (ecd s)) = mv q s) ∧ (isB q t = true ∧ ecd t ∈ elsK L ∧ mv q (dcd (ecd t)) = mv q t) := by
  obtain ⟨_, _, _, hO⟩ := wit_all h
  obtain ⟨h1, h2, h3⟩ := hO (q, s) (by simp)
  obtain ⟨k1, k2, k3⟩ := hO (r, t) (by simp)
  have hm := mon_els (witC_good h).1
  have h1' : fst0 L = q := h1.symm
  have k1' : r = q := k1.trans h1'
  rw [h1'] at hm
  have k2' : isB q t = true := by rw [← k1']; exact k2
  exact ⟨hm, h1', k1', ⟨h2, h3, congrArg Value.agg (mcells_ecd h2)⟩, ⟨k2', k3, congrArg Value.agg (mcells_ecd k2')⟩⟩

/-- The cells of two maps in a row. -/
abbrev two (q : Int) (s : Nat → Int) (r : Int) (t : Nat → Int) : Array Value := #[.int .i64 q, .int .i64 (s 0), .int .i64 (s 1), .int .i64 (s 2), .int .i64 (s 3), .int .i64 (s 4), .int .i64 r, .int .i64 (t 0), .int .i64 (t 1), .int .i64 (t 2), .int .i64 (t 3), .int .i64 (t 4)]

theorem at_two {w : World} {b T : Nat} (h : w.heap[b]? = some (.cells (two q s r t) T (0, 0))) : ∀ j, j < [((q, s) : MapN), (r, t)].length → AtM w b 0 j ([((q, s) : MapN), (r, t)].getD j z0) := fun j hj => by
  have c := fun i => Joins.cell_of_block h i
  have h2 : j = 0 ∨ j = 1 := by simp at hj; omega
  rcases h2 with rfl | rfl
  · exact ⟨c 0, c 1, c 2, c 3, c 4, c 5⟩
  · exact ⟨c 6, c 7, c 8, c 9, c 10, c 11⟩

set_option maxRecDepth 100000 in
set_option maxHeartbeats 1000000 in
theorem sisb_any (a : Option Addr) (c : Nat) (L : List MapN) (q : Int) (s : Nat → Int) (r : Int) (t : Nat → Int) (hl : L.length ≤ 1048576) (w : World) (hr : InRowM w a L) :
    Calls Try.prog 31 #[.slice a L.length c, mv q s, mv r t] w fun e w' => e = .returned (isbV L q s r t) ∧ Below w.heap.size w w' := by
  obtain ⟨wz, hwz⟩ : ∃ wz, wz = ((w.alloc (.cells (mcells q s) 31)).alloc (.cells (mcells r t) 31)).alloc (.cells (two q s r t) 31) := ⟨_, rfl⟩
  have hb0 : Below w.heap.size w wz := by rw [hwz]; exact (((Below.refl _ _).alloc (Nat.le_refl _) _).alloc (by simp) _).alloc (by simp; omega) _
  have hzs : wz.heap.size = w.heap.size + 1 + 1 + 1 := by rw [hwz]; simp
  have hf0 : wz.heap[w.heap.size]? = some (.cells (mcells q s) 31 (0, 0)) := by rw [hwz]; exact (halloc_lt _ _ _ (by simp; omega)).trans ((halloc_lt _ _ _ (by simp)).trans (halloc_at _ _ _ rfl))
  have hg0 : wz.heap[w.heap.size + 1]? = some (.cells (mcells r t) 31 (0, 0)) := by rw [hwz]; exact (halloc_lt _ _ _ (by simp)).trans (halloc_at _ _ _ (by simp))
  have ht0 : wz.heap[w.heap.size + 1 + 1]? = some (.cells (two q s r t) 31 (0, 0)) := by rw [hwz]; exact halloc_at _ _ _ (by simp)
  have HS := Lib.hid (all_any a (some ⟨w.heap.size + 1 + 1, 0, none⟩) c 2 L [(q, s), (r, t)] hl (by simp) wz (hr.below hb0) (Or.inr ⟨w.heap.size + 1 + 1, 0, rfl, by omega, at_two ht0⟩))
  have HF0 := Lib.hid hf0
  have HG0 := Lib.hid hg0
  have HB0 := Lib.hid hb0
  simp only [show [(q, s), (r, t)].length = 2 from rfl] at HS
  have HZS := Lib.hid hzs
  clear hr hb0 hf0 hg0 ht0 hzs
  by_cases hc : witC L [(q, s), (r, t)] = 0
  · obtain ⟨hmon, hq, hrq, ⟨hs1, hs2, hs3⟩, ⟨ht1, ht2, ht3⟩⟩ := on_good2 hc
    have HIN := Lib.hid fun (a : Option Addr) (cap : Nat) (z : World) h => sblw_any hmon.vl (hmon.vl _ hs2) (hmon.vl _ ht2) hmon.le a cap z h
    have hHS := HS.out
    rw [hc, allL_0 hc, hq] at hHS
    have HS := Lib.hid hHS
    rw [hs3, ht3] at HIN
    rw [isbV_0 hc, hq]
    clear hHS hc hmon hq hs1 hs2 hs3 ht1 ht2 ht3
    subst hrq
    generalize elsK L = K at *
    generalize blwC r K (ecd t) (ecd s) = NN at *
    (try simp only [mE_len] at HS)
    simp only [mv, mcells] at HS HF0 HG0 HIN hwz ⊢
    go_enter Try.func31, Try.ntmps31
    go_wp2_with fail
    rw [← hwz]
    clear hwz
    refine HS.out.mono ?_
    rintro e w1 ⟨aK, cK, rfl, hrd, hb⟩
    rw [mE_len]
    have hzs := HZS.out
    have HB1 := Lib.hid (HB0.out.trans (hb.mono (by omega)))
    have hx := (hb.block w.heap.size (by omega)).trans HF0.out
    have hy := (hb.block (w.heap.size + 1) (by omega)).trans HG0.out
    have hsx : w.heap.size < w1.heap.size := (Array.getElem?_eq_some_iff.1 hx).1
    have hsy : w.heap.size + 1 < w1.heap.size := (Array.getElem?_eq_some_iff.1 hy).1
    obtain ⟨x0, x1, x2, x3, x4, x5⟩ := blk6 hx
    obtain ⟨y0, y1, y2, y3, y4, y5⟩ := blk6 hy
    have HRD := Lib.hid hrd
    clear hb hrd HS hx hy hzs
    go_wp2_with fail
    refine (HIN.out aK cK _ HRD.out.inRow).mono ?_
    rintro e w2 ⟨rfl, hb2⟩
    have HB2 := Lib.hid hb2
    clear hb2
    go_wp2_with fail
    go_ret2
    exact ⟨rfl, HB1.out.trans (HB2.out.mono (by omega))⟩
  · have hHS := HS.out
    rw [allL_1 hc] at hHS
    have HS := Lib.hid hHS
    rw [isbV_1 hc]
    clear hHS
    generalize witC L [(q, s), (r, t)] = C at *
    have hcb : (C != 0) = true := by simpa using hc
    (try simp only [List.length_nil] at HS)
    simp only [mv, mcells] at HS hwz ⊢
    go_enter Try.func31, Try.ntmps31
    go_wp2_with fail
    rw [← hwz]
    clear hwz
    refine HS.out.mono ?_
    rintro e w1 ⟨aK, cK, rfl, _, hb⟩
    have HB := Lib.hid (HB0.out.trans (hb.mono (by have := HZS.out; omega)))
    clear hb
    go_wp2_with fail
    go_ret2
    exact ⟨rfl, HB.out⟩

set_option maxRecDepth 100000 in
set_option maxHeartbeats 1000000 in
theorem iisb_any (a : Option Addr) (c : Nat) (L : List MapN) (q : Int) (s : Nat → Int) (r : Int) (t : Nat → Int) (h1 : a = none → c = 0) (hl : L.length ≤ 1048576) (w : World) (hr : InRowM w a L) :
    Calls Try.prog 32 #[.slice a L.length c, mv q s, mv r t] w fun e w' => e = .returned (isbV L q s r t) ∧ Below w.heap.size w w' := by
  obtain ⟨wz, hwz⟩ : ∃ wz, wz = ((w.alloc (.cells (mcells q s) 31)).alloc (.cells (mcells r t) 31)).alloc (.cells (two q s r t) 31) := ⟨_, rfl⟩
  have hb0 : Below w.heap.size w wz := by rw [hwz]; exact (((Below.refl _ _).alloc (Nat.le_refl _) _).alloc (by simp) _).alloc (by simp; omega) _
  have hzs : wz.heap.size = w.heap.size + 1 + 1 + 1 := by rw [hwz]; simp
  have hf0 : wz.heap[w.heap.size]? = some (.cells (mcells q s) 31 (0, 0)) := by rw [hwz]; exact (halloc_lt _ _ _ (by simp; omega)).trans ((halloc_lt _ _ _ (by simp)).trans (halloc_at _ _ _ rfl))
  have hg0 : wz.heap[w.heap.size + 1]? = some (.cells (mcells r t) 31 (0, 0)) := by rw [hwz]; exact (halloc_lt _ _ _ (by simp)).trans (halloc_at _ _ _ (by simp))
  have ht0 : wz.heap[w.heap.size + 1 + 1]? = some (.cells (two q s r t) 31 (0, 0)) := by rw [hwz]; exact halloc_at _ _ _ (by simp)
  have HS := Lib.hid (iwith_any a (some ⟨w.heap.size + 1 + 1, 0, none⟩) c 2 L [(q, s), (r, t)] h1 (fun e => by cases e) hl (by simp) wz (hr.below hb0) (Or.inr ⟨w.heap.size + 1 + 1, 0, rfl, by omega, at_two ht0⟩))
  have HF0 := Lib.hid hf0
  have HG0 := Lib.hid hg0
  have HB0 := Lib.hid hb0
  simp only [show [(q, s), (r, t)].length = 2 from rfl] at HS
  have HZS := Lib.hid hzs
  clear hr hb0 hf0 hg0 ht0 hzs
  by_cases hc : witC L [(q, s), (r, t)] = 0
  · obtain ⟨hmon, hq, hrq, ⟨hs1, hs2, hs3⟩, ⟨ht1, ht2, ht3⟩⟩ := on_good2 hc
    have HF : Hid (witC L [(q, s), (r, t)] ≠ 0 → False) := Lib.hid fun h => h hc
    have hHS := HS.out
    unfold RetWith at hHS
    rw [hq] at hHS
    have HS := Lib.hid hHS
    rw [isbV_0 hc, hq]
    subst hrq
    have HQ1 := Lib.hid fun (w1 z : World) (gE cE b : Nat) (hbm : z.heap[w1.heap.size]? = some (.cells #[.slice (some ⟨gE, 0, none⟩) (elsK L).length cE, .map (some b)] 48 (0, 0))) (hrow : InRowM z (some ⟨gE, 0, none⟩) (mE r (elsK L))) => iblwC_any hmon ht1 ht2 w1.heap.size gE cE (some b) z hbm hrow
    have hbe : decide (ecd s ∈ blwF r (elsK L) (ecd t)) = blwC r (elsK L) (ecd t) (ecd s) := by
      unfold blwF
      rw [Bool.eq_iff_iff, decide_eq_true_iff, List.mem_filter]
      exact ⟨fun h => h.2, fun h => ⟨hs2, h⟩⟩
    have HQ2 := Lib.hid fun (a : Option Addr) (cap : Nat) (z : World) (h : InRowM z a (mE r (blwF r (elsK L) (ecd t)))) => hasC_any (K := blwF r (elsK L) (ecd t)) (fun x hx => hmon.vl x (List.mem_filter.1 hx).1) (hmon.vl _ hs2) (Nat.le_trans (List.length_filter_le _ _) hmon.le) a cap z h
    rw [hbe, hs3] at HQ2
    clear hHS hc hmon hq hs1 hs2 hs3 ht1 ht2 ht3 hbe
    generalize elsK L = K at *
    generalize blwC r K (ecd t) (ecd s) = NN at *
    generalize blwF r K (ecd t) = BF at *
    simp only [mv, mcells] at HS HF0 HG0 HQ1 HQ2 hwz ⊢
    go_enter Try.func32, Try.ntmps32
    go_wp2_with fail
    rw [← hwz]
    clear hwz
    refine HS.out.mono ?_
    rintro e w1 ⟨hb, ⟨hc, rfl⟩ | ⟨_, _, _, _, gE, cE, b, l, rfl, hput, _, _, _⟩⟩
    · exact (HF.out hc).elim
    have hzs := HZS.out
    have HB1 := Lib.hid (HB0.out.trans (hb.mono (by omega)))
    have hx := (hb.block w.heap.size (by omega)).trans HF0.out
    have hy := (hb.block (w.heap.size + 1) (by omega)).trans HG0.out
    have hsx : w.heap.size < w1.heap.size := (Array.getElem?_eq_some_iff.1 hx).1
    have hsy : w.heap.size + 1 < w1.heap.size := (Array.getElem?_eq_some_iff.1 hy).1
    obtain ⟨wg, hwg⟩ : ∃ wg, wg = w1.alloc (.cells #[.slice (some ⟨gE, 0, none⟩) K.length cE, .map (some b)] 48) := ⟨_, rfl⟩
    have hg1 : Below w1.heap.size w1 wg := by rw [hwg]; exact (Below.refl _ _).alloc (Nat.le_refl _) _
    have hgm : wg.heap[w1.heap.size]? = some (.cells #[.slice (some ⟨gE, 0, none⟩) K.length cE, .map (some b)] 48 (0, 0)) := by rw [hwg]; exact halloc_at _ _ _ rfl
    have hgl : w1.heap.size < wg.heap.size := (Array.getElem?_eq_some_iff.1 hgm).1
    obtain ⟨r0, r1, r2, r3, r4, r5⟩ := belN_cells (B := wg.heap.size) (by omega) (bel_at hg1 hx)
    obtain ⟨s0, s1, s2, s3, s4, s5⟩ := belN_cells (B := wg.heap.size) (by omega) (bel_at hg1 hy)
    have HP1 := Lib.hid fun (z : World) (hz : Below wg.heap.size wg z) => HQ1.out w1 z gE cE b (bel_at hz hgm) ((hput.inRow.below hg1).below hz)
    have HBG : Hid (Below w.heap.size w wg) := Lib.hid (HB1.out.trans (hg1.mono (by omega)))
    clear hb hput HS HF hx hy hzs hg1 hgm
    go_upto_region 2 with fail
    try rw [← hwg]
    clear hwg
    go_region_held3 (fun w' => Below wg.heap.size wg w') (first | (with_reducible assumption) | ((repeat' (first | (with_reducible exact Below.refl _ _) | (with_reducible refine Below.alloc ?_ ?_ _) | (with_reducible refine Below.setCell ?_ ?_ _) | (with_reducible refine Below.drew ?_) | (with_reducible refine below_drewN ?_ _) | (with_reducible refine Below.trans ?_ (Below.mono (Hid.out (by assumption)) ?_)) | omega | (simp; done) | (simp; omega))); done)) (first
      | (go_at_call 59; (with_reducible refine (HP1.out _ (by assumption)).mono ?_); rintro e w5 ⟨a5, c5, rfl, hr5, hb⟩; obtain ⟨hc, hf⟩ := bcell hb; have hz := hb.size; have Hb := Lib.hid hb; have HR5 := Lib.hid hr5; (try simp at hz hc hf); have hz0 : wg.heap.size ≤ w5.heap.size := (by omega); clear hb hr5)
      | (go_at_call 58; (with_reducible refine (HQ2.out _ _ _ (HR5.out.below (by (repeat' (first | (with_reducible exact Below.refl _ _) | (with_reducible refine Below.alloc ?_ ?_ _) | (with_reducible refine Below.setCell ?_ ?_ _) | (with_reducible refine Below.drew ?_) | (with_reducible refine below_drewN ?_ _) | (with_reducible refine Below.trans ?_ (Below.mono (Hid.out (by assumption)) ?_)) | omega | (simp; done) | (simp; omega))))).inRow).mono ?_); rintro e w6 ⟨rfl, hb⟩; obtain ⟨hc, hf⟩ := bcell hb; have hz6 := hb.size; have Hb6 := Lib.hid hb; (try simp at hz6 hc hf); have hz1 : wg.heap.size ≤ w6.heap.size := (by omega); clear hb))
    all_goals go_wp2_with fail
    all_goals go_ret2
    all_goals
      refine ⟨rfl, ?_⟩
      (repeat' (first | (with_reducible exact Below.refl _ _) | (with_reducible refine Below.alloc ?_ ?_ _) | (with_reducible refine Below.setCell ?_ ?_ _) | (with_reducible refine Below.drew ?_) | (with_reducible refine below_drewN ?_ _) | (with_reducible refine Below.trans ?_ (Below.mono (Hid.out (by assumption)) ?_)) | omega | (simp; done) | (simp; omega)))
  · rw [isbV_1 hc]
    have HF : Hid (witC L [(q, s), (r, t)] = 0 → False) := Lib.hid fun h => hc h
    have hHS := HS.out
    unfold RetWith at hHS
    have HS := Lib.hid hHS
    have HQ1 := Lib.hid fun (w1 z : World) (mo : Option Nat) (hbm : z.heap[w1.heap.size]? = some (.cells #[.slice none 0 0, .map mo] 48 (0, 0))) => iblwN_any r t w1.heap.size mo z hbm
    have HQ2 := Lib.hid fun (a : Option Addr) (cap : Nat) (z : World) => hasE_any (p := 0) (K := []) (Q := fun _ => false) (by simp) q s a cap z (Or.inl rfl) (fun x hx => by cases hx)
    simp only [List.any_nil, List.length_nil] at HQ2
    clear hc hHS
    generalize witC L [(q, s), (r, t)] = C at *
    simp only [mv, mcells] at HS HF0 HG0 HQ1 HQ2 hwz ⊢
    go_enter Try.func32, Try.ntmps32
    go_wp2_with fail
    rw [← hwz]
    clear hwz
    refine HS.out.mono ?_
    rintro e w1 ⟨hb, ⟨_, rfl⟩ | ⟨hc, _, _, _, gE, cE, b, l, rfl, hput, _, _, _⟩⟩
    rotate_left
    · exact (HF.out hc).elim
    have hzs := HZS.out
    have HB1 := Lib.hid (HB0.out.trans (hb.mono (by omega)))
    have hx := (hb.block w.heap.size (by omega)).trans HF0.out
    have hy := (hb.block (w.heap.size + 1) (by omega)).trans HG0.out
    have hsx : w.heap.size < w1.heap.size := (Array.getElem?_eq_some_iff.1 hx).1
    have hsy : w.heap.size + 1 < w1.heap.size := (Array.getElem?_eq_some_iff.1 hy).1
    obtain ⟨wg, hwg⟩ : ∃ wg, wg = w1.alloc (.cells #[.slice none 0 0, .map none] 48) := ⟨_, rfl⟩
    have hg1 : Below w1.heap.size w1 wg := by rw [hwg]; exact (Below.refl _ _).alloc (Nat.le_refl _) _
    have hgm : wg.heap[w1.heap.size]? = some (.cells #[.slice none 0 0, .map none] 48 (0, 0)) := by rw [hwg]; exact halloc_at _ _ _ rfl
    have hgl : w1.heap.size < wg.heap.size := (Array.getElem?_eq_some_iff.1 hgm).1
    obtain ⟨r0, r1, r2, r3, r4, r5⟩ := belN_cells (B := wg.heap.size) (by omega) (bel_at hg1 hx)
    obtain ⟨s0, s1, s2, s3, s4, s5⟩ := belN_cells (B := wg.heap.size) (by omega) (bel_at hg1 hy)
    have HP1 := Lib.hid fun (z : World) (hz : Below wg.heap.size wg z) => HQ1.out w1 z none (bel_at hz hgm)
    have HBG : Hid (Below w.heap.size w wg) := Lib.hid (HB1.out.trans (hg1.mono (by omega)))
    clear hb HS HF hx hy hzs hg1 hgm
    go_upto_region 2 with fail
    try rw [← hwg]
    clear hwg
    go_region_held3 (fun w' => Below wg.heap.size wg w') (first | (with_reducible assumption) | ((repeat' (first | (with_reducible exact Below.refl _ _) | (with_reducible refine Below.alloc ?_ ?_ _) | (with_reducible refine Below.setCell ?_ ?_ _) | (with_reducible refine Below.drew ?_) | (with_reducible refine below_drewN ?_ _) | (with_reducible refine Below.trans ?_ (Below.mono (Hid.out (by assumption)) ?_)) | omega | (simp; done) | (simp; omega))); done)) (first
      | (go_at_call 59; (with_reducible refine (HP1.out _ (by assumption)).mono ?_); rintro e w5 ⟨a5, c5, rfl, hr5, hb⟩; obtain ⟨hc, hf⟩ := bcell hb; have hz := hb.size; have Hb := Lib.hid hb; (try simp at hz hc hf); have hz0 : wg.heap.size ≤ w5.heap.size := (by omega); clear hb hr5)
      | (go_at_call 58; (with_reducible refine (HQ2.out _ _ _).mono ?_); rintro e w6 ⟨rfl, hb⟩; obtain ⟨hc, hf⟩ := bcell hb; have hz6 := hb.size; have Hb6 := Lib.hid hb; (try simp at hz6 hc hf); have hz1 : wg.heap.size ≤ w6.heap.size := (by omega); clear hb))
    all_goals go_wp2_with fail
    all_goals go_ret2
    all_goals
      refine ⟨rfl, ?_⟩
      (repeat' (first | (with_reducible exact Below.refl _ _) | (with_reducible refine Below.alloc ?_ ?_ _) | (with_reducible refine Below.setCell ?_ ?_ _) | (with_reducible refine Below.drew ?_) | (with_reducible refine below_drewN ?_ _) | (with_reducible refine Below.trans ?_ (Below.mono (Hid.out (by assumption)) ?_)) | omega | (simp; done) | (simp; omega)))

end Go.Proofs.Ytiogagaclhjdaaa
