/- Tables of products of a monoid's elements, by their numbers; the contracts of spec.l06Table and spec.l06Given. The contract of spec.l06Given: the table of products of a list's monoid, or the code. The numbers of a monoid's elements as a map, told as a datum; the contracts of impl.numbersOf and impl.tableOfAtMost. -/
import Derived.Test.YtdgdcpcfjdnlcaaTb
import Derived.Test.YtdgdcpcfjdnlcaaIdl
import Derived.Test.YtdgdcpcfjdnlcaaParts
import Derived.Deep.RegionLaw
import Derived.Test.YtdgdcpcfjdnlcaaMono
import Derived.Test.YtdgdcpcfjdnlcaaWdm
import Derived.Test.YtdgdcpcfjdnlcaaCg
import Derived.Maps.AppendAt
namespace Go.Proofs.Ytdgdcpcfjdnlcaa
open Go.RowKit

/-- The number of the product of two elements. -/
def muK (p : Int) (K : List Nat) (i j : Nat) : Nat := lowN K (mulC p (K.getD i 0) (K.getD j 0))

theorem muK_mem {p : Int} {K : List Nat} (h : Mon p K) {i j : Nat} (hi : i < K.length) (hj : j < K.length) : mulC p (K.getD i 0) (K.getD j 0) ∈ K := h.mul _ (getD_mem hi) _ (getD_mem hj)

theorem muK_lt {p : Int} {K : List Nat} (h : Mon p K) (i j : Nat) (hi : i < K.length) (hj : j < K.length) : muK p K i j < K.length := ((low_found h.srt _).1 (muK_mem h hi hj)).1

/-- The first j products of element i. -/
def rowT (mu : Nat → Nat → Nat) (i j : Nat) : List Int := (List.range j).map fun k => (mu i k : Int)

theorem rowT_len (mu : Nat → Nat → Nat) (i j : Nat) : (rowT mu i j).length = j := by unfold rowT; simp
theorem rowT_succ (mu : Nat → Nat → Nat) (i j : Nat) : rowT mu i (j + 1) = rowT mu i j ++ [(mu i j : Int)] := by unfold rowT; rw [List.range_succ, List.map_append]; rfl
theorem rowT_at (mu : Nat → Nat → Nat) (i m j : Nat) (h : j < m) : (rowT mu i m).getD j 0 = mu i j := by unfold rowT; simp [h]

/-- The first k rows. -/
def tabT (mu : Nat → Nat → Nat) (m k : Nat) : List (List Int) := (List.range k).map fun i => rowT mu i m

theorem tabT_len (mu : Nat → Nat → Nat) (m k : Nat) : (tabT mu m k).length = k := by unfold tabT; simp
theorem tabT_succ (mu : Nat → Nat → Nat) (m k : Nat) : tabT mu m (k + 1) = tabT mu m k ++ [rowT mu k m] := by unfold tabT; rw [List.range_succ, List.map_append]; rfl
theorem tabT_at (mu : Nat → Nat → Nat) (m k i : Nat) (h : i < k) : (tabT mu m k).getD i [] = rowT mu i m := by unfold tabT; simp [h]

theorem tb_of {w : World} {B : Nat} {a : Option Addr} {cap m : Nat} {us : List Value} {mu : Nat → Nat → Nat} (h1 : 1 ≤ m) (hm : m ≤ 1000) (h : Wds w B (.slice a m cap) us (tabT mu m m)) : Tb w w.heap.size a m mu := by
  have hl := tabT_len mu m m
  obtain ⟨g, cap2, e, hc⟩ := wds_open h (by omega)
  injection e with e1 e2 e3
  refine ⟨Nat.le_refl _, g, e1, ?_, fun i hi => ?_⟩
  · exact (h.own.lt g (by rw [e1]; rfl)).2
  · obtain ⟨g2, c2, eu, ho⟩ := h.row i (by omega)
    rw [tabT_at mu m m i hi] at eu ho
    have hrl := rowT_len mu i m
    have hcell := hc i (by omega)
    rw [eu, hrl] at hcell
    obtain ⟨hg2, hcs⟩ := own_cells ho (by omega)
    refine ⟨g2, c2, hg2, hcell, fun j hj => ?_⟩
    have := hcs j (by omega)
    rw [Nat.zero_add, rowT_at mu i m j hj] at this
    exact this

set_option maxRecDepth 100000 in
set_option maxHeartbeats 4000000 in
theorem stable_any {p : Int} {K : List Nat} (hmon : Mon p K) (a : Option Addr) (cap : Nat) (w : World) (hr : InRowM w a (mE p K)) :
    Calls Try.prog 80 #[.slice a K.length cap] w (RetWds w.heap.size (tabT (muK p K) K.length K.length) w) := by
  have hm3 := hmon.le
  have HMO := Lib.hid hmon
  have HR := Lib.hid hr
  obtain ⟨i0, hi, hz0, hz1, hz2⟩ := info_parts info_int
  clear hr hmon
  obtain ⟨m, hm⟩ : ∃ m, m = K.length := ⟨_, rfl⟩
  rw [← hm] at hm3 ⊢
  have HM := Lib.hid hm
  clear hm
  go_enter Try.func80, Try.ntmps80
  go_wp2_with fail
  go_loopw [3, 4, 5, 6] (fun v i _ _ wr => ∃ (k : Nat) (us : List Value), k ≤ m ∧ i = .int .i64 k ∧ Wds wr w.heap.size v us (tabT (muK p K) m k) ∧ Below w.heap.size w wr) (fun _ i _ _ _ => m - (intOf i).toNat)
  case atStart => exact ⟨0, [], by omega, rfl, wds_nil (halloc_at _ _ _ rfl) (Nat.le_refl _), (Below.refl _ _).alloc (Nat.le_refl _) _⟩
  case round =>
    obtain ⟨k, us, hk, rfl, hwd, hb⟩ := hrel
    have HWD := Lib.hid hwd
    have HBR := Lib.hid hb
    have hsr := hb.size
    clear hwd hb
    by_cases hkm : k < m
    · have hkm' : (k : Int) < (m : Int) := by omega
      obtain ⟨wo, hwo⟩ : ∃ wo, wo = wr := ⟨_, rfl⟩
      subst hwo
      go_wp2_with fail
      go_loopw [5, 6] (fun v5 i wr => ∃ j : Nat, j ≤ m ∧ i = .int .i64 j ∧ Own wr wo.heap.size v5 (rowT (muK p K) k j) ∧ Below wo.heap.size wo wr) (fun _ i _ => m - (intOf i).toNat)
      case atStart => exact ⟨0, by omega, rfl, own_empty wo _ (Nat.le_refl _), (Below.refl _ _).alloc (Nat.le_refl _) _⟩
      case round =>
        obtain ⟨j, hj, rfl, hown, hbw⟩ := hrel
        have HOW := Lib.hid hown
        have HBW := Lib.hid hbw
        have hsw := hbw.size
        have hrl := rowT_len (muK p K) k j
        clear hown hbw
        by_cases hjm : j < m
        · have hjm' : (j : Int) < (m : Int) := by omega
          have hrow := (HR.out.below HBR.out).below HBW.out
          obtain ⟨b1, o1, rfl, hl1, hat⟩ := hrow.resolve_left (fun e => by have := congrArg List.length e; rw [mE_len, ← HM.out] at this; simp at this; omega)
          have hat1 := hat k (by rw [mE_len, ← HM.out]; exact hkm)
          have hat2 := hat j (by rw [mE_len, ← HM.out]; exact hjm)
          rw [mE_at _ _ _ (by rw [← HM.out]; exact hkm)] at hat1
          rw [mE_at _ _ _ (by rw [← HM.out]; exact hjm)] at hat2
          have hKl : K.length = m := HM.out.symm
          have hv1 := HMO.out.vl _ (getD_mem (by rw [hKl]; exact hkm))
          have hv2 := HMO.out.vl _ (getD_mem (by rw [hKl]; exact hjm))
          have hmem := muK_mem HMO.out (i := k) (j := j) (by omega) (by omega)
          have hT := fun w => times_num hv1 hv2 w
          have hF := fun w h => find_any HMO.out.vl HMO.out.srt (HMO.out.vl _ hmem) (by omega) (some ⟨b1, o1, none⟩) cap w h
          rw [if_pos hmem, hKl] at hF
          have hV : ∃ V : Nat, V = muK p K k j := ⟨_, rfl⟩
          obtain ⟨V, hV⟩ := hV
          rw [show lowN K (mulC p (K.getD k 0) (K.getD j 0)) = V from hV.symm] at hF
          have HRS : Hid (rowT (muK p K) k (j + 1) = rowT (muK p K) k j ++ [(V : Int)]) := Lib.hid (by rw [rowT_succ, hV])
          have HRW := Lib.hid (show InRowM wr (some ⟨b1, o1, none⟩) (mE p K) from Or.inr ⟨b1, o1, rfl, hl1, hat⟩)
          obtain ⟨x0, x1, x2, x3, x4, x5⟩ := hat1
          obtain ⟨y0, y1, y2, y3, y4, y5⟩ := hat2
          simp only [] at x0 x1 x2 x3 x4 x5 y0 y1 y2 y3 y4 y5
          clear hat hv1 hv2 hmem hV hrow
          generalize K.getD k 0 = A1 at *
          generalize K.getD j 0 = A2 at *
          generalize mulC p A1 A2 = A3 at *
          generalize rowT (muK p K) k j = R0 at *
          simp only [mv, mcells] at hT hF
          have HTI := Lib.hid hT
          have HFI := Lib.hid hF
          clear hT hF hKl
          go_wp2_with fail
          go_region_law (first
              | (refine step_append_own rfl (.tmp 21) (.tmp 33) 25 rfl wo.heap.size 2 i0 (.int .i64 0) 1 8 Try.underlying25 hi hz0 hz1 hz2 rfl (by decide) u5 R0.length (R0.map (Value.int .i64)) rfl ((own_bel HOW.out HB6.out).alloc _) ⟨w6.heap.size, 0, none⟩ 1 1 [Value.int .i64 (V : Int)] rfl rfl (cell_one_new _ _ _) (ints_oneCell .i64 [(V : Int)]) (by unfold maxLen; omega) (by omega) (Nat.le_trans hs6 (by simp)) ?_; intro v7 w7 hown7 hgrow7; have HO7 := Lib.hid hown7; have HB7 : Hid (Below wo.heap.size wo w7) := Lib.hid (Below.grown (w := w6.alloc (.cells #[.int .i64 V] 2)) ((HBW.out.trans (HB6.out.mono hsw)).alloc hs6 _) hgrow7 (Nat.le_trans hs6 (by simp)) (fun r e => (HOW.out.lt r e).1)); clear hown7 hgrow7)
              | (go_simp; go_at_call 90; refine (HTI.out _).mono ?_; rintro e w5 ⟨rfl, hb5⟩; have HB5 : Hid (Below wr.heap.size wr w5) := Lib.hid (by first | exact hb5 | exact (Below.refl _ _).drew.trans hb5); have hs5 : wr.heap.size ≤ w5.heap.size := HB5.out.size; clear hb5)
              | (go_simp; go_at_call 89; refine (HFI.out _ (HRW.out.below (by first | exact HB5.out | exact HB5.out.drew))).mono ?_; rintro e w6 ⟨rfl, hb6⟩; have HB6 : Hid (Below wr.heap.size wr w6) := Lib.hid (by first | exact HB5.out.trans (hb6.mono hs5) | exact HB5.out.drew.trans (hb6.mono hs5)); have hs6 : wo.heap.size ≤ w6.heap.size := Nat.le_trans hsw HB6.out.size; clear hb6))
          all_goals
            have HO2 : Hid (Own w7 wo.heap.size v7 (rowT (muK p K) k (j + 1))) := Lib.hid (by
              have h := HO7.out
              unfold Own
              rw [HRS.out, List.map_append, List.length_append]
              exact h)
            clear HO7 HOW HBW
            go_wp2_with fail
            go_roundw
            case rel => exact ⟨j + 1, by omega, by go_num, HO2.out, HB7.out⟩
            case measure => simp [intOf]; omega
        · obtain rfl : j = m := by omega
          have hne : rowT (muK p K) k j ≠ [] := fun e => by rw [e] at hrl; simp at hrl; omega
          obtain ⟨g1, c1, e1⟩ := own_some HOW.out hne
          subst e1
          have HWA := Lib.hid (HWD.out.below HBW.out)
          have HOB := Lib.hid (World.ownsRow.mono HOW.out hsr)
          have HBA : Hid (Below w.heap.size w wr) := Lib.hid (HBR.out.trans (HBW.out.mono hsr))
          have HTS := Lib.hid (tabT_succ (muK p K) j k)
          have htl := tabT_len (muK p K) j k
          obtain ⟨va, capa, hva⟩ := HWA.out.form
          subst hva
          have HGT : Hid (∀ r, (Value.slice va (tabT (muK p K) j k).length capa).ownBlock = some r → w.heap.size ≤ r) := Lib.hid fun r e => (HWA.out.own.lt r e).1
          have hwz : w.heap.size ≤ wr.heap.size := by omega
          clear HOW HWD HBR HBW hne
          generalize rowT (muK p K) k j = R0 at *
          generalize tabT (muK p K) j k = T0 at *
          go_wp2_with (at_builtin; (refine wpList_appW2 rfl _ _ rfl w.heap.size (.slice va T0.length capa) T0.length us (by first | rfl | (rw [htl]; rfl)) ((HWA.out.below ((Below.refl _ _).alloc (Nat.le_refl _) _)).own) _ 1 (.slice (some ⟨g1, 0, none⟩) R0.length c1) rfl (by first | rfl | (rw [hrl]; rfl)) (by first | exact halloc_at _ _ _ rfl | (rw [hrl]; exact halloc_at _ _ _ rfl)) (by omega) (by simp; omega) ?_; intro v7 w7 hown7 hg7 _; have HWN := Lib.hid (wds_app (g := g1) (c := c1) (L := R0) (HWA.out.below ((Below.refl _ _).alloc (Nat.le_refl _) _)) (own_bel HOB.out ((Below.refl _ _).alloc (Nat.le_refl _) _)) hown7 hg7); have HB7 : Hid (Below w.heap.size w w7) := Lib.hid (Below.grown (HBA.out.alloc hwz _) hg7 (by simp; omega) (fun q e => HGT.out q e)); clear hown7 hg7))
          go_wp2_with fail
          go_roundw
          case rel => exact ⟨k + 1, _, by omega, by go_num, by rw [HTS.out]; exact HWN.out, HB7.out⟩
          case measure => simp [intOf]; omega
    · obtain rfl : k = m := by omega
      obtain ⟨va, capa, hva⟩ := HWD.out.form
      subst hva
      go_wp2_with fail
      go_ret
      exact ⟨va, capa, us, rfl, HWD.out, HBR.out⟩

end Go.Proofs.Ytdgdcpcfjdnlcaa

namespace Go.Proofs.Ytdgdcpcfjdnlcaa
open Go.RowKit

/-- The code of a list whose monoid may have so many elements. -/
noncomputable def tC (most : Nat) (L : List MapN) : Int := if elsC L [] = 0 then (if most < (elsK L).length then 3 else 0) else elsC L []

theorem tC_bad {most : Nat} {L : List MapN} (h : elsC L [] ≠ 0) : tC most L = elsC L [] := by unfold tC; rw [if_neg h]
theorem tC_big {most : Nat} {L : List MapN} (h : elsC L [] = 0) (h2 : most < (elsK L).length) : tC most L = 3 := by unfold tC; rw [if_pos h, if_pos h2]
theorem tC_0 {most : Nat} {L : List MapN} (h : elsC L [] = 0) (h2 : ¬ most < (elsK L).length) : tC most L = 0 := by unfold tC; rw [if_pos h, if_neg h2]

/-- What is left: the code, or the table. -/
def RetTab (most : Nat) (L : List MapN) (w : World) (e : Ending) (w' : World) : Prop :=
  Below w.heap.size w w' ∧ ((tC most L ≠ 0 ∧ e = .returned (.tuple #[.slice none 0 0, .int .i64 (tC most L)])) ∨
    (tC most L = 0 ∧ Mon (fst0 L) (elsK L) ∧ (elsK L).length ≤ most ∧ ∃ a cap, e = .returned (.tuple #[.slice a (elsK L).length cap, .int .i64 0]) ∧ Tb w' w'.heap.size a (elsK L).length (muK (fst0 L) (elsK L))))

theorem mon_pos {p : Int} {K : List Nat} (h : Mon p K) : 1 ≤ K.length := List.length_pos_of_mem h.one

set_option maxRecDepth 100000 in
set_option maxHeartbeats 2000000 in
theorem sgvn_any (most : Nat) (_hmost : most ≤ 300) (a : Option Addr) (c : Nat) (L : List MapN) (hl : L.length ≤ 1048576) (w : World) (hr : InRowM w a L) :
    Calls Try.prog 67 #[.slice a L.length c, .int .i64 (most : Int)] w (RetTab most L w) := by
  have HS := Lib.hid (sels_any a none c 0 L [] hl (by simp) w hr (Or.inl rfl))
  clear hr
  by_cases hc : elsC L [] = 0
  · have hmon := mon_els hc
    have hll : elsL L [] = mE (fst0 L) (elsK L) := by unfold elsL; rw [if_pos hc]
    have hHS := HS.out
    rw [hll, hc] at hHS
    have HS := Lib.hid hHS
    have hm3 := hmon.le
    have hm1 := mon_pos hmon
    have hml := mE_len (fst0 L) (elsK L)
    clear hHS hll
    by_cases h2 : most < (elsK L).length
    · have e3 := tC_big hc h2
      have HE := Lib.hid e3
      have h2' : (most : Int) < ((elsK L).length : Int) := by omega
      clear hmon hc e3
      generalize elsK L = K at *
      generalize hp : fst0 L = p at *
      clear hp
      go_enter Try.func67, Try.ntmps67
      go_wp2_with fail
      refine HS.out.mono ?_
      rintro e w1 ⟨a1, c1, rfl, hrd, hb⟩
      have HB := Lib.hid hb
      clear hrd hb
      rw [hml]
      go_wp2_with fail
      go_ret2
      exact ⟨HB.out, Or.inl ⟨by rw [HE.out]; decide, by rw [HE.out]; rfl⟩⟩
    · unfold RetTab
      have e0 := tC_0 hc h2
      have HE := Lib.hid e0
      have h2' : ((elsK L).length : Int) ≤ (most : Int) := by omega
      have HMO := Lib.hid hmon
      have HT := Lib.hid fun a cap w h => stable_any hmon a cap w h
      clear hmon hc e0
      generalize elsK L = K at *
      generalize fst0 L = p at *
      go_enter Try.func67, Try.ntmps67
      go_wp2_with fail
      refine HS.out.mono ?_
      rintro e w1 ⟨a1, c1, rfl, hrd, hb⟩
      have HB := Lib.hid hb
      have HR := Lib.hid hrd.inRow
      have hsz := hb.size
      clear hrd hb
      rw [hml]
      go_wp2_with fail
      refine (HT.out _ _ _ HR.out).mono ?_
      rintro e w2 ⟨a2, c2, us, rfl, hwd, hb⟩
      have HB2 : Hid (Below w.heap.size w w2) := Lib.hid (HB.out.trans (hb.mono hsz))
      have hlen := tabT_len (muK p K) K.length K.length
      rw [hlen] at hwd
      have HTB := Lib.hid (tb_of hm1 (by omega) hwd)
      clear hwd hb
      rw [hlen]
      go_wp2_with fail
      go_ret2
      exact ⟨HB2.out, Or.inr ⟨HE.out, HMO.out, by omega, a2, c2, rfl, HTB.out⟩⟩
  · have e1 := tC_bad (most := most) hc
    have HE := Lib.hid e1
    have hne : (elsC L [] != 0) = true := by simpa using hc
    have HC := Lib.hid hc
    have hll : elsL L [] = [] := by unfold elsL; rw [if_neg hc]
    have hHS := HS.out
    rw [hll] at hHS
    have HS := Lib.hid hHS
    clear hHS hll e1 hc
    generalize hce : elsC L [] = C at *
    clear hce
    go_enter Try.func67, Try.ntmps67
    go_wp2_with fail
    refine HS.out.mono ?_
    rintro e w1 ⟨a1, c1, rfl, hrd, hb⟩
    have HB := Lib.hid hb
    clear hrd hb
    go_wp2_with fail
    go_ret2
    exact ⟨HB.out, Or.inl ⟨by rw [HE.out]; exact HC.out, by rw [HE.out]; rfl⟩⟩

end Go.Proofs.Ytdgdcpcfjdnlcaa

namespace Go.Proofs.Ytdgdcpcfjdnlcaa
open Go.RowKit Go.Maps

/-- The map behind k rounds. -/
def nD (p : Int) (K : List Nat) : Nat → DataW Unit
  | 0 => .map []
  | k + 1 => (nD p K k).put (kyL p (dcd (K.getD k 0))) (.lit (.int .i64 k))

theorem nD_tidy {p : Int} {K : List Nat} (hv : ∀ c ∈ K, vld p c) : ∀ k, k ≤ K.length → Tidy (nD p K k)
  | 0, _ => tidy_empty
  | k + 1, h => (nD_tidy hv k (by omega)).put (kyL_key (hv _ (getD_mem (by omega))).2) _

theorem srtd_lt {K : List Nat} (hs : srtd K) {i j : Nat} (hij : i < j) (hj : j < K.length) : K.getD i 0 < K.getD j 0 := by
  unfold srtd at hs
  rw [List.getD_eq_getElem?_getD, List.getD_eq_getElem?_getD, List.getElem?_eq_getElem hj, List.getElem?_eq_getElem (by omega)]
  exact List.pairwise_iff_getElem.1 hs i j (by omega) hj hij

theorem at_nD {p : Int} {K : List Nat} (hv : ∀ c ∈ K, vld p c) (hs : srtd K) (z : DataW Unit) (b : Nat) : ∀ k, k ≤ K.length → b < k → (nD p K k).atKey (kyL p (dcd (K.getD b 0))) z = .lit (.int .i64 b)
  | 0, _, h => by omega
  | k + 1, hk, hb => by
    show ((nD p K k).put _ _).atKey _ _ = _
    by_cases e : b = k
    · subst e; rw [atKey_put_same (nD_tidy hv b (by omega)).isMap (kyL_key (hv _ (getD_mem (by omega))).2)]
    · have hlt := srtd_lt hs (i := b) (j := k) (by omega) (by omega)
      rw [atKey_put_other (ky_num (hv _ (getD_mem (by omega))) (hv _ (getD_mem (by omega))) (by omega))]
      exact at_nD hv hs z b k (by omega) (by omega)

theorem at_nD_mem {p : Int} {K : List Nat} (hv : ∀ c ∈ K, vld p c) (hs : srtd K) (z : DataW Unit) {c : Nat} (hc : c ∈ K) : (nD p K K.length).atKey (kyL p (dcd c)) z = .lit (.int .i64 (lowN K c : Nat)) := by
  obtain ⟨h1, h2⟩ := (low_found hs c).1 hc
  have := at_nD hv hs z (lowN K c) K.length (Nat.le_refl _) h1
  rw [h2] at this
  exact this

/-- What impl.numbersOf leaves. -/
def RetNum (p : Int) (K : List Nat) (w : World) (e : Ending) (w' : World) : Prop :=
  ∃ b, e = .returned (.map (some b)) ∧ w'.ownsMap Try.prog 28 (plainElem Try.prog 2) b K.length (nD p K K.length) ∧ Below w.heap.size w w'

set_option maxRecDepth 100000 in
set_option maxHeartbeats 2000000 in
theorem numOf_any {p : Int} {K : List Nat} (hmon : Mon p K) (a : Option Addr) (cap : Nat) (w : World) (hr : InRowM w a (mE p K)) :
    Calls Try.prog 83 #[.slice a K.length cap] w (RetNum p K w) := by
  have hm3 := hmon.le
  have HMO := Lib.hid hmon
  have HR := Lib.hid hr
  have hmm := @run_makeMap Try.prog
  clear hr hmon
  obtain ⟨m, hm⟩ : ∃ m, m = K.length := ⟨_, rfl⟩
  unfold RetNum
  rw [← hm] at hm3 ⊢
  have HM := Lib.hid hm
  clear hm
  go_enter Try.func83, Try.ntmps83
  go_wp2_with fail
  clear hmm
  go_loopw [4, 5, 9] (fun _ _ i wr => ∃ k : Nat, k ≤ m ∧ i = .int .i64 k ∧ wr.ownsMap Try.prog 28 (plainElem Try.prog 2) w.heap.size k (nD p K k) ∧ Below w.heap.size w wr) (fun _ _ i _ => m - (intOf i).toNat)
  case atStart => exact ⟨0, by omega, rfl, World.ownsMap_made _ _ _ _, (Below.refl _ _).alloc (Nat.le_refl _) _⟩
  case round =>
    obtain ⟨k, hk, rfl, hmap, hb⟩ := hrel
    have HB := Lib.hid hb
    have HMAP := Lib.hid hmap
    have hsz := hb.size
    by_cases hkm : k < m
    · have hkm' : (k : Int) < (m : Int) := by omega
      have hKl : K.length = m := HM.out.symm
      obtain ⟨b1, o1, rfl, hl1, hat⟩ := (HR.out.below hb).resolve_left (fun e => by have := congrArg List.length e; rw [mE_len, hKl] at this; simp at this; omega)
      have hat1 := hat k (by rw [mE_len, hKl]; exact hkm)
      rw [mE_at _ _ _ (by omega)] at hat1
      obtain ⟨x0, x1, x2, x3, x4, x5⟩ := hat1
      simp only [] at x0 x1 x2 x3 x4 x5
      have hv1 := HMO.out.vl _ (getD_mem (K := K) (i := k) (by omega))
      have hkey := key_of hv1.2
      have hwf : (Lit.int .i64 (k : Int)).wf = true := WalkArith.wf_i64 (by omega)
      have HND : Hid (nD p K (k + 1) = (nD p K k).put (kyL p (dcd (K.getD k 0))) (.lit (.int .i64 k))) := Lib.hid rfl
      clear hat hb hmap hv1
      generalize K.getD k 0 = A1 at *
      generalize nD p K k = D at *
      simp only [mv, mcells] at hkey
      go_wp2_with (at_mapUpdate; refine wpList_mapUpdate_own _ rfl _ _ _ 106 rfl 28 2 lawM Try.underlying106 _ w.heap.size k _ rfl ((HMAP.out : wr.ownsMap _ _ _ _ _ _).alloc _) (by unfold maxLen; omega) _ _ _ rfl rfl hkey _ [] (plainElem_int Try.underlying2 hwf) ?_; intro w1 hmap1 hgrow1; have HM1 := Lib.hid hmap1; have HB1 : Hid (Below w.heap.size w w1) := Lib.hid ((HB.out.alloc hsz _).grown hgrow1 (by simp; omega) (fun j hj => by cases hj; omega)); clear hmap1 hgrow1)
      go_roundw
      case rel => exact ⟨k + 1, by omega, by go_num, by rw [HND.out]; exact HM1.out, HB1.out⟩
      case measure => simp [intOf]; omega
    · obtain rfl : k = m := by omega
      clear hb hmap
      go_wp2_with fail
      go_ret
      exact ⟨_, rfl, HMAP.out, HB.out⟩

theorem iprod_num {p : Int} {a b : Nat} (ha : vld p a) (hb : vld p b) (w : World) :
    Calls Try.prog 84 #[mv p (dcd a), mv p (dcd b)] w fun e w' => e = .returned (mv p (dcd (mulC p a b))) ∧ Below w.heap.size w w' := by
  refine (product_any p (dcd a) (dcd b) ha.2 hb.2 w).mono ?_
  rintro e w' ⟨rfl, h⟩
  refine ⟨?_, h⟩
  unfold mv
  rw [mulC_cells ha hb]

/-- append of a row onto a table of the call's own. -/
theorem wpList_appT {ops : Array Oper} {rest : List Oper} {o : Oper} {ac : Act} {Q : Exit → Act → World → Prop} {w : World} (hgd : o.guard = none) (s x : Operand)
    (ho : o.op = .call { callee := .builtin .append, args := #[s, x], argTypes := #[57, 57] })
    (base : Nat) (v : Value) (n : Nat) (us : List Value) (hs : ac.eval s = v) (hown : w.ownsRow base 25 1 v n us) (b c : Nat) (u : Value) (hu : u.oneCell' = true) (hx : ac.eval x = .slice (some ⟨b, 0, none⟩) 1 c) (hb : w.heap[b]? = some (.cells #[u] 25 (0, 0)))
    (hlen : n ≤ 1000000) (hbase : base ≤ w.heap.size)
    (h : ∀ v' w', w'.ownsRow base 25 1 v' (n + 1) (us ++ [u]) → w.grownBy w' v.ownBlock → (v'.ownBlock = v.ownBlock ∨ v'.ownBlock = some w.heap.size) → wpList Try.prog ops Q rest (ac.put o.dst v') w') : wpList Try.prog ops Q (o :: rest) ac w := by
  obtain ⟨i0, hi, hz0, hz1, hz2⟩ := info_parts info_row
  refine wpList_append_own_at w hgd s x _ ho base 25 i0 _ 1 24 Try.underlying57 hi hz0 hz1 hz2 rfl (by decide) v n us hs hown ⟨b, 0, none⟩ 1 c [u] hx rfl (cell_one_blk hb) (fun z hz => by rw [List.mem_singleton.1 hz]; exact hu) (by unfold maxLen; omega) (by omega) hbase ?_
  intro v' w' h1 h2 _ h4
  exact h v' w' h1 h2 h4

theorem wds_none (w : World) (B : Nat) : Wds w B (.slice none 0 0) [] [] := ⟨World.ownsRow_nil _ _ _ _, fun j hj => by simp at hj⟩

set_option maxRecDepth 100000 in
set_option maxHeartbeats 4000000 in
theorem ita_any (most : Nat) (_hmost : most ≤ 300) (a : Option Addr) (c : Nat) (hc0 : a = none → c = 0) (L : List MapN) (hl : L.length ≤ 1048576) (w : World) (hr : InRowM w a L) :
    Calls Try.prog 69 #[.int .i64 (most : Int), .slice a L.length c] w (RetTab most L w) := by
  have HS := Lib.hid (mono_any a none c 0 L [] hc0 (fun _ => rfl) hl (by simp) w hr (Or.inl rfl))
  clear hr hc0
  by_cases hc : elsC L [] = 0
  · have hmon := mon_els hc
    have hHS := HS.out
    unfold RetMono at hHS
    have hHS2 : Calls Try.prog 82 #[.slice a L.length c, .slice none ([] : List MapN).length 0] w (fun e w' => Below w.heap.size w w' ∧ ∃ gE cE b, e = .returned (.tuple #[.agg #[.slice (some ⟨gE, 0, none⟩) (elsK L).length cE, .map (some b)], .int .i64 0]) ∧ PutRow w' w.heap.size gE cE (mE (fst0 L) (elsK L))) :=
      hHS.mono fun e w' h => by
        rcases h.2 with ⟨h1, _⟩ | ⟨_, _, gE, cE, b, l, e1, hp, _⟩
        · exact absurd hc h1
        · exact ⟨h.1, gE, cE, b, e1, hp⟩
    have HS := Lib.hid hHS2
    have hm3 := hmon.le
    have hm1 := mon_pos hmon
    clear hHS hHS2
    by_cases h2 : most < (elsK L).length
    · have e3 := tC_big hc h2
      have HE := Lib.hid e3
      have h2' : (most : Int) < ((elsK L).length : Int) := by omega
      clear hmon hc e3
      generalize elsK L = K at *
      generalize hp : fst0 L = p at *
      clear hp
      go_enter Try.func69, Try.ntmps69
      go_wp2_with fail
      refine HS.out.mono ?_
      rintro e w1 ⟨hb, gE, cE, b, rfl, hput⟩
      have HB := Lib.hid hb
      have hsz := hb.size
      clear hput hb
      go_wp2_with fail
      go_ret2
      exact ⟨HB.out.alloc hsz _, Or.inl ⟨by rw [HE.out]; decide, by rw [HE.out]; rfl⟩⟩
    · have e0 := tC_0 hc h2
      unfold RetTab
      have HE := Lib.hid e0
      have h2' : ((elsK L).length : Int) ≤ (most : Int) := by omega
      have HMO := Lib.hid hmon
      have HNU := Lib.hid fun a cap w h => numOf_any hmon a cap w h
      obtain ⟨i0, hi, hz0, hz1, hz2⟩ := info_parts info_int
      clear hmon hc e0
      generalize elsK L = K at *
      generalize fst0 L = p at *
      go_enter Try.func69, Try.ntmps69
      go_wp2_with fail
      refine HS.out.mono ?_
      rintro e w1 ⟨hb, gE, cE, b, rfl, hput⟩
      have HB := Lib.hid hb
      have hsz := hb.size
      have hba : Below w1.heap.size w1 (w1.alloc (.cells #[.slice (some ⟨gE, 0, none⟩) K.length cE, .map (some b)] 103)) := (Below.refl _ _).alloc (Nat.le_refl _) _
      have HR := Lib.hid (hput.inRow.below hba)
      have hmx := halloc_at w1 (.cells #[.slice (some ⟨gE, 0, none⟩) K.length cE, .map (some b)] 103) _ rfl
      have HMX := Lib.hid hmx
      have HBA : Hid (Below w.heap.size w (w1.alloc (.cells #[.slice (some ⟨gE, 0, none⟩) K.length cE, .map (some b)] 103))) := Lib.hid (hb.alloc hsz _)
      clear hput hb hba hmx
      go_wp2_with fail
      refine (HNU.out _ _ _ HR.out).mono ?_
      rintro e w2 ⟨bN, rfl, hmap, hb⟩
      generalize w1.alloc (.cells #[.slice (some ⟨gE, 0, none⟩) K.length cE, .map (some b)] 103) = wz at *
      have hsx : w1.heap.size < wz.heap.size := (Array.getElem?_eq_some_iff.1 HMX.out).1
      have HR2 := Lib.hid (HR.out.below hb)
      have HX2 := Lib.hid ((hb.block _ hsx).trans HMX.out)
      have hs2 := hb.size
      have HB2 : Hid (Below w.heap.size w w2) := Lib.hid (HBA.out.trans (hb.mono HBA.out.size))
      have HMAP := Lib.hid hmap
      have hsw2 : w.heap.size ≤ w2.heap.size := HB2.out.size
      have hbs : w1.heap.size < w2.heap.size := by omega
      have c0 := Joins.cell_of_block HX2.out 0
      simp only [List.getElem?_toArray, List.getElem?_cons_zero] at c0
      clear hb hmap HR HMX HBA HB
      go_wp2_with fail
      go_loopw [9, 11, 12, 14, 34, 41] (fun v _ _ _ i _ wr => ∃ (k : Nat) (us : List Value), k ≤ K.length ∧ i = .int .i64 k ∧ Wds wr w2.heap.size v us (tabT (muK p K) K.length k) ∧ Below w2.heap.size w2 wr) (fun _ _ _ _ i _ _ => K.length - (intOf i).toNat)
      case atStart => exact ⟨0, [], by omega, rfl, wds_none _ _, Below.refl _ _⟩
      case round =>
        obtain ⟨k, us, hk, rfl, hwd, hb⟩ := hrel
        have HWD := Lib.hid hwd
        have HBR := Lib.hid hb
        have hsr := hb.size
        clear hwd
        by_cases hkm : k < K.length
        · have hkm' : (k : Int) < (K.length : Int) := by omega
          obtain ⟨b1, o1, eb, hl1, hat⟩ := (HR2.out.below hb).resolve_left (fun e => by have := congrArg List.length e; rw [mE_len, List.length_nil] at this; omega)
          have hat1 := hat k (by rw [mE_len]; exact hkm)
          rw [mE_at _ _ _ hkm] at hat1
          injection eb with eb
          injection eb with eb1 eb2
          subst eb1 eb2
          obtain ⟨x0, x1, x2, x3, x4, x5⟩ := hat1
          simp only [Nat.zero_add] at x0 x1 x2 x3 x4 x5
          have d0 := (hb.cell (p := ⟨w1.heap.size, 0, none⟩) hbs).trans c0
          have hv1 := HMO.out.vl _ (getD_mem hkm)
          have HV1 := Lib.hid hv1
          have HA1 : Hid (∃ A, A = K.getD k 0) := Lib.hid ⟨_, rfl⟩
          obtain ⟨A1, hA1⟩ := HA1.out
          rw [← hA1] at x1 x2 x3 x4 x5 HV1
          have HAE := Lib.hid hA1
          obtain ⟨wo, hwo⟩ : ∃ wo, wo = wr := ⟨_, rfl⟩
          subst hwo
          have hbo : w1.heap.size < wo.heap.size := by omega
          clear hat hb hv1 hA1 HA1
          go_wp2_with fail
          obtain ⟨wa, hwa⟩ : ∃ wa, wa = wo.alloc (.cells (mcells p (dcd A1)) 28) := ⟨_, rfl⟩
          have HBA : Hid (Below wo.heap.size wo wa) := Lib.hid (by rw [hwa]; exact (Below.refl _ _).alloc (Nat.le_refl _) _)
          have hsa : wa.heap.size = wo.heap.size + 1 := by rw [hwa]; simp
          have HXA : Hid (wa.heap[wo.heap.size]? = some (.cells (mcells p (dcd A1)) 28 (0, 0))) := Lib.hid (by rw [hwa]; exact halloc_at _ _ _ rfl)
          simp only [mcells] at hwa
          rw [← hwa]
          clear hwa
          go_loopw [12, 14, 41] (fun v12 _ i wr => ∃ j : Nat, j ≤ K.length ∧ i = .int .i64 j ∧ Own wr wa.heap.size v12 (rowT (muK p K) k j) ∧ Below wa.heap.size wa wr) (fun _ _ i _ => K.length - (intOf i).toNat)
          case atStart => exact ⟨0, by omega, rfl, World.ownsRow_nil _ _ _ _, Below.refl _ _⟩
          case round =>
            clear x0 x1 x2 x3 x4 x5 d0
            obtain ⟨j, hj, rfl, hown, hbw⟩ := hrel
            have HOW := Lib.hid hown
            have HBW := Lib.hid hbw
            have hsw := hbw.size
            have hrl := rowT_len (muK p K) k j
            have HBO : Hid (Below wo.heap.size wo wr) := Lib.hid (HBA.out.trans (hbw.mono (by omega)))
            have HBZ : Hid (Below w2.heap.size w2 wr) := Lib.hid (HBR.out.trans (HBO.out.mono hsr))
            have HX5 := Lib.hid ((hbw.block wo.heap.size (by omega)).trans HXA.out)
            have HMW : Hid (wr.ownsMap Try.prog 28 (plainElem Try.prog 2) bN K.length (nD p K K.length)) := Lib.hid (HMAP.out.kept (row := none) ⟨HBZ.out.os, HBZ.out.tape, HBZ.out.output, HBZ.out.size, fun j hj _ => HBZ.out.block j hj⟩ (by simp))
            have hwx : wo.heap.size < wr.heap.size := by omega
            clear hown hbw
            by_cases hjm : j < K.length
            · have hjm' : (j : Int) < (K.length : Int) := by omega
              obtain ⟨b1, o1, eb, hl1, hat⟩ := (HR2.out.below HBZ.out).resolve_left (fun e => by have := congrArg List.length e; rw [mE_len, List.length_nil] at this; omega)
              have hat2 := hat j (by rw [mE_len]; exact hjm)
              rw [mE_at _ _ _ hjm] at hat2
              injection eb with eb
              injection eb with eb1 eb2
              subst eb1 eb2
              obtain ⟨x0, x1, x2, x3, x4, x5⟩ := hat2
              simp only [Nat.zero_add] at x0 x1 x2 x3 x4 x5
              obtain ⟨y0, y1, y2, y3, y4, y5⟩ := blk6 HX5.out
              have hv2 := HMO.out.vl _ (getD_mem hjm)
              have hmem := muK_mem HMO.out hkm hjm
              rw [← HAE.out] at hmem
              have hP := fun w => iprod_num HV1.out hv2 w
              have hkey := key_of (HMO.out.vl _ hmem).2
              have HAT : Hid (∀ z, (nD p K K.length).atKey (kyL p (dcd (mulC p A1 (K.getD j 0)))) z = .lit (.int .i64 (muK p K k j : Nat))) := Lib.hid fun z => by
                have := at_nD_mem HMO.out.vl HMO.out.srt z hmem
                rw [this, HAE.out]; rfl
              have HRS : Hid (rowT (muK p K) k (j + 1) = rowT (muK p K) k j ++ [(muK p K k j : Int)]) := Lib.hid (rowT_succ _ _ _)
              clear hat hv2 hmem
              generalize muK p K k j = V at *
              generalize K.getD j 0 = A2 at *
              generalize mulC p A1 A2 = A3 at *
              generalize rowT (muK p K) k j = R0 at *
              generalize hD : nD p K K.length = D at *
              clear hD
              simp only [mv, mcells] at hP hkey
              have HPR := Lib.hid hP
              clear hP
              go_wp2_with fail
              refine (HPR.out _).mono ?_
              rintro e w3 ⟨rfl, hb3⟩
              have HB3 : Hid (Below wr.heap.size wr w3) := Lib.hid (((Below.refl _ _).alloc (Nat.le_refl _) _).trans (hb3.mono (by simp)))
              have hs3 := HB3.out.size
              have HO3 := Lib.hid (own_bel HOW.out HB3.out)
              have HM3 : Hid (w3.ownsMap Try.prog 28 (plainElem Try.prog 2) bN K.length D) := Lib.hid (HMW.out.kept (row := none) ⟨HB3.out.os, HB3.out.tape, HB3.out.output, HB3.out.size, fun j hj _ => HB3.out.block j hj⟩ (by simp))
              clear hb3 x0 x1 x2 x3 x4 x5 y0 y1 y2 y3 y4 y5
              go_wp2_with (first
                | (at_lookup; refine wpList_lookup_own_int _ rfl _ _ 106 rfl 28 2 .i64 lawM Try.underlying106 Try.underlying2 (zeroI _) bN K.length _ rfl HM3.out _ _ rfl hkey ?_; intro x hat hwc)
                | (at_builtin; refine wpList_append_own _ rfl _ _ 25 rfl wa.heap.size 2 i0 (.int .i64 0) 1 8 Try.underlying25 hi hz0 hz1 hz2 rfl (by decide) _ _ _ rfl ((HO3.out : w3.ownsRow _ _ _ _ _ _).alloc _) ⟨w3.heap.size, 0, none⟩ 1 1 [.int .i64 x] rfl rfl (cell_one_new _ _ _) (ints_oneCell .i64 [x]) (by unfold maxLen; omega) (by omega) (by simp; omega) ?_; intro v' w4 hown4 hgrow4 _))
              have hx : x = (V : Int) := by
                rw [HAT.out] at hat
                injection hat with hat
                injection hat with _ hat
                exact hat.symm
              have HO4 : Hid (Own w4 wa.heap.size v' (rowT (muK p K) k (j + 1))) := Lib.hid (by
                unfold Own
                rw [HRS.out, ← hx, List.map_append, List.length_append]
                exact hown4)
              have HB4 : Hid (Below wa.heap.size wa w4) := Lib.hid (((HBW.out.trans (HB3.out.mono hsw)).alloc (by omega) _).grown hgrow4 (by simp; omega) (fun r e => (HO3.out.lt r e).1))
              clear hown4 hgrow4 hat hwc hx
              go_roundw
              case rel => exact ⟨j + 1, by omega, by go_num, HO4.out, HB4.out⟩
              case measure => simp [intOf]; omega
            · obtain rfl : j = K.length := by omega
              have hne : rowT (muK p K) k K.length ≠ [] := fun e => by rw [e] at hrl; simp at hrl; omega
              obtain ⟨g1, c1, e1⟩ := own_some HOW.out hne
              subst e1
              have HWA := Lib.hid (HWD.out.below HBO.out)
              have hs9 : w2.heap.size ≤ wa.heap.size := by omega
              have HOB := Lib.hid (World.ownsRow.mono HOW.out hs9)
              have HTS := Lib.hid (tabT_succ (muK p K) K.length k)
              have htl := tabT_len (muK p K) K.length k
              obtain ⟨va, capa, hva⟩ := HWA.out.form
              subst hva
              have HGT : Hid (∀ r, (Value.slice va (tabT (muK p K) K.length k).length capa).ownBlock = some r → w2.heap.size ≤ r) := Lib.hid fun r e => (HWA.out.own.lt r e).1
              have hwz : w2.heap.size ≤ wr.heap.size := by omega
              clear HOW HWD HBR HBW hne
              generalize rowT (muK p K) k K.length = R0 at *
              generalize tabT (muK p K) K.length k = T0 at *
              go_wp2_with (at_builtin; (refine wpList_appT rfl _ _ rfl w2.heap.size (.slice va T0.length capa) T0.length us (by first | rfl | (rw [htl]; rfl)) ((HWA.out.below ((Below.refl _ _).alloc (Nat.le_refl _) _)).own) _ 1 (.slice (some ⟨g1, 0, none⟩) R0.length c1) rfl (by first | rfl | (rw [hrl]; rfl)) (by first | exact halloc_at _ _ _ rfl | (rw [hrl]; exact halloc_at _ _ _ rfl)) (by omega) (by simp; omega) ?_; intro v7 w7 hown7 hg7 _; have HWN := Lib.hid (wds_app (g := g1) (c := c1) (L := R0) (HWA.out.below ((Below.refl _ _).alloc (Nat.le_refl _) _)) (own_bel HOB.out ((Below.refl _ _).alloc (Nat.le_refl _) _)) hown7 hg7); have HB7 : Hid (Below w2.heap.size w2 w7) := Lib.hid (Below.grown (HBZ.out.alloc hwz _) hg7 (by simp; omega) (fun q e => HGT.out q e)); clear hown7 hg7))
              go_wp2_with fail
              go_roundw
              case rel => exact ⟨k + 1, _, by omega, by go_num, by rw [HTS.out]; exact HWN.out, HB7.out⟩
              case measure => simp [intOf]; omega
        · obtain rfl : k = K.length := by omega
          obtain ⟨va, capa, hva⟩ := HWD.out.form
          have hlen := tabT_len (muK p K) K.length K.length
          rw [hlen] at hva
          subst hva
          clear hb
          go_wp2_with fail
          go_ret2
          exact ⟨HB2.out.trans (HBR.out.mono hsw2), Or.inr ⟨HE.out, HMO.out, by omega, va, capa, rfl, tb_of hm1 (by omega) HWD.out⟩⟩
  · have e1 := tC_bad (most := most) hc
    have HE := Lib.hid e1
    have hne : (elsC L [] != 0) = true := by simpa using hc
    have HC := Lib.hid hc
    have hHS := HS.out
    unfold RetMono at hHS
    have hHS2 : Calls Try.prog 82 #[.slice a L.length c, .slice none ([] : List MapN).length 0] w (fun e w' => Below w.heap.size w w' ∧ e = .returned (.tuple #[.agg #[.slice none 0 0, .map none], .int .i64 (elsC L [])])) :=
      hHS.mono fun e w' h => by
        rcases h.2 with ⟨h1, h2⟩ | ⟨h1, _⟩
        · exact ⟨h.1, h2⟩
        · exact absurd h1 hc
    have HS := Lib.hid hHS2
    clear hHS hHS2 e1 hc
    generalize hce : elsC L [] = C at *
    clear hce
    go_enter Try.func69, Try.ntmps69
    go_wp2_with fail
    refine HS.out.mono ?_
    rintro e w1 ⟨hb, rfl⟩
    have HB := Lib.hid hb
    have hsz := hb.size
    clear hb
    go_wp2_with fail
    go_ret2
    exact ⟨HB.out.alloc hsz _, Or.inl ⟨by rw [HE.out]; exact HC.out, by rw [HE.out]; rfl⟩⟩

end Go.Proofs.Ytdgdcpcfjdnlcaa
