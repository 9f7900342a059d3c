/- Tables of products of a monoid's elements, by their numbers; the contracts of spec.l06Table and spec.l06Given. The contract of spec.l06Given: the table of products of a list's monoid, or the code. The numbers of a monoid's elements as a map, told as a datum; the contracts of impl.numbersOf and impl.tableOfAtMost. -/
import Derived.Test.YtoagpklippdlmaaTb
import Derived.Test.YtoagpklippdlmaaTby
import Derived.Test.YtoagpklippdlmaaRdt
import Derived.Test.YtoagpklippdlmaaIdl
import Derived.Test.YtoagpklippdlmaaParts
import Derived.Deep.RegionLaw
import Derived.Test.YtoagpklippdlmaaMono
import Derived.Test.YtoagpklippdlmaaWdm
import Derived.Test.YtoagpklippdlmaaCg
import Derived.Maps.AppendAt
namespace Go.Proofs.Ytoagpklippdlmaa
open Go.RowKit

/-- The number of the product of two elements. -/
def muK (p : Int) (K : List Nat) (i j : Nat) : Nat := lowN K (mulC p (K.getD i 0) (K.getD j 0))

theorem muK_mem {p : Int} {K : List Nat} (h : Mon p K) {i j : Nat} (hi : i < K.length) (hj : j < K.length) : mulC p (K.getD i 0) (K.getD j 0) ∈ K := h.mul _ (getD_mem hi) _ (getD_mem hj)

theorem muK_lt {p : Int} {K : List Nat} (h : Mon p K) (i j : Nat) (hi : i < K.length) (hj : j < K.length) : muK p K i j < K.length := ((low_found h.srt _).1 (muK_mem h hi hj)).1

/-- The products of the numbers as Go's numbers. -/
def muI (p : Int) (K : List Nat) (i j : Nat) : Int := (muK p K i j : Int)

theorem tb_of {w : World} {B C : Nat} {a : Option Addr} {m : Nat} {mu : Nat → Nat → Nat} {f : Nat → Nat → Int} (h1 : 1 ≤ m) (hf : ∀ i j, f i j = (mu i j : Int)) (h : RdT w B C a (tbL f m m)) : Tb w w.heap.size a m mu := by
  have hl := tbL_len f m m
  rcases h.rows with h0 | ⟨g, gr, ro, ha, hB, hg, _, hc⟩
  · rw [h0] at hl; simp at hl; omega
  · refine ⟨Nat.le_refl _, g, ha, Nat.lt_of_lt_of_le hg h.top, fun i hi => ?_⟩
    obtain ⟨⟨ar, c, q1, q2⟩, _, q3⟩ := hc i (by omega)
    rw [tbL_at f m m i hi, rwL_len] at q1
    rw [tbL_at f m m i hi] at q2 q3
    rcases q2 with q2 | ⟨q2, _, _, q4⟩
    · have := congrArg List.length q2
      rw [rwL_len] at this
      simp at this
      omega
    · refine ⟨gr i, ro i, c, Nat.lt_of_lt_of_le q4 h.top, by rw [q1, q2], fun j hj => ?_⟩
      have := (q3 j (by rw [rwL_len]; exact hj)).1
      rw [rwL_at f i m j hj, hf] at this
      exact this

set_option maxRecDepth 100000 in
set_option maxHeartbeats 4000000 in
theorem stable_any {p : Int} {K : List Nat} (hmon : Mon p K) (a : Option Addr) (cap : Nat) (w : World) (hr : InRowM w a (mE p K)) :
    Calls Try.prog 70 #[.slice a K.length cap] w (fun e w' => ∃ a cap, e = .returned (.slice a K.length cap) ∧ RdT w' w.heap.size w'.heap.size a (tbL (muI p K) K.length K.length) ∧ Below w.heap.size w w') := by
  have hm3 := hmon.le
  have HMO := Lib.hid hmon
  have HR := Lib.hid hr
  obtain ⟨i0, hi, hz0, hz1, hz2⟩ := info_parts info_int
  clear hr hmon
  obtain ⟨m, hm⟩ : ∃ m, m = K.length := ⟨_, rfl⟩
  rw [← hm] at hm3 ⊢
  have HM := Lib.hid hm
  clear hm
  go_enter Try.func70, Try.ntmps70
  go_wp2_with fail
  go_loopw [3, 4, 5, 6] (fun v i _ _ wr => ∃ (k : Nat) (us : List Value), k ≤ m ∧ i = .int .i64 k ∧ Trw wr w.heap.size v us (tbL (muI p K) m k) ∧ Below w.heap.size w wr) (fun _ i _ _ _ => m - (intOf i).toNat)
  case atStart => exact ⟨0, [], by omega, rfl, trw_nil w w.heap.size (Nat.le_refl _), (Below.refl _ _).alloc (Nat.le_refl _) _⟩
  case round =>
    obtain ⟨k, us, hk, rfl, hwd, hb⟩ := hrel
    have HWD := Lib.hid hwd
    have HBR := Lib.hid hb
    have hsr := hb.size
    clear hwd hb
    by_cases hkm : k < m
    · have hkm' : (k : Int) < (m : Int) := by omega
      obtain ⟨wo, hwo⟩ : ∃ wo, wo = wr := ⟨_, rfl⟩
      subst hwo
      go_wp2_with fail
      go_loopw [5, 6] (fun v5 i wr => ∃ j : Nat, j ≤ m ∧ i = .int .i64 j ∧ Own wr wo.heap.size v5 (rwL (muI p K) k j) ∧ Below wo.heap.size wo wr) (fun _ i _ => m - (intOf i).toNat)
      case atStart => exact ⟨0, by omega, rfl, own_empty wo _ (Nat.le_refl _), (Below.refl _ _).alloc (Nat.le_refl _) _⟩
      case round =>
        obtain ⟨j, hj, rfl, hown, hbw⟩ := hrel
        have HOW := Lib.hid hown
        have HBW := Lib.hid hbw
        have hsw := hbw.size
        have hrl := rwL_len (muI p K) k j
        clear hown hbw
        by_cases hjm : j < m
        · have hjm' : (j : Int) < (m : Int) := by omega
          have hrow := (HR.out.below HBR.out).below HBW.out
          obtain ⟨b1, o1, rfl, hl1, hat⟩ := hrow.resolve_left (fun e => by have := congrArg List.length e; rw [mE_len, ← HM.out] at this; simp at this; omega)
          have hat1 := hat k (by rw [mE_len, ← HM.out]; exact hkm)
          have hat2 := hat j (by rw [mE_len, ← HM.out]; exact hjm)
          rw [mE_at _ _ _ (by rw [← HM.out]; exact hkm)] at hat1
          rw [mE_at _ _ _ (by rw [← HM.out]; exact hjm)] at hat2
          have hKl : K.length = m := HM.out.symm
          have hv1 := HMO.out.vl _ (getD_mem (by rw [hKl]; exact hkm))
          have hv2 := HMO.out.vl _ (getD_mem (by rw [hKl]; exact hjm))
          have hmem := muK_mem HMO.out (i := k) (j := j) (by omega) (by omega)
          have hT := fun w => times_num hv1 hv2 w
          have hF := fun w h => find_any HMO.out.vl HMO.out.srt (HMO.out.vl _ hmem) (by omega) (some ⟨b1, o1, none⟩) cap w h
          rw [if_pos hmem, hKl] at hF
          have hV : ∃ V : Nat, V = muK p K k j := ⟨_, rfl⟩
          obtain ⟨V, hV⟩ := hV
          rw [show lowN K (mulC p (K.getD k 0) (K.getD j 0)) = V from hV.symm] at hF
          have HRS : Hid (rwL (muI p K) k (j + 1) = rwL (muI p K) k j ++ [(V : Int)]) := Lib.hid (by rw [rwL_succ, hV]; rfl)
          have HRW := Lib.hid (show InRowM wr (some ⟨b1, o1, none⟩) (mE p K) from Or.inr ⟨b1, o1, rfl, hl1, hat⟩)
          obtain ⟨x0, x1, x2, x3, x4, x5⟩ := hat1
          obtain ⟨y0, y1, y2, y3, y4, y5⟩ := hat2
          simp only [] at x0 x1 x2 x3 x4 x5 y0 y1 y2 y3 y4 y5
          clear hat hv1 hv2 hmem hV hrow
          generalize K.getD k 0 = A1 at *
          generalize K.getD j 0 = A2 at *
          generalize mulC p A1 A2 = A3 at *
          generalize rwL (muI p K) k j = R0 at *
          simp only [mv, mcells] at hT hF
          have HTI := Lib.hid hT
          have HFI := Lib.hid hF
          clear hT hF hKl
          go_wp2_with fail
          go_region_law (first
              | (refine step_append_own rfl (.tmp 21) (.tmp 33) 26 rfl wo.heap.size 2 i0 (.int .i64 0) 1 8 Try.underlying26 hi hz0 hz1 hz2 rfl (by decide) u5 R0.length (R0.map (Value.int .i64)) rfl ((own_bel HOW.out HB6.out).alloc _) ⟨w6.heap.size, 0, none⟩ 1 1 [Value.int .i64 (V : Int)] rfl rfl (cell_one_new _ _ _) (ints_oneCell .i64 [(V : Int)]) (by unfold maxLen; omega) (by omega) (Nat.le_trans hs6 (by simp)) ?_; intro v7 w7 hown7 hgrow7; have HO7 := Lib.hid hown7; have HB7 : Hid (Below wo.heap.size wo w7) := Lib.hid (Below.grown (w := w6.alloc (.cells #[.int .i64 V] 2)) ((HBW.out.trans (HB6.out.mono hsw)).alloc hs6 _) hgrow7 (Nat.le_trans hs6 (by simp)) (fun r e => (HOW.out.lt r e).1)); clear hown7 hgrow7)
              | (go_simp; go_at_call 97; refine (HTI.out _).mono ?_; rintro e w5 ⟨rfl, hb5⟩; have HB5 : Hid (Below wr.heap.size wr w5) := Lib.hid (by first | exact hb5 | exact (Below.refl _ _).drew.trans hb5); have hs5 : wr.heap.size ≤ w5.heap.size := HB5.out.size; clear hb5)
              | (go_simp; go_at_call 96; refine (HFI.out _ (HRW.out.below (by first | exact HB5.out | exact HB5.out.drew))).mono ?_; rintro e w6 ⟨rfl, hb6⟩; have HB6 : Hid (Below wr.heap.size wr w6) := Lib.hid (by first | exact HB5.out.trans (hb6.mono hs5) | exact HB5.out.drew.trans (hb6.mono hs5)); have hs6 : wo.heap.size ≤ w6.heap.size := Nat.le_trans hsw HB6.out.size; clear hb6))
          all_goals
            have HO2 : Hid (Own w7 wo.heap.size v7 (rwL (muI p K) k (j + 1))) := Lib.hid (by
              have h := HO7.out
              unfold Own
              rw [HRS.out, List.map_append, List.length_append]
              exact h)
            clear HO7 HOW HBW
            go_wp2_with fail
            go_roundw
            case rel => exact ⟨j + 1, by omega, by go_num, HO2.out, HB7.out⟩
            case measure => simp [intOf]; omega
        · obtain rfl : j = m := by omega
          obtain ⟨gu, cu, rfl, hgu, hgul⟩ := own_blk HOW.out (fun e => by rw [e] at hrl; simp at hrl; omega)
          have HNE : Hid (rwL (muI p K) k j ≠ []) := Lib.hid (fun e => by rw [e] at hrl; simp at hrl; omega)
          have HSU := Lib.hid (tbL_succ (muI p K) j k)
          have HML := Lib.hid (tbL_len (muI p K) j k)
          have HT3 := Lib.hid (HWD.out.below HBW.out)
          have HOU := Lib.hid HOW.out
          have HNW : Hid (∀ i, i < (tbL (muI p K) j k).length → (us.getD i undef).ownBlock ≠ (Value.slice (some ⟨gu, 0, none⟩) (rwL (muI p K) k j).length cu).ownBlock) := Lib.hid fun i hi e => by
            obtain ⟨g2, c2, e2, _, hl2⟩ := own_blk (HWD.out.row i hi) (HWD.out.full i hi)
            rw [e2] at e
            simp [Value.ownBlock] at e
            omega
          have HBD := Lib.hid (halloc_at wr (.cells #[.slice (some ⟨gu, 0, none⟩) (rwL (muI p K) k j).length cu] 26) _ rfl)
          clear HOW hrl HWD
          rw [rwL_len] at HOU HNW HBD ⊢
          obtain ⟨L, hL⟩ : ∃ L, L = rwL (muI p K) k j := ⟨_, rfl⟩
          rw [← hL] at HNE HSU HOU
          clear hL
          go_wp2_with (at_builtin; refine wpList_appT rfl _ _ rfl w.heap.size _ us (tbL (muI p K) j k) rfl (HT3.out.below ((Below.refl _ _).alloc (Nat.le_refl _) _)) wr.heap.size 1 _ L ((Turn.of_below (S := fun _ => False) ((Below.refl _ _).alloc (Nat.le_refl _) _)).own (Joins.ownsRow_le HOU.out hsr) (fun _ _ h => h)) HNE.out HNW.out rfl HBD.out (by rw [HML.out]; omega) (by simp; omega) ?_; intro v4 w4 hown4 hgrow4; have HO4 := Lib.hid hown4; have HB5 := Lib.hid (((HBR.out.trans (HBW.out.mono hsr)).alloc (by omega) _).grown hgrow4 (by simp; omega) (fun q e => (World.ownsRow.lt HT3.out.own q e).1)); clear hown4 hgrow4)
          go_roundw
          case rel => exact ⟨k + 1, _, by omega, by go_num, by rw [HSU.out]; exact HO4.out, HB5.out⟩
          case measure => simp [intOf]; omega
    · obtain rfl : k = m := by omega
      obtain ⟨ac, cc, rfl, hrd⟩ := HWD.out.rdT (by rw [tbL_len]; omega) (fun j hj => by rw [tbL_len] at hj; rw [tbL_at _ _ _ _ hj, rwL_len]; omega)
      have HRD := Lib.hid hrd
      have HTL := Lib.hid (tbL_len (muI p K) k k)
      clear hrd HWD
      rw [HTL.out]
      go_wp2_with fail
      go_ret
      exact ⟨ac, cc, rfl, HRD.out, HBR.out⟩

end Go.Proofs.Ytoagpklippdlmaa

namespace Go.Proofs.Ytoagpklippdlmaa
open Go.RowKit

/-- The code of a list whose monoid may have so many elements. -/
noncomputable def tC (most : Nat) (L : List MapN) : Int := if elsC L [] = 0 then (if most < (elsK L).length then 3 else 0) else elsC L []

theorem tC_bad {most : Nat} {L : List MapN} (h : elsC L [] ≠ 0) : tC most L = elsC L [] := by unfold tC; rw [if_neg h]
theorem tC_big {most : Nat} {L : List MapN} (h : elsC L [] = 0) (h2 : most < (elsK L).length) : tC most L = 3 := by unfold tC; rw [if_pos h, if_pos h2]
theorem tC_0 {most : Nat} {L : List MapN} (h : elsC L [] = 0) (h2 : ¬ most < (elsK L).length) : tC most L = 0 := by unfold tC; rw [if_pos h, if_neg h2]

/-- What is left: the code, or the table, as rows of the call's own. -/
def RetTabT (most : Nat) (L : List MapN) (w : World) (e : Ending) (w' : World) : Prop :=
  Below w.heap.size w w' ∧ ((tC most L ≠ 0 ∧ e = .returned (.tuple #[.slice none 0 0, .int .i64 (tC most L)])) ∨
    (tC most L = 0 ∧ Mon (fst0 L) (elsK L) ∧ (elsK L).length ≤ most ∧ ∃ a cap, e = .returned (.tuple #[.slice a (elsK L).length cap, .int .i64 0]) ∧ RdT w' w.heap.size w'.heap.size a (tbL (muI (fst0 L) (elsK L)) (elsK L).length (elsK L).length)))

/-- What is left: the code, or the table. -/
def RetTab (most : Nat) (L : List MapN) (w : World) (e : Ending) (w' : World) : Prop :=
  Below w.heap.size w w' ∧ ((tC most L ≠ 0 ∧ e = .returned (.tuple #[.slice none 0 0, .int .i64 (tC most L)])) ∨
    (tC most L = 0 ∧ Mon (fst0 L) (elsK L) ∧ (elsK L).length ≤ most ∧ ∃ a cap, e = .returned (.tuple #[.slice a (elsK L).length cap, .int .i64 0]) ∧ Tb w' w'.heap.size a (elsK L).length (muK (fst0 L) (elsK L))))

theorem mon_pos {p : Int} {K : List Nat} (h : Mon p K) : 1 ≤ K.length := List.length_pos_of_mem h.one

theorem RetTabT.tab {most : Nat} {L : List MapN} {w w' : World} {e : Ending} (h : RetTabT most L w e w') : RetTab most L w e w' := by
  refine ⟨h.1, ?_⟩
  rcases h.2 with h1 | ⟨h1, h2, h3, a, cap, h4, h5⟩
  · exact Or.inl h1
  · exact Or.inr ⟨h1, h2, h3, a, cap, h4, tb_of (mon_pos h2) (fun _ _ => rfl) h5⟩

set_option maxRecDepth 100000 in
set_option maxHeartbeats 2000000 in
theorem sgvnT_any (most : Nat) (_hmost : most ≤ 300) (a : Option Addr) (c : Nat) (L : List MapN) (hl : L.length ≤ 1048576) (w : World) (hr : InRowM w a L) :
    Calls Try.prog 80 #[.slice a L.length c, .int .i64 (most : Int)] w (RetTabT most L w) := by
  have HS := Lib.hid (sels_any a none c 0 L [] hl (by simp) w hr (Or.inl rfl))
  clear hr
  by_cases hc : elsC L [] = 0
  · have hmon := mon_els hc
    have hll : elsL L [] = mE (fst0 L) (elsK L) := by unfold elsL; rw [if_pos hc]
    have hHS := HS.out
    rw [hll, hc] at hHS
    have HS := Lib.hid hHS
    have hm3 := hmon.le
    have hm1 := mon_pos hmon
    have hml := mE_len (fst0 L) (elsK L)
    clear hHS hll
    by_cases h2 : most < (elsK L).length
    · have e3 := tC_big hc h2
      have HE := Lib.hid e3
      have h2' : (most : Int) < ((elsK L).length : Int) := by omega
      clear hmon hc e3
      generalize elsK L = K at *
      generalize hp : fst0 L = p at *
      clear hp
      go_enter Try.func80, Try.ntmps80
      go_wp2_with fail
      refine HS.out.mono ?_
      rintro e w1 ⟨a1, c1, rfl, hrd, hb⟩
      have HB := Lib.hid hb
      clear hrd hb
      rw [hml]
      go_wp2_with fail
      go_ret2
      exact ⟨HB.out, Or.inl ⟨by rw [HE.out]; decide, by rw [HE.out]; rfl⟩⟩
    · unfold RetTabT
      have e0 := tC_0 hc h2
      have HE := Lib.hid e0
      have h2' : ((elsK L).length : Int) ≤ (most : Int) := by omega
      have HMO := Lib.hid hmon
      have HT := Lib.hid fun a cap w h => stable_any hmon a cap w h
      clear hmon hc e0
      generalize elsK L = K at *
      generalize fst0 L = p at *
      go_enter Try.func80, Try.ntmps80
      go_wp2_with fail
      refine HS.out.mono ?_
      rintro e w1 ⟨a1, c1, rfl, hrd, hb⟩
      have HB := Lib.hid hb
      have HR := Lib.hid hrd.inRow
      have hsz := hb.size
      clear hrd hb
      rw [hml]
      go_wp2_with fail
      refine (HT.out _ _ _ HR.out).mono ?_
      rintro e w2 ⟨a2, c2, rfl, hrd, hb⟩
      have HB2 : Hid (Below w.heap.size w w2) := Lib.hid (HB.out.trans (hb.mono hsz))
      have HTB := Lib.hid (hrd.low hsz)
      clear hrd hb
      go_wp2_with fail
      go_ret2
      exact ⟨HB2.out, Or.inr ⟨HE.out, HMO.out, by omega, a2, c2, rfl, HTB.out⟩⟩
  · have e1 := tC_bad (most := most) hc
    have HE := Lib.hid e1
    have hne : (elsC L [] != 0) = true := by simpa using hc
    have HC := Lib.hid hc
    have hll : elsL L [] = [] := by unfold elsL; rw [if_neg hc]
    have hHS := HS.out
    rw [hll] at hHS
    have HS := Lib.hid hHS
    clear hHS hll e1 hc
    generalize hce : elsC L [] = C at *
    clear hce
    go_enter Try.func80, Try.ntmps80
    go_wp2_with fail
    refine HS.out.mono ?_
    rintro e w1 ⟨a1, c1, rfl, hrd, hb⟩
    have HB := Lib.hid hb
    clear hrd hb
    go_wp2_with fail
    go_ret2
    exact ⟨HB.out, Or.inl ⟨by rw [HE.out]; exact HC.out, by rw [HE.out]; rfl⟩⟩

theorem sgvn_any (most : Nat) (hmost : most ≤ 300) (a : Option Addr) (c : Nat) (L : List MapN) (hl : L.length ≤ 1048576) (w : World) (hr : InRowM w a L) :
    Calls Try.prog 80 #[.slice a L.length c, .int .i64 (most : Int)] w (RetTab most L w) :=
  (sgvnT_any most hmost a c L hl w hr).mono fun _ _ h => h.tab

end Go.Proofs.Ytoagpklippdlmaa

namespace Go.Proofs.Ytoagpklippdlmaa
open Go.RowKit Go.Maps

/-- The map behind k rounds. -/
def nD (p : Int) (K : List Nat) : Nat → DataW Unit
  | 0 => .map []
  | k + 1 => (nD p K k).put (kyL p (dcd (K.getD k 0))) (.lit (.int .i64 k))

theorem nD_tidy {p : Int} {K : List Nat} (hv : ∀ c ∈ K, vld p c) : ∀ k, k ≤ K.length → Tidy (nD p K k)
  | 0, _ => tidy_empty
  | k + 1, h => (nD_tidy hv k (by omega)).put (kyL_key (hv _ (getD_mem (by omega))).2) _

theorem srtd_lt {K : List Nat} (hs : srtd K) {i j : Nat} (hij : i < j) (hj : j < K.length) : K.getD i 0 < K.getD j 0 := by
  unfold srtd at hs
  rw [List.getD_eq_getElem?_getD, List.getD_eq_getElem?_getD, List.getElem?_eq_getElem hj, List.getElem?_eq_getElem (by omega)]
  exact List.pairwise_iff_getElem.1 hs i j (by omega) hj hij

theorem at_nD {p : Int} {K : List Nat} (hv : ∀ c ∈ K, vld p c) (hs : srtd K) (z : DataW Unit) (b : Nat) : ∀ k, k ≤ K.length → b < k → (nD p K k).atKey (kyL p (dcd (K.getD b 0))) z = .lit (.int .i64 b)
  | 0, _, h => by omega
  | k + 1, hk, hb => by
    show ((nD p K k).put _ _).atKey _ _ = _
    by_cases e : b = k
    · subst e; rw [atKey_put_same (nD_tidy hv b (by omega)).isMap (kyL_key (hv _ (getD_mem (by omega))).2)]
    · have hlt := srtd_lt hs (i := b) (j := k) (by omega) (by omega)
      rw [atKey_put_other (ky_num (hv _ (getD_mem (by omega))) (hv _ (getD_mem (by omega))) (by omega))]
      exact at_nD hv hs z b k (by omega) (by omega)

theorem at_nD_mem {p : Int} {K : List Nat} (hv : ∀ c ∈ K, vld p c) (hs : srtd K) (z : DataW Unit) {c : Nat} (hc : c ∈ K) : (nD p K K.length).atKey (kyL p (dcd c)) z = .lit (.int .i64 (lowN K c : Nat)) := by
  obtain ⟨h1, h2⟩ := (low_found hs c).1 hc
  have := at_nD hv hs z (lowN K c) K.length (Nat.le_refl _) h1
  rw [h2] at this
  exact this

/-- What impl.numbersOf leaves. -/
def RetNum (p : Int) (K : List Nat) (w : World) (e : Ending) (w' : World) : Prop :=
  ∃ b, e = .returned (.map (some b)) ∧ w'.ownsMap Try.prog 55 (plainElem Try.prog 2) b K.length (nD p K K.length) ∧ Below w.heap.size w w'

set_option maxRecDepth 100000 in
set_option maxHeartbeats 2000000 in
theorem numOf_any {p : Int} {K : List Nat} (hmon : Mon p K) (a : Option Addr) (cap : Nat) (w : World) (hr : InRowM w a (mE p K)) :
    Calls Try.prog 99 #[.slice a K.length cap] w (RetNum p K w) := by
  have hm3 := hmon.le
  have HMO := Lib.hid hmon
  have HR := Lib.hid hr
  have hmm := @run_makeMap Try.prog
  clear hr hmon
  obtain ⟨m, hm⟩ : ∃ m, m = K.length := ⟨_, rfl⟩
  unfold RetNum
  rw [← hm] at hm3 ⊢
  have HM := Lib.hid hm
  clear hm
  go_enter Try.func99, Try.ntmps99
  go_wp2_with fail
  clear hmm
  go_loopw [4, 5, 9] (fun _ _ i wr => ∃ k : Nat, k ≤ m ∧ i = .int .i64 k ∧ wr.ownsMap Try.prog 55 (plainElem Try.prog 2) w.heap.size k (nD p K k) ∧ Below w.heap.size w wr) (fun _ _ i _ => m - (intOf i).toNat)
  case atStart => exact ⟨0, by omega, rfl, World.ownsMap_made _ _ _ _, (Below.refl _ _).alloc (Nat.le_refl _) _⟩
  case round =>
    obtain ⟨k, hk, rfl, hmap, hb⟩ := hrel
    have HB := Lib.hid hb
    have HMAP := Lib.hid hmap
    have hsz := hb.size
    by_cases hkm : k < m
    · have hkm' : (k : Int) < (m : Int) := by omega
      have hKl : K.length = m := HM.out.symm
      obtain ⟨b1, o1, rfl, hl1, hat⟩ := (HR.out.below hb).resolve_left (fun e => by have := congrArg List.length e; rw [mE_len, hKl] at this; simp at this; omega)
      have hat1 := hat k (by rw [mE_len, hKl]; exact hkm)
      rw [mE_at _ _ _ (by omega)] at hat1
      obtain ⟨x0, x1, x2, x3, x4, x5⟩ := hat1
      simp only [] at x0 x1 x2 x3 x4 x5
      have hv1 := HMO.out.vl _ (getD_mem (K := K) (i := k) (by omega))
      have hkey := key_of hv1.2
      have hwf : (Lit.int .i64 (k : Int)).wf = true := WalkArith.wf_i64 (by omega)
      have HND : Hid (nD p K (k + 1) = (nD p K k).put (kyL p (dcd (K.getD k 0))) (.lit (.int .i64 k))) := Lib.hid rfl
      clear hat hb hmap hv1
      generalize K.getD k 0 = A1 at *
      generalize nD p K k = D at *
      simp only [mv, mcells] at hkey
      go_wp2_with (at_mapUpdate; refine wpList_mapUpdate_own _ rfl _ _ _ 120 rfl 55 2 lawM Try.underlying120 _ w.heap.size k _ rfl ((HMAP.out : wr.ownsMap _ _ _ _ _ _).alloc _) (by unfold maxLen; omega) _ _ _ rfl rfl hkey _ [] (plainElem_int Try.underlying2 hwf) ?_; intro w1 hmap1 hgrow1; have HM1 := Lib.hid hmap1; have HB1 : Hid (Below w.heap.size w w1) := Lib.hid ((HB.out.alloc hsz _).grown hgrow1 (by simp; omega) (fun j hj => by cases hj; omega)); clear hmap1 hgrow1)
      go_roundw
      case rel => exact ⟨k + 1, by omega, by go_num, by rw [HND.out]; exact HM1.out, HB1.out⟩
      case measure => simp [intOf]; omega
    · obtain rfl : k = m := by omega
      clear hb hmap
      go_wp2_with fail
      go_ret
      exact ⟨_, rfl, HMAP.out, HB.out⟩

theorem iprod_num {p : Int} {a b : Nat} (ha : vld p a) (hb : vld p b) (w : World) :
    Calls Try.prog 101 #[mv p (dcd a), mv p (dcd b)] w fun e w' => e = .returned (mv p (dcd (mulC p a b))) ∧ Below w.heap.size w w' := by
  refine (product_any p (dcd a) (dcd b) ha.2 hb.2 w).mono ?_
  rintro e w' ⟨rfl, h⟩
  refine ⟨?_, h⟩
  unfold mv
  rw [mulC_cells ha hb]

set_option maxRecDepth 100000 in
set_option maxHeartbeats 4000000 in
theorem tot_tells {p : Int} {K : List Nat} (hmon : Mon p K) (b8 b6 gE cE bN b : Nat) (w : World) (h8 : w.heap[b8]? = some (.cells #[.map (some bN)] 120 (0, 0))) (h6 : w.heap[b6]? = some (.cells #[.slice (some ⟨gE, 0, none⟩) K.length cE, .map (some b)] 117 (0, 0)))
    (hr : InRowM w (some ⟨gE, 0, none⟩) (mE p K)) (hmap : w.ownsMap Try.prog 55 (plainElem Try.prog 2) bN K.length (nD p K K.length)) :
    Tells2 w K.length (muI p K) 100 #[.pointer (some ⟨b8, 0, none⟩), .pointer (some ⟨b6, 0, none⟩)] := by
  intro i j hi hj z hz
  have e8 := Joins.cell_of_block ((hz.block _ (Array.getElem?_eq_some_iff.1 h8).1).trans h8) 0
  have e6 := Joins.cell_of_block ((hz.block _ (Array.getElem?_eq_some_iff.1 h6).1).trans h6) 0
  simp only [List.getElem?_toArray, List.getElem?_cons_zero] at e8 e6
  have hm3 := hmon.le
  have hsz := hz.size
  have l8 := Nat.lt_of_lt_of_le (Array.getElem?_eq_some_iff.1 h8).1 hsz
  have l6 := Nat.lt_of_lt_of_le (Array.getElem?_eq_some_iff.1 h6).1 hsz
  obtain ⟨b1, o1, eb, hl1, hat⟩ := (hr.below hz).resolve_left (fun e => by have := congrArg List.length e; rw [mE_len, List.length_nil] at this; omega)
  injection eb with eb
  injection eb with eb1 eb2
  subst eb1 eb2
  have hat1 := hat i (by rw [mE_len]; exact hi)
  have hat2 := hat j (by rw [mE_len]; exact hj)
  rw [mE_at _ _ _ hi] at hat1
  rw [mE_at _ _ _ hj] at hat2
  have hv1 := hmon.vl _ (getD_mem hi)
  have hv2 := hmon.vl _ (getD_mem hj)
  have hmem := muK_mem hmon hi hj
  have hP := fun w => iprod_num hv1 hv2 w
  have hmz : z.ownsMap Try.prog 55 (plainElem Try.prog 2) bN K.length (nD p K K.length) := hmap.kept (row := none) ⟨hz.os, hz.tape, hz.output, hz.size, fun j hj _ => hz.block j hj⟩ (by simp)
  have hlk : ∀ x : World, Below z.heap.size z x → (Instr.lookup 120 (.map (some bN)) (mv p (dcd (mulC p (K.getD i 0) (K.getD j 0)))) false).run Try.prog x = .ok (.int .i64 (muI p K i j)) x := fun x hx => by
    have hmx : x.ownsMap Try.prog 55 (plainElem Try.prog 2) bN K.length (nD p K K.length) := hmz.kept (row := none) ⟨hx.os, hx.tape, hx.output, hx.size, fun j hj _ => hx.block j hj⟩ (by simp)
    obtain ⟨c, h1, h2, _⟩ := hmx.lookup_int lawM Try.underlying120 Try.underlying2 (zeroI _) (key_of (hmon.vl _ hmem).2)
    rw [at_nD_mem hmon.vl hmon.srt _ hmem] at h2
    injection h2 with h2
    injection h2 with _ h2
    rw [h1]
    unfold muI muK
    rw [h2]
  obtain ⟨x0, x1, x2, x3, x4, x5⟩ := hat1
  obtain ⟨y0, y1, y2, y3, y4, y5⟩ := hat2
  simp only [Nat.zero_add] at x0 x1 x2 x3 x4 x5 y0 y1 y2 y3 y4 y5
  have hi' : (i : Int) < (K.length : Int) := by omega
  have hj' : (j : Int) < (K.length : Int) := by omega
  clear hat hv1 hv2 hmem hmz hmap hr hmon h8 h6 hz
  generalize muI p K i j = V at *
  generalize K.getD i 0 = A1 at *
  generalize K.getD j 0 = A2 at *
  generalize mulC p A1 A2 = A3 at *
  generalize K.length = m at *
  simp only [mv, mcells] at hP hlk
  have HPR := Lib.hid hP
  clear hP
  have k8 : ∀ x : World, Below z.heap.size z x → x.cell? ⟨b8, 0, none⟩ = _ := fun x hx => (hx.cell (p := ⟨b8, 0, none⟩) l8).trans e8
  have k6 : ∀ x : World, Below z.heap.size z x → x.cell? ⟨b6, 0, none⟩ = _ := fun x hx => (hx.cell (p := ⟨b6, 0, none⟩) l6).trans e6
  have kx0 : ∀ x : World, Below z.heap.size z x → x.cell? ⟨gE, i * 6, none⟩ = _ := fun x hx => (hx.cell (p := ⟨gE, i * 6, none⟩) hl1).trans x0
  have kx1 : ∀ x : World, Below z.heap.size z x → x.cell? ⟨gE, i * 6 + 1, none⟩ = _ := fun x hx => (hx.cell (p := ⟨gE, i * 6 + 1, none⟩) hl1).trans x1
  have kx2 : ∀ x : World, Below z.heap.size z x → x.cell? ⟨gE, i * 6 + 2, none⟩ = _ := fun x hx => (hx.cell (p := ⟨gE, i * 6 + 2, none⟩) hl1).trans x2
  have kx3 : ∀ x : World, Below z.heap.size z x → x.cell? ⟨gE, i * 6 + 3, none⟩ = _ := fun x hx => (hx.cell (p := ⟨gE, i * 6 + 3, none⟩) hl1).trans x3
  have kx4 : ∀ x : World, Below z.heap.size z x → x.cell? ⟨gE, i * 6 + 4, none⟩ = _ := fun x hx => (hx.cell (p := ⟨gE, i * 6 + 4, none⟩) hl1).trans x4
  have kx5 : ∀ x : World, Below z.heap.size z x → x.cell? ⟨gE, i * 6 + 5, none⟩ = _ := fun x hx => (hx.cell (p := ⟨gE, i * 6 + 5, none⟩) hl1).trans x5
  have ky0 : ∀ x : World, Below z.heap.size z x → x.cell? ⟨gE, j * 6, none⟩ = _ := fun x hx => (hx.cell (p := ⟨gE, j * 6, none⟩) hl1).trans y0
  have ky1 : ∀ x : World, Below z.heap.size z x → x.cell? ⟨gE, j * 6 + 1, none⟩ = _ := fun x hx => (hx.cell (p := ⟨gE, j * 6 + 1, none⟩) hl1).trans y1
  have ky2 : ∀ x : World, Below z.heap.size z x → x.cell? ⟨gE, j * 6 + 2, none⟩ = _ := fun x hx => (hx.cell (p := ⟨gE, j * 6 + 2, none⟩) hl1).trans y2
  have ky3 : ∀ x : World, Below z.heap.size z x → x.cell? ⟨gE, j * 6 + 3, none⟩ = _ := fun x hx => (hx.cell (p := ⟨gE, j * 6 + 3, none⟩) hl1).trans y3
  have ky4 : ∀ x : World, Below z.heap.size z x → x.cell? ⟨gE, j * 6 + 4, none⟩ = _ := fun x hx => (hx.cell (p := ⟨gE, j * 6 + 4, none⟩) hl1).trans y4
  have ky5 : ∀ x : World, Below z.heap.size z x → x.cell? ⟨gE, j * 6 + 5, none⟩ = _ := fun x hx => (hx.cell (p := ⟨gE, j * 6 + 5, none⟩) hl1).trans y5
  simp only [List.append_toArray, List.cons_append, List.nil_append]
  go_enter Try.func100, Try.ntmps100
  go_wp2_with fail
  go_region_held3 (fun w' => Below z.heap.size z w') (first | (with_reducible assumption) | ((repeat' (first | (with_reducible exact Below.refl _ _) | (with_reducible refine Below.alloc ?_ ?_ _) | (with_reducible refine Below.setCell ?_ ?_ _) | (with_reducible refine Below.drew ?_) | (with_reducible refine below_drewN ?_ _) | (with_reducible refine Below.trans ?_ (Below.mono (Hid.out (by assumption)) ?_)) | omega | (simp; done) | (simp; omega))); done)) (first | (go_at_call 101; (with_reducible refine (HPR.out _).mono ?_); rintro e w1 ⟨rfl, hb⟩; skip; obtain ⟨hc, hf⟩ := bcell hb; have hz := hb.size; have Hb := Lib.hid hb; (try simp at hz hc hf); (try (have hy := Nat.lt_of_succ_le hz)); have hz0 : z.heap.size ≤ w1.heap.size := (by omega); (try (have hz1 : z.heap.size < w1.heap.size := (by omega))); clear hb) | fail "arm")
  all_goals
    go_wp2_with fail
    go_ret
    exact ⟨rfl, by first | assumption | (repeat' (first | (with_reducible exact Below.refl _ _) | (with_reducible refine Below.alloc ?_ ?_ _) | (with_reducible refine Below.setCell ?_ ?_ _) | (with_reducible refine Below.drew ?_) | (with_reducible refine below_drewN ?_ _) | (with_reducible refine Below.trans ?_ (Below.mono (Hid.out (by assumption)) ?_)) | omega | (simp; done) | (simp; omega)))⟩

theorem tot_enters : ∀ args w, (callFunc 100 args).run Try.prog w = .ok (.enter 100 args) w := enters_of Try.func100 (by kernel_rfl) rfl

set_option maxRecDepth 100000 in
set_option maxHeartbeats 4000000 in
theorem itaT_any (most : Nat) (_hmost : most ≤ 300) (a : Option Addr) (c : Nat) (hc0 : a = none → c = 0) (L : List MapN) (hl : L.length ≤ 1048576) (w : World) (hr : InRowM w a L) :
    Calls Try.prog 71 #[.int .i64 (most : Int), .slice a L.length c] w (RetTabT most L w) := by
  have HS := Lib.hid (mono_any a none c 0 L [] hc0 (fun _ => rfl) hl (by simp) w hr (Or.inl rfl))
  clear hr hc0
  by_cases hc : elsC L [] = 0
  · have hmon := mon_els hc
    have hHS := HS.out
    unfold RetMono at hHS
    have hHS2 : Calls Try.prog 98 #[.slice a L.length c, .slice none ([] : List MapN).length 0] w (fun e w' => Below w.heap.size w w' ∧ ∃ gE cE b, e = .returned (.tuple #[.agg #[.slice (some ⟨gE, 0, none⟩) (elsK L).length cE, .map (some b)], .int .i64 0]) ∧ PutRow w' w.heap.size gE cE (mE (fst0 L) (elsK L))) :=
      hHS.mono fun e w' h => by
        rcases h.2 with ⟨h1, _⟩ | ⟨_, _, gE, cE, b, l, e1, hp, _⟩
        · exact absurd hc h1
        · exact ⟨h.1, gE, cE, b, e1, hp⟩
    have HS := Lib.hid hHS2
    have hm3 := hmon.le
    have hm1 := mon_pos hmon
    clear hHS hHS2
    by_cases h2 : most < (elsK L).length
    · have e3 := tC_big hc h2
      have HE := Lib.hid e3
      have h2' : (most : Int) < ((elsK L).length : Int) := by omega
      clear hmon hc e3
      generalize elsK L = K at *
      generalize hp : fst0 L = p at *
      clear hp
      go_enter Try.func71, Try.ntmps71
      go_wp2_with fail
      refine HS.out.mono ?_
      rintro e w1 ⟨hb, gE, cE, b, rfl, hput⟩
      have HB := Lib.hid hb
      have hsz := hb.size
      clear hput hb
      go_wp2_with fail
      go_ret2
      exact ⟨HB.out.alloc hsz _, Or.inl ⟨by rw [HE.out]; decide, by rw [HE.out]; rfl⟩⟩
    · have e0 := tC_0 hc h2
      unfold RetTabT
      have HE := Lib.hid e0
      have h2' : ((elsK L).length : Int) ≤ (most : Int) := by omega
      have HMO := Lib.hid hmon
      have HNU := Lib.hid fun a cap w h => numOf_any hmon a cap w h
      clear hmon hc e0
      generalize elsK L = K at *
      generalize fst0 L = p at *
      go_enter Try.func71, Try.ntmps71
      go_wp2_with fail
      refine HS.out.mono ?_
      rintro e w1 ⟨hb, gE, cE, b, rfl, hput⟩
      have HB := Lib.hid hb
      have hsz := hb.size
      have hba : Below w1.heap.size w1 (w1.alloc (.cells #[.slice (some ⟨gE, 0, none⟩) K.length cE, .map (some b)] 117)) := (Below.refl _ _).alloc (Nat.le_refl _) _
      have HR := Lib.hid (hput.inRow.below hba)
      have hmx := halloc_at w1 (.cells #[.slice (some ⟨gE, 0, none⟩) K.length cE, .map (some b)] 117) _ rfl
      have HMX := Lib.hid hmx
      have HBA : Hid (Below w.heap.size w (w1.alloc (.cells #[.slice (some ⟨gE, 0, none⟩) K.length cE, .map (some b)] 117))) := Lib.hid (hb.alloc hsz _)
      clear hput hb hba hmx
      go_wp2_with fail
      refine (HNU.out _ _ _ HR.out).mono ?_
      rintro e w2 ⟨bN, rfl, hmap, hb⟩
      generalize w1.alloc (.cells #[.slice (some ⟨gE, 0, none⟩) K.length cE, .map (some b)] 117) = wz at *
      have hsx : w1.heap.size < wz.heap.size := (Array.getElem?_eq_some_iff.1 HMX.out).1
      have HR2 := Lib.hid (HR.out.below hb)
      have HX2 := Lib.hid ((hb.block _ hsx).trans HMX.out)
      have hs2 := hb.size
      have HB2 : Hid (Below w.heap.size w w2) := Lib.hid (HBA.out.trans (hb.mono HBA.out.size))
      have hbs : w1.heap.size < w2.heap.size := by omega
      have hba3 : Below w2.heap.size w2 (w2.alloc (.cells #[.map (some bN)] 120)) := (Below.refl _ _).alloc (Nat.le_refl _) _
      have HTL := tot_tells HMO.out w2.heap.size w1.heap.size gE cE bN b _ (halloc_at _ _ _ rfl) ((hba3.block _ hbs).trans HX2.out) (HR2.out.below hba3) (hmap.alloc _)
      have HTY := Lib.hid (tby_any K.length hm1 (by omega) (muI p K) tot_enters _ HTL)
      have HB3 : Hid (Below w.heap.size w (w2.alloc (.cells #[.map (some bN)] 120))) := Lib.hid (HB2.out.alloc HB2.out.size _)
      have hsw3 := HB3.out.size
      have c0 := (hba3.cell (p := ⟨w1.heap.size, 0, none⟩) hbs).trans (Joins.cell_of_block HX2.out 0)
      simp only [List.getElem?_toArray, List.getElem?_cons_zero] at c0
      have d0 := Joins.cell_of_block HX2.out 0
      simp only [List.getElem?_toArray, List.getElem?_cons_zero] at d0
      clear hb hmap HR HMX HBA HB HTL hba3
      go_wp2_with fail
      refine HTY.out.mono ?_
      rintro e w4 ⟨a4, c4, rfl, hrd, hb4⟩
      have HRD := Lib.hid (hrd.low hsw3)
      have HB4 : Hid (Below w.heap.size w w4) := Lib.hid (HB3.out.trans (hb4.mono hsw3))
      clear hrd hb4
      go_wp2_with fail
      go_ret2
      exact ⟨HB4.out, Or.inr ⟨HE.out, HMO.out, by omega, a4, c4, rfl, HRD.out⟩⟩
  · have e1 := tC_bad (most := most) hc
    have HE := Lib.hid e1
    have hne : (elsC L [] != 0) = true := by simpa using hc
    have HC := Lib.hid hc
    have hHS := HS.out
    unfold RetMono at hHS
    have hHS2 : Calls Try.prog 98 #[.slice a L.length c, .slice none ([] : List MapN).length 0] w (fun e w' => Below w.heap.size w w' ∧ e = .returned (.tuple #[.agg #[.slice none 0 0, .map none], .int .i64 (elsC L [])])) :=
      hHS.mono fun e w' h => by
        rcases h.2 with ⟨h1, h2⟩ | ⟨h1, _⟩
        · exact ⟨h.1, h2⟩
        · exact absurd h1 hc
    have HS := Lib.hid hHS2
    clear hHS hHS2 e1 hc
    generalize hce : elsC L [] = C at *
    clear hce
    go_enter Try.func71, Try.ntmps71
    go_wp2_with fail
    refine HS.out.mono ?_
    rintro e w1 ⟨hb, rfl⟩
    have HB := Lib.hid hb
    have hsz := hb.size
    clear hb
    go_wp2_with fail
    go_ret2
    exact ⟨HB.out.alloc hsz _, Or.inl ⟨by rw [HE.out]; exact HC.out, by rw [HE.out]; rfl⟩⟩

theorem ita_any (most : Nat) (hmost : most ≤ 300) (a : Option Addr) (c : Nat) (hc0 : a = none → c = 0) (L : List MapN) (hl : L.length ≤ 1048576) (w : World) (hr : InRowM w a L) :
    Calls Try.prog 71 #[.int .i64 (most : Int), .slice a L.length c] w (RetTab most L w) :=
  (itaT_any most hmost a c hc0 L hl w hr).mono fun _ _ h => h.tab

end Go.Proofs.Ytoagpklippdlmaa
