/- The contracts of MeetCongruences, on both sides. -/
import Derived.Test.YtdgdcpcfjdnlcaaMcg
namespace Go.Proofs.Ytdgdcpcfjdnlcaa
open Go Go.RowKit

theorem Rd.low2 {w : World} {B B2 : Nat} {a : Option Addr} {J : List Int} (h : Rd w B a J) (hB : B2 ≤ B) : Rd w B2 a J := by
  refine ⟨h.1, ?_⟩
  rcases h.2 with h0 | ⟨g, ha, hg, rest⟩
  · exact Or.inl h0
  · exact Or.inr ⟨g, ha, Nat.le_trans hB hg, rest⟩

/-- append of a pair, at a step of a region that draws its order. -/
theorem step_appQ {w : World} {ops : Array Oper} {o : Oper} {a : Act} {K : Act → World → Prop} {Q : Exit → Act → World → Prop} {E : Prop} (hgd : o.guard = none) (s x : Operand)
    (ho : o.op = .call { callee := .builtin .append, args := #[s, x], argTypes := #[76, 76] })
    (base : Nat) (v : Value) (P : List (Int × Int)) (hs : a.eval s = v) (hown : OwnQ w base v P) (b c : Nat) (p q : Int) (hx : a.eval x = .slice (some ⟨b, 0, none⟩) 1 c) (hb : w.heap[b]? = some (.cells #[.int .i64 p, .int .i64 q] 77 (0, 0)))
    (hlen : P.length ≤ 1000000) (hbase : base ≤ w.heap.size)
    (h : ∀ v' w', OwnQ w' base v' (P ++ [(p, q)]) → w.grownBy w' v.ownBlock → K (a.put o.dst v') w') : if Region.wanted o (yielded ops a.tmps) = true then Oper.wp Try.prog o a w K Q else E := by
  obtain ⟨i0, hi, hz0, hz1, hz2⟩ := info_parts info_2
  refine step_append_own hgd s x _ ho base 77 i0 _ 2 16 Try.underlying76 hi hz0 hz1 hz2 rfl (by decide) v P.length (qcl P) hs hown ⟨b, 0, none⟩ 1 c (qcl [(p, q)]) hx rfl (fun j u hj => ?_) (qcl_one _) (by unfold maxLen; omega) (by omega) hbase ?_
  · have hadd : (⟨b, 0, none⟩ : Addr).add j = ⟨b, j, none⟩ := by cases j <;> simp [Addr.add]
    rw [hadd, Joins.cell_of_block hb j, ← hj]
    simp [qcl]
  · intro v' w' h1 h2
    refine h v' w' ?_ h2
    unfold OwnQ
    rw [qcl_app, List.length_append]
    exact h1

/-- A number that stands for a pair. -/
def two (m : Nat) (tX tY : Nat → Int) (i : Nat) : Int := tX i * (m : Int) + tY i

/-- The first k of them. -/
def twoL (m : Nat) (tX tY : Nat → Int) (k : Nat) : List Int := (List.range k).map (two m tX tY)
theorem twoL_len (m : Nat) (tX tY : Nat → Int) (k : Nat) : (twoL m tX tY k).length = k := by unfold twoL; simp
theorem twoL_succ (m : Nat) (tX tY : Nat → Int) (k : Nat) : twoL m tX tY (k + 1) = twoL m tX tY k ++ [two m tX tY k] := by unfold twoL; rw [List.range_succ, List.map_append]; rfl
theorem twoL_ker (m : Nat) (tX tY : Nat → Int) : kerK (tL (twoL m tX tY m)) m = kerK (two m tX tY) m :=
  kerK_congr fun i j hi hj => by
    have h : ∀ i, i < m → tL (twoL m tX tY m) i = two m tX tY i := fun i hi => by unfold tL twoL; simp [hi]
    rw [h i hi, h j hj]

theorem two_inj {m : Nat} {x y a b : Int} (hy : 0 ≤ y ∧ y < m) (hb : 0 ≤ b ∧ b < m) : x * (m : Int) + y = a * (m : Int) + b ↔ x = a ∧ y = b := by
  refine ⟨fun h => ?_, fun ⟨h1, h2⟩ => by rw [h1, h2]⟩
  have h1 : (x * (m : Int) + y) / (m : Int) = x := by
    rw [Int.add_comm, Int.add_mul_ediv_right _ _ (by omega), Int.ediv_eq_zero_of_lt hy.1 hy.2, Int.zero_add]
  have h2 : (a * (m : Int) + b) / (m : Int) = a := by
    rw [Int.add_comm, Int.add_mul_ediv_right _ _ (by omega), Int.ediv_eq_zero_of_lt hb.1 hb.2, Int.zero_add]
  rw [h, h2] at h1
  subst h1
  exact ⟨rfl, by omega⟩

/-- The numbers of classes lie within m, past the end too. -/
theorem cls_in {X : List Int} {m : Nat} (h : Cls X m) (hm : 1 ≤ m) (i : Nat) : 0 ≤ tL X i ∧ tL X i < m := by
  by_cases hi : i < m
  · have := h.bd hi
    omega
  · have : tL X i = 0 := by
      unfold tL
      rw [List.getD_eq_getElem?_getD, List.getElem?_eq_none (by rw [h.1]; omega)]
      rfl
    omega

theorem two_ky {X Y : List Int} {m : Nat} (hX : Cls X m) (hY : Cls Y m) (hm : 1 ≤ m) (hm2 : m ≤ 30) : Ky (fun i => k2L (tL X i) (tL Y i)) (two m (tL X) (tL Y)) :=
  ⟨fun _ => k2L_key _ _, fun i j => by
    have x1 := cls_in hX hm i
    have x2 := cls_in hX hm j
    have y1 := cls_in hY hm i
    have y2 := cls_in hY hm j
    refine Iff.trans ⟨fun h => ?_, fun h => ?_⟩ (two_inj y1 y2).symm
    · exact k2L_inj (WalkArith.wf_i64 (by omega)) (WalkArith.wf_i64 (by omega)) (WalkArith.wf_i64 (by omega)) (WalkArith.wf_i64 (by omega)) h
    · show k2L _ _ = k2L _ _
      rw [h.1, h.2]⟩

theorem two_bd {m : Nat} {x y : Int} (hm2 : m ≤ 30) (hx : 0 ≤ x ∧ x < m) (hy : 0 ≤ y ∧ y < m) : 0 ≤ x * (m : Int) ∧ x * (m : Int) ≤ 900 ∧ 0 ≤ x * (m : Int) + y ∧ x * (m : Int) + y ≤ 930 := by
  have h1 : 0 ≤ x * (m : Int) := Int.mul_nonneg hx.1 (by omega)
  have h2 : x * (m : Int) ≤ 30 * 30 := Int.mul_le_mul (by omega) (by omega) (by omega) (by omega)
  omega

/-- The meet of two congruences; nothing with an error. -/
noncomputable def meL (L : List MapN) (X Y : List Int) : List Int := if cgC L [X, Y] = 0 then kerK (two (elsK L).length (tL X) (tL Y)) (elsK L).length else []

theorem meL_0 {L : List MapN} {X Y : List Int} (h : cgC L [X, Y] = 0) : meL L X Y = kerK (two (elsK L).length (tL X) (tL Y)) (elsK L).length := by unfold meL; rw [if_pos h]
theorem meL_no {L : List MapN} {X Y : List Int} (h : cgC L [X, Y] ≠ 0) : meL L X Y = [] := by unfold meL; rw [if_neg h]

set_option maxRecDepth 100000 in
set_option maxHeartbeats 4000000 in
theorem smee_any (L : List MapN) (hl : L.length ≤ 1048576) (X : List Int) (hx : X.length ≤ 1048576) (_ : ∀ x ∈ X, (Lit.int .i64 x).wf = true) (Y : List Int) (hy : Y.length ≤ 1048576) (_ : ∀ x ∈ Y, (Lit.int .i64 x).wf = true) (a : Option Addr) (c : Nat) (_ : a = none → c = 0) (ax : Option Addr) (cx : Nat) (ay : Option Addr) (cy : Nat) (w : World) (hr : InRowM w a L) (hrx : InRow w ax X) (hry : InRow w ay Y) :
    Calls Try.prog 36 #[.slice a L.length c, .slice ax X.length cx, .slice ay Y.length cy] w (RetRow w.heap.size (meL L X Y) (cgC L [X, Y]) w) := by
  have HS := Lib.hid (sbo_any L hl X hx Y hy a c ax cx ay cy w hr hrx hry)
  have HRX := Lib.hid hrx
  have HRY := Lib.hid hry
  obtain ⟨i0, hi, hz0', hz1', hz2'⟩ := info_parts info_int
  clear hr hrx hry
  go_enter Try.func36, Try.ntmps36
  go_wp2_with fail
  refine HS.out.mono ?_
  rintro e w1 ⟨hb, ⟨hc, rfl⟩ | ⟨hc, hmon, hle, hcl, a1, c1, rfl, htb⟩⟩
  · have HB := Lib.hid hb
    have HE := Lib.hid (meL_no hc)
    have hne : (cgC L [X, Y] != 0) = true := by simpa using hc
    clear hb hc
    generalize cgC L [X, Y] = C at *
    go_wp2_with fail
    go_ret2
    exact ⟨none, 0, by rw [HE.out]; rfl, ⟨by rw [HE.out]; simp, Or.inl HE.out⟩, HB.out⟩
  · have hX : Cls X (elsK L).length := (hcl 0 (by simp)).1
    have hY : Cls Y (elsK L).length := (hcl 1 (by simp)).1
    have hlx : X.length = (elsK L).length := hX.1
    have hly : Y.length = (elsK L).length := hY.1
    have HB := Lib.hid hb
    have HX1 := Lib.hid (HRX.out.below hb)
    have HY1 := Lib.hid (HRY.out.below hb)
    have HE := Lib.hid (meL_0 hc)
    have HC0 := Lib.hid hc
    have hs1 := hb.size
    have hm1 := mon_pos hmon
    have HIX := Lib.hid (cls_in hX hm1)
    have HIY := Lib.hid (cls_in hY hm1)
    have HNM := Lib.hid fun (Z : List Int) (hZ : Z.length = (elsK L).length) a c w hr => named_any Z (by omega) a c w hr
    clear hb hc hcl hmon htb HS hX hY
    generalize (elsK L).length = m at *
    rw [hlx, hly]
    have HLX := Lib.hid hlx
    have HLY := Lib.hid hly
    clear hlx hly
    go_wp2_with fail
    go_loopw [10, 11] (fun v i wr => ∃ k : Nat, k ≤ m ∧ i = .int .i64 k ∧ wr.ownsRow w1.heap.size 2 1 v (twoL m (tL X) (tL Y) k).length ((twoL m (tL X) (tL Y) k).map (Value.int .i64)) ∧ Below w1.heap.size w1 wr) (fun _ i _ => m - (intOf i).toNat)
    case atStart => exact ⟨0, by omega, rfl, own_empty _ _ (Nat.le_refl _), (Below.refl _ _).alloc (Nat.le_refl _) _⟩
    case round =>
      obtain ⟨k, hk, rfl, hown, hb2⟩ := hrel
      have HO := Lib.hid hown
      have HB2 := Lib.hid hb2
      have hws := hb2.size
      have hlen := twoL_len m (tL X) (tL Y) k
      by_cases hkm : k < m
      · have hkm' : (k : Int) < (m : Int) := by omega
        obtain ⟨b, off, rfl, hlt, hin⟩ := HX1.out.resolve_left (fun e => by have := HLX.out; rw [e] at this; simp at this; omega)
        obtain ⟨b', off', rfl, hlt', hin'⟩ := HY1.out.resolve_left (fun e => by have := HLY.out; rw [e] at this; simp at this; omega)
        have e1 := hin k (by rw [HLX.out]; exact hkm)
        have e2 := hin' k (by rw [HLY.out]; exact hkm)
        rw [show X.getD k 0 = tL X k from rfl] at e1
        rw [show Y.getD k 0 = tL Y k from rfl] at e2
        have HCE : Hid (∀ z, Below w1.heap.size w1 z → z.cell? ⟨b, off + k, none⟩ = some (.int .i64 (tL X k)) ∧ z.cell? ⟨b', off' + k, none⟩ = some (.int .i64 (tL Y k))) := Lib.hid fun z hz => ⟨(hz.cell (p := ⟨b, off + k, none⟩) hlt).trans e1, (hz.cell (p := ⟨b', off' + k, none⟩) hlt').trans e2⟩
        obtain ⟨e1, e2⟩ := HCE.out wr hb2
        obtain ⟨d1, d2, d3, d4⟩ := two_bd hle (HIX.out k) (HIY.out k)
        have hw1 : IntKind.i64.wrap (tL X k * (m : Int)) = tL X k * (m : Int) := IntWalk.i64_in _ (by omega)
        have hw2 : IntKind.i64.wrap (tL X k * (m : Int) + tL Y k) = tL X k * (m : Int) + tL Y k := IntWalk.i64_in _ (by omega)
        have HSU : Hid (twoL m (tL X) (tL Y) (k + 1) = twoL m (tL X) (tL Y) k ++ [tL X k * (m : Int) + tL Y k]) := Lib.hid (twoL_succ m (tL X) (tL Y) k)
        clear hown hb2 hin hin' d1 d2 d3 d4
        generalize tL X k = U at *
        generalize tL Y k = V at *
        generalize twoL m (tL X) (tL Y) k = R0 at *
        go_wp2_with fail
        go_region_held3 (fun w' => w'.cell? ⟨b, off + k, none⟩ = some (.int .i64 U) ∧ w'.cell? ⟨b', off' + k, none⟩ = some (.int .i64 V)) (first | exact ⟨e1, e2⟩ | exact HCE.out _ (HB2.out.alloc hws _) | exact HCE.out _ (HB2.out.alloc hws _).drew | exact ⟨f1, f2⟩)
          (first
            | (refine step_append_own rfl (.tmp 29) (.tmp 42) 25 rfl w1.heap.size 2 i0 (.int .i64 0) 1 8 Try.underlying25 hi hz0' hz1' hz2' rfl (by decide) u10 R0.length (R0.map (Value.int .i64)) rfl (HO.out.alloc _) ⟨wr.heap.size, 0, none⟩ 1 1 [Value.int .i64 (U * (m : Int) + V)] rfl rfl (cell_one_new _ _ _) (ints_oneCell .i64 [U * (m : Int) + V]) (by unfold maxLen; omega) (by omega) (Nat.le_trans hws (by simp)) ?_; intro v7 w7 hown7 hgrow7; have HO7 := Lib.hid hown7; have HB7 : Hid (Below w1.heap.size w1 w7) := Lib.hid (Below.grown (w := (wr.alloc (.cells #[.int .i64 (U * (m : Int) + V)] 2)).drew) (HB2.out.alloc hws _).drew hgrow7 (Nat.le_trans hws (by simp)) (fun r e => (HO.out.lt r e).1)); obtain ⟨f1, f2⟩ := HCE.out w7 HB7.out; clear hown7 hgrow7))
        have HO2 : Hid (w7.ownsRow w1.heap.size 2 1 v7 (twoL m (tL X) (tL Y) (k + 1)).length ((twoL m (tL X) (tL Y) (k + 1)).map (Value.int .i64))) := Lib.hid (by
          have h := HO7.out
          rw [HSU.out, List.map_append, List.length_append]
          exact h)
        clear HO7
        go_wp2_with fail
        go_roundw
        case rel => exact ⟨k + 1, by omega, by go_num, HO2.out, HB7.out⟩
        case measure => simp [intOf]; omega
      · obtain rfl : k = m := by omega
        obtain ⟨a2, c2, rfl, hrd⟩ := own_rd (show Own _ _ _ _ from hown) (by omega)
        rw [hlen]
        have hnm := HNM.out _ hlen a2 c2 wr hrd.inRow
        rw [hlen, twoL_ker] at hnm
        have HNN := Lib.hid hnm
        have hkl := kerK_len (two k (tL X) (tL Y)) k
        clear hown hb2 hnm hrd
        go_wp2_with fail
        refine HNN.out.mono ?_
        rintro e w3 ⟨v, rfl, hown, hb3⟩
        obtain ⟨a3, c3, rfl, hrd⟩ := own_rd hown (by omega)
        have HB3 : Hid (Below w.heap.size w w3) := Lib.hid ((HB.out.trans (HB2.out.mono hs1)).trans (hb3.mono (by omega)))
        have HRD := Lib.hid (hrd.low2 (Nat.le_trans hs1 hws))
        clear hown hrd hb3
        rw [hkl]
        go_wp2_with fail
        go_ret2
        exact ⟨a3, c3, by rw [HE.out, HC0.out, hkl]; rfl, by rw [HE.out]; exact HRD.out, HB3.out⟩

set_option maxRecDepth 100000 in
set_option maxHeartbeats 4000000 in
theorem imee_any (L : List MapN) (hl : L.length ≤ 1048576) (X : List Int) (_ : X.length ≤ 1048576) (hwx : ∀ x ∈ X, (Lit.int .i64 x).wf = true) (Y : List Int) (_ : Y.length ≤ 1048576) (hwy : ∀ x ∈ Y, (Lit.int .i64 x).wf = true) (a : Option Addr) (c : Nat) (hc0 : a = none → c = 0) (ax : Option Addr) (cx : Nat) (ay : Option Addr) (cy : Nat) (w : World) (hr : InRowM w a L) (hrx : InRow w ax X) (hry : InRow w ay Y) :
    Calls Try.prog 37 #[.slice a L.length c, .slice ax X.length cx, .slice ay Y.length cy] w (RetRow w.heap.size (meL L X Y) (cgC L [X, Y]) w) := by
  have hba : Below w.heap.size w (w.alloc (.cells #[.slice ax X.length cx, .slice ay Y.length cy] 25)) := (Below.refl _ _).alloc (Nat.le_refl _) _
  have HS := Lib.hid (icgf_any a c hc0 L hl [X, Y] (by simp) (two_j (Q := fun Z => ∀ x ∈ Z, (Lit.int .i64 x).wf = true) hwx hwy) (some ⟨w.heap.size, 0, none⟩) 2 _ (hr.below hba) (rows_two (c1 := cx) (c2 := cy) hrx hry))
  have HBA := Lib.hid hba
  have HRX := Lib.hid hrx
  have HRY := Lib.hid hry
  have HN0 := Lib.hid fun w => nbq_any 0 (by omega) (fun _ => 0) (fun _ => 0) (fun _ => 0) ⟨fun _ => k2L_key _ _, fun _ _ => by simp⟩ (fun _ => ⟨WalkArith.wf_i64 (by omega), WalkArith.wf_i64 (by omega)⟩) none 0 w (Or.inl rfl)
  clear hr hrx hry hba hc0
  go_enter Try.func37, Try.ntmps37
  go_wp2_with fail
  refine HS.out.mono ?_
  rintro e w1 ⟨hb, ⟨hc, rfl⟩ | ⟨hc, hmon, hle, hcl, a1, c1, a2, c2, rfl, htb, hia⟩⟩
  · have HB := Lib.hid (HBA.out.trans (hb.mono (by simp)))
    have HE := Lib.hid (meL_no hc)
    clear hb hc
    generalize cgC L [X, Y] = C at *
    go_wp2_with fail
    refine wp_loop_rounds 1 ?_
    rw [rounds_succ]
    go_wp2_with fail
    refine (HN0.out _).mono ?_
    rintro e w2 ⟨v, rfl, hown, hb2⟩
    obtain ⟨a3, c3, rfl, hrd⟩ := own_rd hown (by rw [kerK_len]; omega)
    have HB2 : Hid (Below w.heap.size w w2) := Lib.hid (HB.out.trans (hb2.mono HB.out.size))
    clear hown hrd hb2
    rw [kerK_len]
    go_wp2_with fail
    go_ret2
    exact ⟨a3, c3, by rw [HE.out]; rfl, ⟨by rw [HE.out]; simp, Or.inl HE.out⟩, HB2.out⟩
  · have hX : Cls X (elsK L).length := by have := (hcl 0 (by simp)).1; exact this
    have hY : Cls Y (elsK L).length := by have := (hcl 1 (by simp)).1; exact this
    have hlx : X.length = (elsK L).length := hX.1
    have hly : Y.length = (elsK L).length := hY.1
    have HB := Lib.hid (HBA.out.trans (hb.mono (by simp)))
    have HX1 := Lib.hid ((HRX.out.below HBA.out).below hb)
    have HY1 := Lib.hid ((HRY.out.below HBA.out).below hb)
    have HE := Lib.hid (meL_0 hc)
    have HC0 := Lib.hid hc
    have hs1 := HB.out.size
    have hm1 := mon_pos hmon
    have HNQ := Lib.hid fun a c w hr => nbq_any (elsK L).length (by omega) (tL X) (tL Y) (two (elsK L).length (tL X) (tL Y)) (two_ky hX hY hm1 hle) (fun i => by
      have h1 := cls_in hX hm1 i
      have h2 := cls_in hY hm1 i
      exact ⟨WalkArith.wf_i64 (by omega), WalkArith.wf_i64 (by omega)⟩) a c w hr
    have hkl := kerK_len (two (elsK L).length (tL X) (tL Y)) (elsK L).length
    clear hb hc hcl hmon htb HS hX hY hia HN0
    generalize kerK (two (elsK L).length (tL X) (tL Y)) (elsK L).length = J at *
    generalize (elsK L).length = m at *
    rw [hlx, hly]
    have HLX := Lib.hid hlx
    have HLY := Lib.hid hly
    clear hlx hly
    go_wp2_with fail
    go_loopw [11, 12, 24] (fun v _ i wr => ∃ k : Nat, k ≤ m ∧ i = .int .i64 k ∧ OwnQ wr w1.heap.size v (prL (tL X) (tL Y) k) ∧ Below w1.heap.size w1 wr) (fun _ _ i _ => m - (intOf i).toNat)
    case atStart => exact ⟨0, by omega, rfl, World.ownsRow_nil _ _ _ _, Below.refl _ _⟩
    case round =>
      obtain ⟨k, hk, rfl, hown, hb2⟩ := hrel
      have HO := Lib.hid hown
      have HB2 := Lib.hid hb2
      have hws := hb2.size
      have hlen := prL_len (tL X) (tL Y) k
      by_cases hkm : k < m
      · have hkm' : (k : Int) < (m : Int) := by omega
        obtain ⟨b, off, rfl, hlt, hin⟩ := HX1.out.resolve_left (fun e => by have := HLX.out; rw [e] at this; simp at this; omega)
        obtain ⟨b', off', rfl, hlt', hin'⟩ := HY1.out.resolve_left (fun e => by have := HLY.out; rw [e] at this; simp at this; omega)
        have e1 := hin k (by rw [HLX.out]; exact hkm)
        have e2 := hin' k (by rw [HLY.out]; exact hkm)
        rw [show X.getD k 0 = tL X k from rfl] at e1
        rw [show Y.getD k 0 = tL Y k from rfl] at e2
        have HCE : Hid (∀ z, Below w1.heap.size w1 z → z.cell? ⟨b, off + k, none⟩ = some (.int .i64 (tL X k)) ∧ z.cell? ⟨b', off' + k, none⟩ = some (.int .i64 (tL Y k))) := Lib.hid fun z hz => ⟨(hz.cell (p := ⟨b, off + k, none⟩) hlt).trans e1, (hz.cell (p := ⟨b', off' + k, none⟩) hlt').trans e2⟩
        obtain ⟨e1, e2⟩ := HCE.out wr hb2
        have HSU := Lib.hid (prL_succ (tL X) (tL Y) k)
        clear hown hb2 hin hin'
        generalize prL (tL X) (tL Y) k = P0 at *
        generalize tL X k = U at *
        generalize tL Y k = V at *
        go_wp2_with fail
        go_region_held3 (fun w' => w'.cell? ⟨b, off + k, none⟩ = some (.int .i64 U) ∧ w'.cell? ⟨b', off' + k, none⟩ = some (.int .i64 V)) (first | exact ⟨e1, e2⟩ | exact HCE.out _ (HB2.out.alloc hws _) | exact HCE.out _ (HB2.out.alloc hws _).drew | exact ⟨f1, f2⟩)
          (first
            | (refine step_appQ rfl (.tmp 27) (.tmp 37) rfl w1.heap.size u11 P0 rfl (show OwnQ _ _ _ _ from (HO.out : wr.ownsRow _ _ _ _ _ _).alloc _) wr.heap.size 1 U V rfl (halloc_at wr _ _ rfl) (by omega) (Nat.le_trans hws (by simp)) ?_; intro v7 w7 hown7 hgrow7; have HO7 := Lib.hid hown7; have HB7 : Hid (Below w1.heap.size w1 w7) := Lib.hid (Below.grown (w := (wr.alloc (.cells #[.int .i64 U, .int .i64 V] 77)).drew) (HB2.out.alloc hws _).drew hgrow7 (Nat.le_trans hws (by simp)) (fun r e => (HO.out.lt r e).1)); obtain ⟨f1, f2⟩ := HCE.out w7 HB7.out; clear hown7 hgrow7))
        go_wp2_with fail
        go_roundw
        case rel => exact ⟨k + 1, by omega, by go_num, by rw [HSU.out]; exact HO7.out, HB7.out⟩
        case measure => simp [intOf]; omega
      · obtain rfl : k = m := by omega
        obtain ⟨a3, c3, rfl, hq⟩ := ownQ_in hown
        have HQ := Lib.hid (HNQ.out a3 c3 wr hq)
        clear hown hb2 hq
        go_wp2_with fail
        refine HQ.out.mono ?_
        rintro e w3 ⟨v, rfl, hown, hb3⟩
        obtain ⟨a4, c4, rfl, hrd⟩ := own_rd hown (by omega)
        have HB3 : Hid (Below w.heap.size w w3) := Lib.hid ((HB.out.trans (HB2.out.mono hs1)).trans (hb3.mono (by omega)))
        have HRD := Lib.hid (hrd.low2 (Nat.le_trans hs1 hws))
        clear hown hrd hb3
        rw [hkl]
        go_wp2_with fail
        go_ret2
        exact ⟨a4, c4, by rw [HE.out, HC0.out, hkl]; rfl, by rw [HE.out]; exact HRD.out, HB3.out⟩

end Go.Proofs.Ytdgdcpcfjdnlcaa
