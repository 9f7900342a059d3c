/- madeBy at no table: the array of no classes. The contracts of spec.l06Apart, spec.l06Pairs and spec.l06Made. The contracts of RightCongruence and CongruenceOf, on both sides. -/
import Derived.Test.YtoagpklippdlmaaMby
import Derived.Test.YtoagpklippdlmaaPfr
import Derived.Test.YtoagpklippdlmaaClsd
import Derived.Test.YtoagpklippdlmaaNm
import Derived.Test.YtoagpklippdlmaaTab
namespace Go.Proofs.Ytoagpklippdlmaa
open Go Go.RowKit

set_option maxRecDepth 100000 in
set_option maxHeartbeats 2000000 in
theorem mby0_any (s : Bool) (w : World) :
    Calls Try.prog 51 #[.slice none 0 0, .slice none 0 0, .bool s] w fun e w' => e = .returned (.agg (ac [])) ∧ Below w.heap.size w w' := by
  have hz : ∀ w : World, (zeroValue 64).run Try.prog w = .ok (.agg (acl []).toArray) w := fun _ => by kernel_rfl
  have h0 := acl_len (L := []) (by simp)
  obtain ⟨Z, hZ⟩ : ∃ Z, Z = (acl []).toArray := ⟨_, rfl⟩
  have HZS : Hid (Z.size = 30) := Lib.hid (by rw [hZ]; simp [h0])
  rw [← hZ] at hz
  clear h0 hZ
  have HNB := Lib.hid fun w => nbf_any [] (by simp) (fun x hx => by cases hx) none 0 w (Or.inl rfl)
  have HAC := Lib.hid fun a c w => arrC_any [] (by simp) a c w (Or.inl rfl)
  have HSC : Hid ((ac []).size = 30) := Lib.hid (ac_size (by simp))
  have HOC := Lib.hid (ac_one [])
  have HSZ1 := Lib.hid (size_arr1 _ HSC.out)
  generalize ac [] = C at *
  go_enter Try.func51, Try.ntmps51
  go_wp2_with fail
  obtain ⟨wz, hwz⟩ : ∃ wz, wz = w.alloc (.cells Z 64) := ⟨_, rfl⟩
  rw [← hwz]
  have HBX : Hid (wz.heap[w.heap.size]? = some (.cells Z 64 (0, 0))) := Lib.hid (by rw [hwz]; exact halloc_at _ _ _ rfl)
  have HBZ : Hid (Below w.heap.size w wz) := Lib.hid (by rw [hwz]; exact (Below.refl _ _).alloc (Nat.le_refl _) _)
  have hsz : w.heap.size < wz.heap.size := by rw [hwz]; simp
  clear hwz hz
  refine wp_loop_rounds 1 ?_
  rw [rounds_succ]
  go_wp2_with fail
  refine wp_loop_rounds 1 ?_
  rw [rounds_succ]
  go_wp2_with fail
  refine (HNB.out _).mono ?_
  rintro e w1 ⟨v, rfl, hown, hb1⟩
  obtain ⟨a1, c1, rfl, _⟩ := own_rd hown (by rw [kerK_len]; simp)
  rw [kerK_len]
  have HB1 := Lib.hid hb1
  clear hown hb1
  go_wp2_with fail
  refine (HAC.out _ _ _).mono ?_
  rintro e w2 ⟨rfl, hb2⟩
  have HB2 : Hid (Below wz.heap.size wz w2) := Lib.hid (HB1.out.trans (hb2.mono HB1.out.size))
  have HX2 : Hid (w2.heap[w.heap.size]? = some (.cells Z 64 (0, 0))) := Lib.hid ((HB2.out.block _ hsz).trans HBX.out)
  clear hb2
  go_wp2_with (with_reducible refine wpList_store_row rfl 64 (.tmp 6) (.tmp 38) rfl w.heap.size C rfl rfl 64 Z HX2.out HSZ1.out ?sb HOC.out ?_)
  case sb => rw [HZS.out, HSC.out]
  refine bodyPost_ret (v := .agg C) (results_cell_row Try.results51 _ _ w.heap.size 64 C (0, 0) _ rfl (setRow_heap _ _ Z _ _ _ HX2.out) Try.underlying64 rfl HSZ1.out) rfl ⟨rfl, ?_⟩
  exact below_setRow (HBZ.out.trans (HB2.out.mono (by omega))) (Nat.le_refl _) _

end Go.Proofs.Ytoagpklippdlmaa

namespace Go.Proofs.Ytoagpklippdlmaa
open Go Go.RowKit

/-- What joining the pairs ahead of number k has come to. -/
def Jp (m : Nat) (r : Nat → Int) (P : List (Nat × Nat)) : Prop :=
  (∀ i j, (i, j) ∈ P → r i = r j) ∧ ∀ Q, Eqv m Q → (∀ i j, (i, j) ∈ P → Q i j) → KQ m r Q

theorem Jp.start (m : Nat) (r : Nat → Int) (h : ∀ i, i < m → r i = i) : Jp m r [] :=
  ⟨fun i j hm => by simp at hm, fun Q hQ _ i j hi hj e => by
    rw [h i hi, h j hj] at e
    have : i = j := by omega
    subst this
    exact hQ.rf i hi⟩

theorem Jp.step {m : Nat} {r : Nat → Int} {P : List (Nat × Nat)} (h : Jp m r P) {a b : Nat} (ha : a < m) (hb : b < m) : Jp m (rn r (r b) (r a)) (P ++ [(a, b)]) := by
  refine ⟨fun i j hm => ?_, fun Q hQ hP => ?_⟩
  · rw [rn_iff]
    rcases List.mem_append.1 hm with c | c
    · exact Or.inl (h.1 i j c)
    · simp at c
      obtain ⟨rfl, rfl⟩ := c
      exact Or.inr ⟨Or.inr rfl, Or.inl rfl⟩
  · have h1 := h.2 Q hQ fun i j c => hP i j (List.mem_append_left _ c)
    exact kq_rn hQ h1 hb ha (hQ.sy _ _ ha hb (hP a b (by simp)))

theorem jp_gen {m : Nat} {mu : Nat → Nat → Nat} {s : Bool} {r : Nat → Int} {P : List (Nat × Nat)} (h : Jp m r P) (hP : ∀ i j, (i, j) ∈ P → i < m ∧ j < m) :
    kerG m mu s (fun i j => tL (nml r m) i = tL (nml r m) j) = kerG m mu s (prs P) := by
  have hn : ∀ i, i < m → tL (nml r m) i = r i := fun i hi => nml_at r m i hi
  refine kerG_congr (fun a b ha hb e => ?_) (fun a b ha hb e => ?_)
  · rw [hn a ha, hn b hb] at e
    exact h.2 (Gen m mu s (prs P)) (gen_cgr m mu s _).eqv (fun i j c => gen_base (hP i j c).1 (hP i j c).2 c) a b ha hb e
  · refine gen_base ha hb ?_
    show tL (nml r m) a = tL (nml r m) b
    rw [hn a ha, hn b hb]
    exact h.1 a b e

set_option maxRecDepth 100000 in
set_option maxHeartbeats 2000000 in
theorem apt6_any (m : Nat) (hm : m ≤ 300) (w : World) :
    Calls Try.prog 112 #[.int .i64 (m : Nat)] w (RetOwn w.heap.size (rng m) w) := by
  obtain ⟨i0, hi, hz0, hz1, hz2⟩ := info_parts info_int
  go_enter Try.func112, Try.ntmps112
  go_wp2_with fail
  go_loopw [3, 4] (fun v i wr => ∃ k : Nat, k ≤ m ∧ i = .int .i64 k ∧ Own wr w.heap.size v (rng k) ∧ Below w.heap.size w wr) (fun _ i _ => m - (intOf i).toNat)
  case atStart => exact ⟨0, by omega, rfl, own_empty w w.heap.size (Nat.le_refl _), (Below.refl _ _).alloc (Nat.le_refl _) _⟩
  case round =>
    obtain ⟨k, hk, rfl, hown, hb⟩ := hrel
    have HB := Lib.hid hb
    have hsr := hb.size
    clear hb
    by_cases hkm : k < m
    · have hkm' : (k : Int) < (m : Int) := by omega
      have HRS := Lib.hid (rng_succ k)
      have HRL := Lib.hid (rng_len k)
      generalize rng k = R0 at *
      go_wp2_with (at_builtin; refine wpList_append_own _ rfl _ _ 26 rfl w.heap.size 2 i0 (.int .i64 0) 1 8 Try.underlying26 hi hz0 hz1 hz2 rfl (by decide) _ _ _ rfl (World.ownsRow.alloc hown _) ⟨wr.heap.size, 0, none⟩ 1 1 [.int .i64 k] rfl rfl ?c1 ?c2 ?c3 ?c4 ?c5 ?_)
      case c1 =>
        intro j u hj
        match j, hj with
        | 0, hj => simp at hj; subst hj; simp [Addr.add]
      case c2 => intro u hu; simp at hu; subst hu; rfl
      case c3 => unfold maxLen; rw [HRL.out]; omega
      case c4 => rw [HRL.out]; omega
      case c5 => simp; omega
      intro v' w3 hown' hgrow _
      have hown3 : Hid (Own w3 w.heap.size v' (rng (k + 1))) := by
        refine Lib.hid ?_
        unfold Own
        rw [HRS.out]; simpa using hown'
      have hb3 : Hid (Below w.heap.size w w3) :=
        Lib.hid ((HB.out.alloc hsr _).grown hgrow (by simp; omega) (fun b hbk => by
          rcases hown.2 with ⟨hv, _⟩ | ⟨g, cap, cur, hv, hg, _⟩
          · rw [hv] at hbk; cases hbk
          · rw [hv] at hbk; cases hbk; exact hg))
      clear hown' hgrow hown
      go_wp2_with fail
      go_roundw
      case rel => exact ⟨k + 1, by omega, by go_num, hown3.out, hb3.out⟩
      case measure => simp [intOf]; omega
    · obtain rfl : k = m := by omega
      have HO := Lib.hid hown
      clear hown
      go_wp2_with fail
      go_ret
      exact ⟨_, rfl, HO.out, HB.out⟩

/-- What is left of pairs, on the side of spec. -/
def RetPr (m : Nat) (PP : List (List Int)) (w : World) (e : Ending) (w' : World) : Prop :=
  Below w.heap.size w w' ∧ ∃ g c, w.heap.size ≤ g ∧ ((e = .returned (.tuple #[.slice (some ⟨g, 0, none⟩) m c, .bool false]) ∧ (PP.length > 10 ∨ ∃ j, j < PP.length ∧ okP m (PP.getD j []) = false)) ∨
    (e = .returned (.tuple #[.slice (some ⟨g, 0, none⟩) m c, .bool true]) ∧ ¬ PP.length > 10 ∧ (∀ j, j < PP.length → okP m (PP.getD j []) = true) ∧ ∃ r, Nm w' g m r ∧ Jp m r (PP.map prP)))

theorem okP_no2 {m : Nat} {X : List Int} (h : X.length ≠ 2) : okP m X = false := by unfold okP; rw [decide_eq_false h]; rfl
theorem okP_in {m : Nat} {X : List Int} (h : X.length = 2) : okP m X = (inB (X.getD 0 0) 0 ((m : Int) - 1) && inB (X.getD 1 0) 0 ((m : Int) - 1)) := by
  match X, h with
  | [x, y], _ =>
    have e : ∀ z : Int, (decide (0 ≤ z) && decide (z < (m : Int))) = inB z 0 ((m : Int) - 1) := fun z => by
      unfold inB
      rw [show decide (z < (m : Int)) = decide (z ≤ (m : Int) - 1) from by rw [decide_eq_decide]; omega]
    show (decide (([x, y] : List Int).length = 2) && ((decide (0 ≤ x) && decide (x < (m : Int))) && ((decide (0 ≤ y) && decide (y < (m : Int))) && true))) = _
    rw [e, e, Bool.and_true]
    rfl

set_option maxRecDepth 100000 in
set_option maxHeartbeats 4000000 in
theorem sprs_any (m : Nat) (hm : m ≤ 300) (hm1 : 1 ≤ m) (PP : List (List Int)) (hPn : PP.length ≤ 1048576) (ag : Option Addr) (cg : Nat) (w : World) (hg : InRowL w ag PP) :
    Calls Try.prog 81 #[.int .i64 (m : Nat), .slice ag PP.length cg] w (RetPr m PP w) := by
  have HRS := Lib.hid hg
  have HAP := Lib.hid fun w => apt6_any m hm w
  have hrl := rng_len m
  clear hg
  go_enter Try.func81, Try.ntmps81
  go_wp2_with fail
  refine (HAP.out _).mono ?_
  rintro e w1 ⟨v, rfl, hown, hb⟩
  obtain ⟨g, cap, rfl, hgB, hn⟩ := own_nm hown (fun e => by rw [e] at hrl; simp at hrl; omega)
  rw [hrl] at hn ⊢
  have HB := Lib.hid hb
  have HN := Lib.hid hn
  have HS0 := Lib.hid (Jp.start m (tL (rng m)) (fun i hi => rng_at m i hi))
  have hs1 := hb.size
  clear hb hn hown hrl HAP
  generalize tL (rng m) = r0 at *
  by_cases hlong : PP.length > 10
  · have hlong' : (10 : Int) < (PP.length : Int) := by omega
    go_wp2_with fail
    go_ret2
    exact ⟨HB.out, g, cap, hgB, Or.inl ⟨rfl, Or.inl hlong⟩⟩
  · have hlong' : ¬ (10 : Int) < (PP.length : Int) := by omega
    go_wp2_with fail
    go_loopw [7] (fun i wr => ∃ (k : Nat) (r : Nat → Int), k ≤ PP.length ∧ i = .int .i64 k ∧ Nm wr g m r ∧ Below w.heap.size w wr ∧ Jp m r ((PP.take k).map prP) ∧ ∀ j, j < k → okP m (PP.getD j []) = true) (fun i _ => PP.length - (intOf i).toNat)
    case atStart => exact ⟨0, r0, by omega, rfl, HN.out, HB.out, HS0.out, fun j hj => by omega⟩
    case round =>
      obtain ⟨k, r, hk, rfl, hn, hb, hjp, hal⟩ := hrel
      have HNR := Lib.hid hn
      have HBR := Lib.hid hb
      have HJP := Lib.hid hjp
      have HAL := Lib.hid hal
      have hsr := hb.size
      by_cases hkl : k < PP.length
      · have hkl' : (k : Int) < (PP.length : Int) := by omega
        obtain ⟨b, off, eag, hlt, hcs⟩ := (HRS.out.below hb).resolve_left (fun e => by rw [e] at hkl; simp at hkl)
        subst eag
        obtain ⟨ar, cr, e1, R1⟩ := hcs k hkl
        have HTK : Hid ((PP.take (k + 1)).map prP = (PP.take k).map prP ++ [prP (PP.getD k [])]) := Lib.hid (by
          rw [List.take_add_one, List.map_append, List.getElem?_eq_getElem hkl, List.getD_eq_getElem?_getD, List.getElem?_eq_getElem hkl]; rfl)
        have HALS : Hid (okP m (PP.getD k []) = true → ∀ j, j < k + 1 → okP m (PP.getD j []) = true) := Lib.hid fun h j hj => by
          rcases Nat.lt_succ_iff_lt_or_eq.1 hj with h2 | h2
          · exact HAL.out j h2
          · subst h2; exact h
        have HNO : Hid (okP m (PP.getD k []) = false → ∃ j, j < PP.length ∧ okP m (PP.getD j []) = false) := Lib.hid fun h => ⟨k, hkl, h⟩
        clear hn hb hjp hal hcs
        generalize PP.getD k [] = X at *
        generalize (PP.take k).map prP = P0 at *
        by_cases hX2 : X.length = 2
        · have hoi := okP_in (m := m) hX2
          rw [hX2] at e1
          obtain ⟨b', off', rfl, hlt', hin⟩ := R1.resolve_left (fun e => by rw [e] at hX2; simp at hX2)
          have f0 := hin 0 (by omega)
          have f1 := hin 1 (by omega)
          rw [Nat.add_zero] at f0
          have HI := Lib.hid fun (z hi : Int) (w : World) => in_any z 0 hi w
          by_cases hok : okP m X = true
          · obtain ⟨p0, p1, p2, p3⟩ := prP_bd hok
            rw [p0] at f0 hoi
            rw [p1] at f1 hoi
            have HV := Lib.hid (HALS.out hok)
            rw [hok, eq_comm, Bool.and_eq_true] at hoi
            obtain ⟨q0, q1⟩ := hoi
            have HPX : Hid (prP X = ((prP X).1, (prP X).2)) := Lib.hid rfl
            rw [HPX.out] at HTK
            clear hin hok p0 p1 R1 HPX HALS HNO
            generalize (prP X).1 = A at *
            generalize (prP X).2 = D at *
            have n0 := HNR.out.cell p2
            have n1 := HNR.out.cell p3
            have pA : (A : Int) < (m : Int) := by omega
            have pD : (D : Int) < (m : Int) := by omega
            have HJ := Lib.hid fun wq h => join_any m (by omega) r g w.heap.size cap (r D) (r A) wq hgB h
            have HJS := Lib.hid (HJP.out.step p2 p3)
            obtain ⟨r2, hr2⟩ : ∃ r2, r2 = rn r (r D) (r A) := ⟨_, rfl⟩
            rw [← hr2] at HJ HJS
            clear hr2
            generalize r A = VA at *
            generalize r D = VD at *
            go_wp2_with (go_at_call 102; refine (HI.out _ _ _).mono ?_; rintro e w2 ⟨rfl, rfl⟩; (first | rw [q0] | rw [q1]))
            go_still_tail 19, (by kernel_rfl)
            go_wp2_with fail
            refine (HJ.out _ (HNR.out.below (below_drewN (Below.refl _ _) _))).mono ?_
            rintro e w2 ⟨rfl, hn2, hb2⟩
            have HN2 := Lib.hid hn2
            have HB2 : Hid (Below w.heap.size w w2) := Lib.hid ((below_drewN HBR.out _).trans hb2)
            clear hn2 hb2 n0 n1 f0 f1 e1
            go_wp2_with fail
            go_roundw
            case rel => exact ⟨k + 1, r2, by omega, by go_num, HN2.out, HB2.out, by rw [HTK.out]; exact HJS.out, HV.out⟩
            case measure => simp [intOf]; omega
          · have hokf : okP m X = false := by simpa using hok
            have HE2 := Lib.hid (HNO.out hokf)
            rw [hokf] at hoi
            clear hin hok R1 HALS HNO hokf
            generalize X.getD 0 0 = x0 at *
            generalize X.getD 1 0 = x1 at *
            cases h0 : inB x0 0 ((m : Int) - 1)
            · clear hoi
              go_wp2_with (go_at_call 102; refine (HI.out _ _ _).mono ?_; rintro e w2 ⟨rfl, rfl⟩; rw [h0])
              go_ret2
              exact ⟨HBR.out, g, cap, hgB, Or.inl ⟨rfl, Or.inr HE2.out⟩⟩
            · cases h1 : inB x1 0 ((m : Int) - 1)
              · clear hoi
                go_wp2_with (go_at_call 102; refine (HI.out _ _ _).mono ?_; rintro e w2 ⟨rfl, rfl⟩; (first | rw [h0] | rw [h1]))
                go_ret2
                exact ⟨HBR.out, g, cap, hgB, Or.inl ⟨rfl, Or.inr HE2.out⟩⟩
              · rw [h0, h1] at hoi
                cases hoi
        · have HE2 := Lib.hid (HNO.out (okP_no2 hX2))
          have hX3 : ((X.length : Int) != 2) = true := by simp; omega
          clear R1
          go_wp2_with fail
          go_ret2
          exact ⟨HBR.out, g, cap, hgB, Or.inl ⟨rfl, Or.inr HE2.out⟩⟩
      · obtain rfl : k = PP.length := by omega
        rw [List.take_length] at hjp
        have HJ := Lib.hid hjp
        clear hn hb hjp hal
        go_wp2_with fail
        go_ret2
        exact ⟨HBR.out, g, cap, hgB, Or.inr ⟨rfl, hlong, HAL.out, r, HNR.out, HJ.out⟩⟩

theorem rd_low6 {w : World} {B B2 : Nat} {a : Option Addr} {J : List Int} (h : Rd w B a J) (hB : B2 ≤ B) : Rd w B2 a J := by
  refine ⟨h.1, ?_⟩
  rcases h.2 with h0 | ⟨g, ha, hg, rest⟩
  · exact Or.inl h0
  · exact Or.inr ⟨g, ha, Nat.le_trans hB hg, rest⟩

/-- The congruence that pairs make; nothing with an error. -/
noncomputable def mdL (s : Bool) (L : List MapN) (PP : List (List Int)) : List Int := if pfC L PP = 0 then kerG (elsK L).length (muK (fst0 L) (elsK L)) s (prs (PP.map prP)) else []

theorem mdL_0 {s : Bool} {L : List MapN} {PP : List (List Int)} (h : pfC L PP = 0) : mdL s L PP = kerG (elsK L).length (muK (fst0 L) (elsK L)) s (prs (PP.map prP)) := by unfold mdL; rw [if_pos h]
theorem mdL_no {s : Bool} {L : List MapN} {PP : List (List Int)} (h : pfC L PP ≠ 0) : mdL s L PP = [] := by unfold mdL; rw [if_neg h]

theorem prs_bd {m : Nat} {PP : List (List Int)} (h : ∀ j, j < PP.length → okP m (PP.getD j []) = true) : ∀ i j, (i, j) ∈ PP.map prP → i < m ∧ j < m := fun i j hm => by
  obtain ⟨X, hX, e⟩ := List.mem_map.1 hm
  obtain ⟨k, hk, rfl⟩ := List.getElem_of_mem hX
  have := h k hk
  rw [List.getD_eq_getElem?_getD, List.getElem?_eq_getElem hk] at this
  obtain ⟨_, _, p2, p3⟩ := prP_bd (show okP m PP[k] = true from this)
  rw [e] at p2 p3
  exact ⟨p2, p3⟩

set_option maxRecDepth 100000 in
set_option maxHeartbeats 4000000 in
theorem smd_any (s : Bool) (L : List MapN) (hl : L.length ≤ 1048576) (PP : List (List Int)) (hPn : PP.length ≤ 1048576) (a : Option Addr) (c : Nat) (ag : Option Addr) (cg : Nat) (w : World) (hr : InRowM w a L) (hg : InRowL w ag PP) :
    Calls Try.prog 47 #[.slice a L.length c, .slice ag PP.length cg, .bool s] w (RetRow w.heap.size (mdL s L PP) (pfC L PP) w) := by
  have HG := Lib.hid (sgvn_any 30 (by omega) a c L hl w hr)
  have HRS := Lib.hid hg
  clear hr hg
  go_enter Try.func47, Try.ntmps47
  go_wp2_with fail
  refine HG.out.mono ?_
  rintro e w1 ⟨hb, ⟨hc, rfl⟩ | ⟨hc, hmon, hle, a1, c1, rfl, htb⟩⟩
  · have HB := Lib.hid hb
    have hp := pfC_bad (PP := PP) hc
    have HE := Lib.hid (mdL_no (s := s) (L := L) (PP := PP) (by rw [hp]; exact hc))
    have HP := Lib.hid hp
    have hne : (tC 30 L != 0) = true := by simpa using hc
    clear hb hc hp
    generalize tC 30 L = C at *
    go_wp2_with fail
    go_ret2
    exact ⟨none, 0, by rw [HE.out, HP.out]; rfl, ⟨by rw [HE.out]; simp, Or.inl HE.out⟩, HB.out⟩
  · have hm1 := mon_pos hmon
    have HB := Lib.hid hb
    have HTB := Lib.hid htb
    have hmu := fun i j hi hj => muK_lt hmon i j hi hj
    have HPR := Lib.hid (sprs_any (elsK L).length (by omega) hm1 PP hPn ag cg w1 (HRS.out.below hb))
    have HQL := Lib.hid fun h2 => pfC_long (PP := PP) hc h2
    have HQ := Lib.hid fun j hj h2 => pfC_2 (PP := PP) hc j hj h2
    have HQ0 := Lib.hid fun h1 h2 => pfC_0 (PP := PP) hc h1 h2
    have HCL := Lib.hid fun L2 hL2 aT a cT c K w ht hr => clsd_any (elsK L).length (by omega) hm1 (muK (fst0 L) (elsK L)) hmu s L2 hL2 aT a cT c K w ht hr
    have HG2 := Lib.hid fun r hj hp => jp_gen (m := (elsK L).length) (mu := muK (fst0 L) (elsK L)) (s := s) (r := r) (P := PP.map prP) hj hp
    have HM0 := Lib.hid fun h => mdL_0 (s := s) (L := L) (PP := PP) h
    have HMN := Lib.hid fun h => mdL_no (s := s) (L := L) (PP := PP) h
    have hkl := kerG_len (elsK L).length (muK (fst0 L) (elsK L)) s (prs (PP.map prP))
    have hs1 := hb.size
    clear hb hc hmon htb HG hmu
    generalize muK (fst0 L) (elsK L) = mu at *
    generalize (elsK L).length = m at *
    go_wp2_with fail
    refine HPR.out.mono ?_
    rintro e w2 ⟨hb2, g, cap, hgB, ⟨rfl, hbad⟩ | ⟨rfl, hlong, hal, r, hn, hjp⟩⟩
    · have hp2 : pfC L PP = 2 := by
        rcases hbad with h | ⟨j, hj, h⟩
        · exact HQL.out h
        · exact HQ.out j hj h
      have HB2 : Hid (Below w.heap.size w w2) := Lib.hid (HB.out.trans (hb2.mono hs1))
      have HE := Lib.hid (HMN.out (by rw [hp2]; decide))
      have HP := Lib.hid hp2
      clear hb2 hbad hp2
      go_wp2_with fail
      go_ret2
      exact ⟨none, 0, by rw [HE.out, HP.out]; rfl, ⟨by rw [HE.out]; simp, Or.inl HE.out⟩, HB2.out⟩
    · have hp0 := HQ0.out hlong hal
      have HP := Lib.hid hp0
      have HE := Lib.hid (HM0.out hp0)
      have hs2 := hb2.size
      have HB2 : Hid (Below w.heap.size w w2) := Lib.hid (HB.out.trans (hb2.mono hs1))
      have HT2 := Lib.hid (HTB.out.below hb2)
      have hkk := HG2.out r hjp (prs_bd hal)
      have HC2 := Lib.hid (HCL.out (nml r m) (nml_len r m) a1 (some ⟨g, 0, none⟩) c1 cap _ w2 HT2.out (hn.inRow (nml_len r m) (fun i hi => nml_at r m i hi)))
      rw [hkk] at HC2
      clear hb2 hn hjp hal hkk hp0 HG2 HCL HQ0 HQ HQL HM0 HMN
      generalize kerG m mu s (prs (PP.map prP)) = J at *
      go_wp2_with fail
      refine HC2.out.mono ?_
      rintro e w3 ⟨v, rfl, hown, hb3⟩
      obtain ⟨a3, c3, rfl, hrd⟩ := own_rd hown (by omega)
      have HB3 : Hid (Below w.heap.size w w3) := Lib.hid (HB2.out.trans (hb3.mono HB2.out.size))
      have HRD := Lib.hid (rd_low6 hrd HB2.out.size)
      clear hown hrd hb3
      rw [hkl]
      go_wp2_with fail
      go_ret2
      exact ⟨a3, c3, by rw [HE.out, HP.out, hkl]; rfl, by rw [HE.out]; exact HRD.out, HB3.out⟩

end Go.Proofs.Ytoagpklippdlmaa

namespace Go.Proofs.Ytoagpklippdlmaa
open Go Go.RowKit

theorem rd_arr6 {w : World} {B g : Nat} {T : TypeId} {J : List Int} (hJ : J.length ≤ 30) (hB : B ≤ g) (h : w.heap[g]? = some (.cells (ac J) T (0, 0))) : Rd w B (some ⟨g, 0, none⟩) J :=
  ⟨by omega, Or.inr ⟨g, rfl, hB, (Array.getElem?_eq_some_iff.1 h).1, fun i hi => ⟨(Joins.cell_of_block h i).trans (ac_at J i (by omega)), Joins.unfrozen_of_block h i⟩⟩⟩

set_option maxRecDepth 100000 in
set_option maxHeartbeats 4000000 in
theorem iRcg_any (L : List MapN) (hl : L.length ≤ 1048576) (PP : List (List Int)) (hPn : PP.length ≤ 1048576) (hPl : ∀ j, j < PP.length → (PP.getD j []).length ≤ 1048576) (a : Option Addr) (c : Nat) (hc0 : a = none → c = 0) (ag : Option Addr) (cg : Nat) (w : World) (hr : InRowM w a L) (hg : InRowL w ag PP) :
    Calls Try.prog 18 #[.slice a L.length c, .slice ag PP.length cg] w (RetRow w.heap.size (mdL false L PP) (pfC L PP) w) := by
  have HG := Lib.hid (ipf_any a c hc0 L hl PP hPn hPl ag cg w hr hg)
  clear hr hg hc0
  go_enter Try.func18, Try.ntmps18
  go_wp2_with fail
  refine HG.out.mono ?_
  rintro e w1 ⟨hb, ⟨hc, rfl⟩ | ⟨hc, hmon, hle, hpl, hok, a1, c1, a2, c2, rfl, htb, hip⟩⟩
  · have HB := Lib.hid hb
    have HE := Lib.hid (mdL_no (s := false) hc)
    have HM := Lib.hid fun w => mby0_any false w
    have HCL := Lib.hid fun w => clist_any 0 (by omega) (ac []) (ac_size (by simp)) none 0 w
    have hs1 := hb.size
    clear hb hc
    generalize pfC L PP = C at *
    generalize ac [] = Z at *
    go_wp2_with fail
    refine (HM.out _).mono ?_
    rintro e w2 ⟨rfl, hb2⟩
    have HB2 : Hid (Below w.heap.size w w2) := Lib.hid (HB.out.trans (hb2.mono hs1))
    clear hb2
    go_wp2_with fail
    refine (HCL.out _).mono ?_
    rintro e w3 ⟨rfl, hw3⟩
    have HB3 : Hid (Below w.heap.size w w3) := Lib.hid (by rw [hw3]; exact HB2.out.alloc HB2.out.size _)
    clear hw3
    go_wp2_with fail
    go_ret2
    exact ⟨_, 30, by rw [HE.out]; rfl, ⟨by rw [HE.out]; simp, Or.inl HE.out⟩, HB3.out⟩
  · have hm1 := mon_pos hmon
    have HB := Lib.hid hb
    have HC0 := Lib.hid hc
    have HE := Lib.hid (mdL_0 (s := false) hc)
    have hs1 := hb.size
    have hP : ∀ k, k < (PP.map prP).length → ((PP.map prP).getD k (0, 0)).1 < (elsK L).length ∧ ((PP.map prP).getD k (0, 0)).2 < (elsK L).length := fun k hk => by
      refine prs_bd hok _ _ ?_
      rw [List.getD_eq_getElem?_getD, List.getElem?_eq_getElem hk]
      exact List.getElem_mem hk
    have HMB := Lib.hid (mby_any (elsK L).length hle hm1 (muK (fst0 L) (elsK L)) (fun i j hi hj => muK_lt hmon i j hi hj) false (PP.map prP) hP (by rw [List.length_map]; omega) a1 a2 c1 c2 w1.heap.size w1 htb hip)
    rw [List.length_map] at HMB
    have hkl := kerG_len (elsK L).length (muK (fst0 L) (elsK L)) false (prs (PP.map prP))
    have HCL := Lib.hid fun w => clist_any (elsK L).length hle (ac (kerG (elsK L).length (muK (fst0 L) (elsK L)) false (prs (PP.map prP)))) (ac_size (by rw [hkl]; exact hle)) a1 c1 w
    have HRA : Hid (∀ (z : World) (B g : Nat), B ≤ g → z.heap[g]? = some (.cells (ac (kerG (elsK L).length (muK (fst0 L) (elsK L)) false (prs (PP.map prP)))) 64 (0, 0)) → Rd z B (some ⟨g, 0, none⟩) (kerG (elsK L).length (muK (fst0 L) (elsK L)) false (prs (PP.map prP)))) := Lib.hid fun z B g hB h => rd_arr6 (by rw [hkl]; exact hle) hB h
    clear hb hc hmon htb hip hok hP HG
    generalize kerG (elsK L).length (muK (fst0 L) (elsK L)) false (prs (PP.map prP)) = J at *
    generalize (elsK L).length = m at *
    generalize ac J = CJ at *
    go_wp2_with fail
    refine HMB.out.mono ?_
    rintro e w2 ⟨rfl, hb2⟩
    have HB2 : Hid (Below w.heap.size w w2) := Lib.hid (HB.out.trans (hb2.mono hs1))
    clear hb2
    go_wp2_with fail
    refine (HCL.out _).mono ?_
    rintro e w3 ⟨rfl, hw3⟩
    have HB3 : Hid (Below w.heap.size w w3) := Lib.hid (by rw [hw3]; exact HB2.out.alloc HB2.out.size _)
    have HRD := Lib.hid (HRA.out w3 w.heap.size w2.heap.size HB2.out.size (by rw [hw3]; exact halloc_at _ _ _ rfl))
    clear hw3
    go_wp2_with fail
    go_ret2
    exact ⟨_, 30, by rw [HE.out, HC0.out, hkl]; rfl, by rw [HE.out]; exact HRD.out, HB3.out⟩

set_option maxRecDepth 100000 in
set_option maxHeartbeats 2000000 in
theorem sRcg_any (L : List MapN) (hl : L.length ≤ 1048576) (PP : List (List Int)) (hPn : PP.length ≤ 1048576) (_ : ∀ j, j < PP.length → (PP.getD j []).length ≤ 1048576) (a : Option Addr) (c : Nat) (_ : a = none → c = 0) (ag : Option Addr) (cg : Nat) (w : World) (hr : InRowM w a L) (hg : InRowL w ag PP) :
    Calls Try.prog 15 #[.slice a L.length c, .slice ag PP.length cg] w (RetRow w.heap.size (mdL false L PP) (pfC L PP) w) := by
  have HG := Lib.hid (smd_any false L hl PP hPn a c ag cg w hr hg)
  clear hr hg
  generalize mdL false L PP = R at *
  generalize pfC L PP = C at *
  go_enter Try.func15, Try.ntmps15
  go_wp2_with fail
  refine HG.out.mono ?_
  rintro e w1 ⟨a1, c1, rfl, hrd, hb⟩
  have HR := Lib.hid hrd
  have HB := Lib.hid hb
  clear hrd hb
  go_wp2_with fail
  go_ret2
  exact ⟨a1, c1, rfl, HR.out, HB.out⟩

set_option maxRecDepth 100000 in
set_option maxHeartbeats 4000000 in
theorem iCof_any (L : List MapN) (hl : L.length ≤ 1048576) (PP : List (List Int)) (hPn : PP.length ≤ 1048576) (hPl : ∀ j, j < PP.length → (PP.getD j []).length ≤ 1048576) (a : Option Addr) (c : Nat) (hc0 : a = none → c = 0) (ag : Option Addr) (cg : Nat) (w : World) (hr : InRowM w a L) (hg : InRowL w ag PP) :
    Calls Try.prog 27 #[.slice a L.length c, .slice ag PP.length cg] w (RetRow w.heap.size (mdL true L PP) (pfC L PP) w) := by
  have HG := Lib.hid (ipf_any a c hc0 L hl PP hPn hPl ag cg w hr hg)
  clear hr hg hc0
  go_enter Try.func27, Try.ntmps27
  go_wp2_with fail
  refine HG.out.mono ?_
  rintro e w1 ⟨hb, ⟨hc, rfl⟩ | ⟨hc, hmon, hle, hpl, hok, a1, c1, a2, c2, rfl, htb, hip⟩⟩
  · have HB := Lib.hid hb
    have HE := Lib.hid (mdL_no (s := true) hc)
    have HM := Lib.hid fun w => mby0_any true w
    have HCL := Lib.hid fun w => clist_any 0 (by omega) (ac []) (ac_size (by simp)) none 0 w
    have hs1 := hb.size
    clear hb hc
    generalize pfC L PP = C at *
    generalize ac [] = Z at *
    go_wp2_with fail
    refine (HM.out _).mono ?_
    rintro e w2 ⟨rfl, hb2⟩
    have HB2 : Hid (Below w.heap.size w w2) := Lib.hid (HB.out.trans (hb2.mono hs1))
    clear hb2
    go_wp2_with fail
    refine (HCL.out _).mono ?_
    rintro e w3 ⟨rfl, hw3⟩
    have HB3 : Hid (Below w.heap.size w w3) := Lib.hid (by rw [hw3]; exact HB2.out.alloc HB2.out.size _)
    clear hw3
    go_wp2_with fail
    go_ret2
    exact ⟨_, 30, by rw [HE.out]; rfl, ⟨by rw [HE.out]; simp, Or.inl HE.out⟩, HB3.out⟩
  · have hm1 := mon_pos hmon
    have HB := Lib.hid hb
    have HC0 := Lib.hid hc
    have HE := Lib.hid (mdL_0 (s := true) hc)
    have hs1 := hb.size
    have hP : ∀ k, k < (PP.map prP).length → ((PP.map prP).getD k (0, 0)).1 < (elsK L).length ∧ ((PP.map prP).getD k (0, 0)).2 < (elsK L).length := fun k hk => by
      refine prs_bd hok _ _ ?_
      rw [List.getD_eq_getElem?_getD, List.getElem?_eq_getElem hk]
      exact List.getElem_mem hk
    have HMB := Lib.hid (mby_any (elsK L).length hle hm1 (muK (fst0 L) (elsK L)) (fun i j hi hj => muK_lt hmon i j hi hj) true (PP.map prP) hP (by rw [List.length_map]; omega) a1 a2 c1 c2 w1.heap.size w1 htb hip)
    rw [List.length_map] at HMB
    have hkl := kerG_len (elsK L).length (muK (fst0 L) (elsK L)) true (prs (PP.map prP))
    have HCL := Lib.hid fun w => clist_any (elsK L).length hle (ac (kerG (elsK L).length (muK (fst0 L) (elsK L)) true (prs (PP.map prP)))) (ac_size (by rw [hkl]; exact hle)) a1 c1 w
    have HRA : Hid (∀ (z : World) (B g : Nat), B ≤ g → z.heap[g]? = some (.cells (ac (kerG (elsK L).length (muK (fst0 L) (elsK L)) true (prs (PP.map prP)))) 64 (0, 0)) → Rd z B (some ⟨g, 0, none⟩) (kerG (elsK L).length (muK (fst0 L) (elsK L)) true (prs (PP.map prP)))) := Lib.hid fun z B g hB h => rd_arr6 (by rw [hkl]; exact hle) hB h
    clear hb hc hmon htb hip hok hP HG
    generalize kerG (elsK L).length (muK (fst0 L) (elsK L)) true (prs (PP.map prP)) = J at *
    generalize (elsK L).length = m at *
    generalize ac J = CJ at *
    go_wp2_with fail
    refine HMB.out.mono ?_
    rintro e w2 ⟨rfl, hb2⟩
    have HB2 : Hid (Below w.heap.size w w2) := Lib.hid (HB.out.trans (hb2.mono hs1))
    clear hb2
    go_wp2_with fail
    refine (HCL.out _).mono ?_
    rintro e w3 ⟨rfl, hw3⟩
    have HB3 : Hid (Below w.heap.size w w3) := Lib.hid (by rw [hw3]; exact HB2.out.alloc HB2.out.size _)
    have HRD := Lib.hid (HRA.out w3 w.heap.size w2.heap.size HB2.out.size (by rw [hw3]; exact halloc_at _ _ _ rfl))
    clear hw3
    go_wp2_with fail
    go_ret2
    exact ⟨_, 30, by rw [HE.out, HC0.out, hkl]; rfl, by rw [HE.out]; exact HRD.out, HB3.out⟩

set_option maxRecDepth 100000 in
set_option maxHeartbeats 2000000 in
theorem sCof_any (L : List MapN) (hl : L.length ≤ 1048576) (PP : List (List Int)) (hPn : PP.length ≤ 1048576) (_ : ∀ j, j < PP.length → (PP.getD j []).length ≤ 1048576) (a : Option Addr) (c : Nat) (_ : a = none → c = 0) (ag : Option Addr) (cg : Nat) (w : World) (hr : InRowM w a L) (hg : InRowL w ag PP) :
    Calls Try.prog 26 #[.slice a L.length c, .slice ag PP.length cg] w (RetRow w.heap.size (mdL true L PP) (pfC L PP) w) := by
  have HG := Lib.hid (smd_any true L hl PP hPn a c ag cg w hr hg)
  clear hr hg
  generalize mdL true L PP = R at *
  generalize pfC L PP = C at *
  go_enter Try.func26, Try.ntmps26
  go_wp2_with fail
  refine HG.out.mono ?_
  rintro e w1 ⟨a1, c1, rfl, hrd, hb⟩
  have HR := Lib.hid hrd
  have HB := Lib.hid hb
  clear hrd hb
  go_wp2_with fail
  go_ret2
  exact ⟨a1, c1, rfl, HR.out, HB.out⟩

end Go.Proofs.Ytoagpklippdlmaa
