/- The contract of (productTable).madeBy: the classes of the (right) congruence that pairs make. The contract of (productTable).isCongruence. -/
import Derived.Test.YtoagpklippdlmaaPin
import Derived.Test.YtoagpklippdlmaaNbf
import Derived.Deep.RegionHeld3
namespace Go.Proofs.Ytoagpklippdlmaa
open Go Go.RowKit

/-- The numbers from 0 on. -/
def rng (k : Nat) : List Int := (List.range k).map fun i : Nat => (i : Int)

theorem rng_len (k : Nat) : (rng k).length = k := by unfold rng; simp
theorem rng_succ (k : Nat) : rng (k + 1) = rng k ++ [(k : Int)] := by unfold rng; rw [List.range_succ, List.map_append]; rfl
theorem rng_at (k i : Nat) (h : i < k) : (rng k).getD i 0 = i := by unfold rng; simp [h]

/-- The pairs of a list. -/
def prs (P : List (Nat × Nat)) (i j : Nat) : Prop := (i, j) ∈ P

def prsK (P : List (Nat × Nat)) (k i j : Nat) : Prop := (i, j) ∈ P.take k

theorem prsK_all (P : List (Nat × Nat)) (i j : Nat) : prsK P P.length i j ↔ prs P i j := by unfold prsK prs; rw [List.take_length]

theorem prsK_succ (P : List (Nat × Nat)) (k i j : Nat) (h : k < P.length) : (prsK P k i j ∨ (i = (P.getD k (0, 0)).1 ∧ j = (P.getD k (0, 0)).2)) ↔ prsK P (k + 1) i j := by
  unfold prsK
  rw [List.take_add_one, List.getElem?_eq_getElem h, List.getD_eq_getElem?_getD, List.getElem?_eq_getElem h, List.mem_append]
  simp only [Option.getD_some, Option.toList_some, List.mem_singleton]
  constructor
  · rintro (h | ⟨rfl, rfl⟩)
    · exact Or.inl h
    · exact Or.inr rfl
  · rintro (h | h)
    · exact Or.inl h
    · right; rw [← h]; exact ⟨rfl, rfl⟩

/-- Names as a list. -/
def nml (r : Nat → Int) (m : Nat) : List Int := (List.range m).map r

theorem nml_len (r : Nat → Int) (m : Nat) : (nml r m).length = m := by unfold nml; simp
theorem nml_at (r : Nat → Int) (m i : Nat) (h : i < m) : (nml r m).getD i 0 = r i := by unfold nml; simp [h]
theorem nml_ker (r : Nat → Int) (m : Nat) : kerK (tL (nml r m)) m = kerK r m := kerK_congr0 m fun i hi => nml_at r m i hi

theorem ker_wf (t : Nat → Int) (m : Nat) (hm : m ≤ 1000) : ∀ x ∈ kerK t m, (Lit.int .i64 x).wf = true := fun x hx => by
  unfold kerK at hx
  obtain ⟨i, hi, rfl⟩ := List.mem_map.1 hx
  have := kvK_bd t i
  have hi := List.mem_range.1 hi
  exact WalkArith.wf_i64 (by omega)

/-- The classes of names, laid into an array. -/
theorem nbarr_any (m : Nat) (hm : m ≤ 30) (r : Nat → Int) (g cap : Nat) (w : World) (hv : ∀ i, i < m → (Lit.int .i64 (r i)).wf = true) (hn : Nm w g m r) :
    Calls Try.prog 86 #[.slice (some ⟨g, 0, none⟩) m cap] w fun e w' => ∃ a c, e = .returned (.slice a m c) ∧ InRow w' a (kerK r m) ∧ Below w.heap.size w w' := by
  have h := nbf_any (nml r m) (by rw [nml_len]; omega) (fun x hx => by
    unfold nml at hx
    obtain ⟨i, hi, rfl⟩ := List.mem_map.1 hx
    exact hv i (List.mem_range.1 hi)) (some ⟨g, 0, none⟩) cap w (hn.inRow (nml_len r m) fun i hi => nml_at r m i hi)
  rw [nml_len, nml_ker] at h
  refine h.mono ?_
  rintro e w' ⟨v, rfl, hown, hb⟩
  have hl := kerK_len r m
  obtain ⟨a, c, rfl, hrd⟩ := own_rd hown (by omega)
  exact ⟨a, c, by rw [hl], hrd.inRow, hb⟩

set_option maxRecDepth 100000 in
set_option maxHeartbeats 4000000 in
theorem mby_any (m : Nat) (hm : m ≤ 30) (hm1 : 1 ≤ m) (mu : Nat → Nat → Nat) (hmu : ∀ a b, a < m → b < m → mu a b < m) (s : Bool) (P : List (Nat × Nat)) (hP : ∀ k, k < P.length → (P.getD k (0, 0)).1 < m ∧ (P.getD k (0, 0)).2 < m)
    (hPl : P.length ≤ 1000) (aT a : Option Addr) (cT c K : Nat) (w : World) (ht : Tb w K aT m mu) (hr : InRowP w a P) :
    Calls Try.prog 51 #[.slice aT m cT, .slice a P.length c, .bool s] w fun e w' => e = .returned (.agg (ac (kerG m mu s (prs P)))) ∧ Below w.heap.size w w' := by
  have hz : ∀ w : World, (zeroValue 64).run Try.prog w = .ok (.agg (acl []).toArray) w := fun _ => by kernel_rfl
  have h0 := acl_len (L := []) (by simp)
  obtain ⟨Z, hZ⟩ : ∃ Z, Z = (acl []).toArray := ⟨_, rfl⟩
  have HZS : Hid (Z.size = 30) := Lib.hid (by rw [hZ]; simp [h0])
  rw [← hZ] at hz
  clear h0 hZ
  have HT := Lib.hid ht
  have HR := Lib.hid hr
  have HP := Lib.hid hP
  have HBT := Lib.hid (bt_any m (by omega) mu hmu s)
  have HMU := Lib.hid hmu
  have hKw := ht.hK
  have HAC : Hid (∀ L : List Int, L.length = m → ∀ (a : Option Addr) (c : Nat) (w : World), InRow w a L → Calls Try.prog 85 #[.slice a m c] w fun e w' => e = .returned (.agg (ac L)) ∧ Below w.heap.size w w') := Lib.hid fun L hL a c w h => by
    have := arrC_any L (by omega) a c w h
    rw [hL] at this
    exact this
  obtain ⟨i0, hi, hz0, hz1, hz2⟩ := info_parts info_int
  clear ht hr hP hmu
  go_enter Try.func51, Try.ntmps51
  go_wp2_with fail
  obtain ⟨wz, hwz⟩ : ∃ wz, wz = w.alloc (.cells Z 64) := ⟨_, rfl⟩
  rw [← hwz]
  have HBX : Hid (wz.heap[w.heap.size]? = some (.cells Z 64 (0, 0))) := Lib.hid (by rw [hwz]; exact halloc_at _ _ _ rfl)
  have HBZ : Hid (Below w.heap.size w wz) := Lib.hid (by rw [hwz]; exact (Below.refl _ _).alloc (Nat.le_refl _) _)
  have hsz : wz.heap.size = w.heap.size + 1 := by rw [hwz]; simp
  clear hwz hz
  go_loopw [7, 8, 13] (fun v _ i wr => ∃ k : Nat, k ≤ m ∧ i = .int .i64 k ∧ Own wr wz.heap.size v (rng k) ∧ Below wz.heap.size wz wr) (fun _ _ i _ => m - (intOf i).toNat)
  case atStart => exact ⟨0, by omega, rfl, World.ownsRow_nil _ _ _ _, Below.refl _ _⟩
  case round =>
    obtain ⟨k, hk, rfl, hown, hb⟩ := hrel
    have HOW := Lib.hid hown
    have HB := Lib.hid hb
    have hbs := hb.size
    clear hown hb
    by_cases hkm : k < m
    · have hkm' : (k : Int) < (m : Int) := by omega
      have hrl := rng_len k
      have HRS := Lib.hid (rng_succ k)
      generalize rng k = R0 at *
      go_wp2_with (at_builtin; refine wpList_append_own _ rfl _ _ 26 rfl wz.heap.size 2 i0 (.int .i64 0) 1 8 Try.underlying26 hi hz0 hz1 hz2 rfl (by decide) _ _ _ rfl ((HOW.out : wr.ownsRow _ _ _ _ _ _).alloc _) ⟨wr.heap.size, 0, none⟩ 1 1 [.int .i64 (k : Int)] rfl rfl (cell_one_new _ _ _) (ints_oneCell .i64 [(k : Int)]) (by unfold maxLen; omega) (by omega) (by simp; omega) ?_; intro v' w2 hown' hgrow _)
      have HO2 : Hid (Own w2 wz.heap.size v' (rng (k + 1))) := Lib.hid (by
        unfold Own
        rw [HRS.out, List.map_append, List.length_append]
        exact hown')
      have HB2 : Hid (Below wz.heap.size wz w2) := Lib.hid ((HB.out.alloc hbs _).grown hgrow (by simp; omega) (fun r e => (HOW.out.lt r e).1))
      clear hown' hgrow
      go_wp2_with fail
      go_roundw
      case rel => exact ⟨k + 1, by omega, by go_num, HO2.out, HB2.out⟩
      case measure => simp [intOf]; omega
    · obtain rfl : k = m := by omega
      have hrl := rng_len k
      obtain ⟨g, cap, rfl, hg, hnm⟩ := own_nm HOW.out (fun e => by rw [e] at hrl; simp at hrl; omega)
      rw [hrl] at hnm
      have HN1 := Lib.hid (hnm.congr (r' := fun i => (i : Int)) (fun i hi => rng_at k i hi))
      have HTZ : Hid (Tb wz wz.heap.size aT k mu) := Lib.hid ((HT.out.below (HBZ.out.mono hKw)).up (by omega) (Nat.le_refl _))
      have HR1 := Lib.hid (HR.out.below HBZ.out)
      have HBO := HB
      clear hnm HOW HT HR HB
      obtain ⟨wo, hwo⟩ : ∃ wo, wo = wr := ⟨_, rfl⟩
      subst hwo
      rw [hrl]
      go_wp2_with fail
      go_loopw [10, 23] (fun _ i wr => ∃ (q : Nat) (r : Nat → Int), q ≤ P.length ∧ i = .int .i64 q ∧ Nm wr g k r ∧ Below wz.heap.size wz wr ∧ Brg k mu s (fun i => (i : Int)) r (prsK P q)) (fun _ i _ => P.length - (intOf i).toNat)
      case atStart => exact ⟨0, _, by omega, rfl, HN1.out, HBO.out, Brg.refl k mu s _ _ (fun i j _ _ h => by unfold prsK at h; simp at h)⟩
      case round =>
        obtain ⟨q, r, hq, rfl, hn, hb, hbr⟩ := hrel
        have HN2 := Lib.hid hn
        have HB2 := Lib.hid hb
        have HBR := Lib.hid hbr
        have hbs2 := hb.size
        by_cases hqp : q < P.length
        · have hqp' : (q : Int) < (P.length : Int) := by omega
          obtain ⟨hA, hB⟩ := HP.out q hqp
          obtain ⟨b, rfl, hbl, hcs⟩ := (HR1.out.below hb).resolve_left (fun e => by rw [e] at hqp; simp at hqp)
          obtain ⟨x1, x2⟩ := hcs q hqp
          have HPS := Lib.hid fun i j => prsK_succ P q i j hqp
          have hbt := HBT.out (rkK r k) r (Nat.le_refl _) _ _ hA hB
          generalize (P.getD q (0, 0)).1 = A at *
          generalize (P.getD q (0, 0)).2 = B at *
          have HBQ := Lib.hid hbt
          clear hn hb hbr hcs hA hB hbt
          go_wp2_with fail
          refine (HBQ.out aT cT g wz.heap.size cap _ hg ?ht ?hn).mono ?_
          case ht => exact HTZ.out.below (HB2.out.alloc hbs2 _)
          case hn => exact HN2.out.below ((Below.refl _ _).alloc (Nat.le_refl _) _)
          rintro e w4 ⟨rfl, r2, hn2, hb2, hbr2⟩
          have HN4 := Lib.hid hn2
          have HB4 : Hid (Below wz.heap.size wz w4) := Lib.hid ((HB2.out.alloc hbs2 _).trans hb2)
          have HBR4 := Lib.hid ((HBR.out.trans HMU.out hbr2).weak HPS.out)
          clear hn2 hb2 hbr2 x1 x2
          go_wp2_with fail
          go_roundw
          case rel => exact ⟨q + 1, r2, by omega, by go_num, HN4.out, HB4.out, HBR4.out⟩
          case measure => simp [intOf]; omega
        · obtain rfl : q = P.length := by omega
          have hvals : ∀ i, i < k → (Lit.int .i64 (r i)).wf = true := fun i hi => by
            obtain ⟨j, hj, e⟩ := hbr.vl i hi
            rw [e]; exact WalkArith.wf_i64 (by omega)
          have HG : Hid (kerK r k = kerG k mu s (prs P)) := Lib.hid (kerG_eq (brg_gen (hbr.weak fun i j => prsK_all P i j)))
          have HNB := Lib.hid (nbarr_any k hm r g cap wr hvals hn)
          have hkl := kerK_len r k
          clear hn hb hbr hvals
          go_wp2_with fail
          refine HNB.out.mono ?_
          rintro e w5 ⟨a5, c5, rfl, hrow, hb5⟩
          have HB5 : Hid (Below wz.heap.size wz w5) := Lib.hid (HB2.out.trans (hb5.mono hbs2))
          have hbs5 := HB5.out.size
          have HRW := Lib.hid hrow
          clear hrow hb5
          go_wp2_with fail
          refine (HAC.out _ hkl _ _ _ HRW.out).mono ?_
          rintro e w6 ⟨rfl, hb6⟩
          have HB6 : Hid (Below wz.heap.size wz w6) := Lib.hid (HB5.out.trans (hb6.mono hbs5))
          have HX6 : Hid (w6.heap[w.heap.size]? = some (.cells Z 64 (0, 0))) := Lib.hid ((HB6.out.block _ (by omega)).trans HBX.out)
          have HSC : Hid ((ac (kerK r k)).size = 30) := Lib.hid (ac_size (by omega))
          have HOC := Lib.hid (ac_one (kerK r k))
          have HSZ1 := Lib.hid (size_arr1 _ HSC.out)
          have hKE := HG.out
          obtain ⟨KR, hKR⟩ : ∃ KR, KR = kerK r k := ⟨_, rfl⟩
          rw [← hKR] at hKE HSC HOC HSZ1 ⊢
          have HKE := Lib.hid hKE
          clear hb6 hKR hKE HG
          obtain ⟨C, hC⟩ : ∃ C, C = ac KR := ⟨_, rfl⟩
          rw [← hC] at HSC HOC HSZ1 ⊢
          have HC := Lib.hid hC
          clear hC
          go_wp2_with (with_reducible refine wpList_store_row rfl 64 (.tmp 6) (.tmp 38) rfl w.heap.size C rfl rfl 64 Z HX6.out HSZ1.out ?sb HOC.out ?_)
          case sb => rw [HZS.out, HSC.out]
          refine bodyPost_ret (v := .agg C) (results_cell_row Try.results51 _ _ w.heap.size 64 C (0, 0) _ rfl (setRow_heap _ _ Z _ _ _ HX6.out) Try.underlying64 rfl HSZ1.out) rfl ⟨by rw [HC.out, HKE.out], ?_⟩
          exact below_setRow (HBZ.out.trans (HB6.out.mono (by omega))) (Nat.le_refl _) _

end Go.Proofs.Ytoagpklippdlmaa

namespace Go.Proofs.Ytoagpklippdlmaa
open Go Go.RowKit

theorem range30 {w : World} {g T : Nat} {C : Array Value} {fr : Nat × Nat} (h : w.heap[g]? = some (.cells C T fr)) : w.rangeAt g 0 C.toList := fun j v hv => by
  rw [Nat.zero_add, Joins.cell_of_block h, ← hv]
  simp

/-- The load of a whole array at a step of a region that draws its order. -/
theorem step_load_mid {P : Program} {ops : Array Oper} {op : Oper} {a : Act} {w : World} {K : Act → World → Prop} {Q : Exit → Act → World → Prop} {E : Prop} (hgd : op.guard = none) (ty : TypeId) (x : Operand) (ho : op.op = .load ty x)
    (b o : Nat) (hx : a.eval x = .pointer (some ⟨b, o, none⟩)) (cs : List Value) (d : TypeDesc) (hc : w.rangeAt b o cs)
    (hu : P.underlying ty = some d) (hd : d.isRow = true) (hi : (P.info? ty).map (·.size) = some cs.length)
    (h : K (a.put op.dst (.agg cs.toArray)) w) : if Region.wanted op (yielded ops a.tmps) = true then Oper.wp P op a w K Q else E := by
  rw [if_pos (by simp [Region.wanted, hgd])]
  exact wp_load_mid ty x ho b o hx cs d hc hu hd hi h

theorem load30 {P : Program} {w : World} {b : Nat} {cs : List Value} (hl : cs.length = 30) (h : w.rangeAt b 0 cs) : (loadCellsFrom ⟨b, 0, none⟩ 0 30 #[]).run P w = .ok cs.toArray w := by
  have := run_loadCells_list (P := P) w ⟨b, 0, none⟩ cs (fun j v hv => by
    rw [Addr.add_mid]; exact h j v hv)
  rw [hl] at this
  exact this

theorem gen_pin {m : Nat} {mu : Nat → Nat → Nat} {s : Bool} {L : List Int} : kerG m mu s (prs (pin L m)) = kerG m mu s (fun i j => tL L i = tL L j) := by
  have hmem : ∀ i j, prs (pin L m) i j ↔ j < m ∧ i = fst1 (tL L) j := fun i j => by
    unfold prs pin
    rw [List.mem_map]
    constructor
    · rintro ⟨x, hx, e⟩
      injection e with e1 e2
      subst e2
      exact ⟨List.mem_range.1 hx, e1.symm⟩
    · rintro ⟨hj, rfl⟩
      exact ⟨j, List.mem_range.2 hj, rfl⟩
  refine kerG_congr (fun a b ha hb h => ?_) (fun a b ha hb h => ?_)
  · obtain ⟨_, rfl⟩ := (hmem a b).1 h
    exact gen_base ha hb (fst1_at (tL L) b).1
  · have E := (gen_cgr m mu s (prs (pin L m))).eqv
    have h1 := (fst1_at (tL L) a).2.1
    have h2 := (fst1_at (tL L) b).2.1
    have g1 : Gen m mu s (prs (pin L m)) (fst1 (tL L) a) a := gen_base (by omega) ha ((hmem _ _).2 ⟨ha, rfl⟩)
    have g2 : Gen m mu s (prs (pin L m)) (fst1 (tL L) b) b := gen_base (by omega) hb ((hmem _ _).2 ⟨hb, rfl⟩)
    rw [← fst1_eq h] at g2
    exact E.tr _ _ _ ha (by omega) hb (E.sy _ _ (by omega) ha g1) g2

theorem pin_bd {L : List Int} {m : Nat} : ∀ k, k < (pin L m).length → ((pin L m).getD k (0, 0)).1 < m ∧ ((pin L m).getD k (0, 0)).2 < m := fun k hk => by
  rw [pin_len] at hk
  have h2 := (fst1_at (tL L) k).2.1
  unfold pin
  simp [hk]
  omega

/-- Whether classes are a congruence. -/
noncomputable def cngB (m : Nat) (mu : Nat → Nat → Nat) (s : Bool) (L : List Int) : Bool := decide (kerG m mu s (fun i j => tL L i = tL L j) = L)

/-- The pairs of classes, and what they make. -/
theorem pinmade_any (m : Nat) (hm : m ≤ 30) (hm1 : 1 ≤ m) (mu : Nat → Nat → Nat) (hmu : ∀ a b, a < m → b < m → mu a b < m) (s : Bool) (L : List Int) (aT a : Option Addr) (cT c K : Nat) (w : World) (ht : Tb w K aT m mu) (hr : InRowP w a (pin L m)) :
    Calls Try.prog 51 #[.slice aT m cT, .slice a m c, .bool s] w fun e w' => e = .returned (.agg (ac (kerG m mu s (fun i j => tL L i = tL L j)))) ∧ Below w.heap.size w w' := by
  have h := mby_any m hm hm1 mu hmu s (pin L m) pin_bd (by rw [pin_len]; omega) aT a cT c K w ht hr
  rw [pin_len, gen_pin] at h
  exact h

theorem pairsIn2_any (m : Nat) (hm : m ≤ 30) (hm1 : 1 ≤ m) (L : List Int) (hL : Cls L m) (a : Option Addr) (c : Nat) (w : World) :
    Calls Try.prog 57 #[.slice a m c, .agg (ac L)] w fun e w' => ∃ a2 c2, e = .returned (.slice a2 m c2) ∧ InRowP w' a2 (pin L m) ∧ Below w.heap.size w w' := by
  refine (pairsIn_any m hm hm1 L hL a c w).mono ?_
  rintro e w' ⟨v, rfl, hown, hb⟩
  obtain ⟨a2, c2, rfl, hin⟩ := ownP_in hown
  exact ⟨a2, c2, by rw [pin_len], hin, hb⟩

set_option maxRecDepth 100000 in
set_option maxHeartbeats 2000000 in
theorem isc_any (m : Nat) (hm : m ≤ 30) (hm1 : 1 ≤ m) (mu : Nat → Nat → Nat) (hmu : ∀ a b, a < m → b < m → mu a b < m) (L : List Int) (hL : Cls L m) (aT : Option Addr) (cT K : Nat) (w : World) (ht : Tb w K aT m mu) :
    Calls Try.prog 58 #[.slice aT m cT, .agg (ac L)] w fun e w' => e = .returned (.bool (cngB m mu true L)) ∧ Below w.heap.size w w' := by
  have hlen := hL.1
  have hkl := kerG_len m mu true (fun i j => tL L i = tL L j)
  have HPI := Lib.hid fun w => pairsIn2_any m hm hm1 L hL aT cT w
  have HMB := Lib.hid fun a c w hT hP => pinmade_any m hm hm1 mu hmu true L aT a cT c K w hT hP
  have HEQ := fun w => eq30 (kerG m mu true (fun i j => tL L i = tL L j)) L (by omega) (by omega) (ker_wf _ m (by omega)) (hL.wf (by omega)) w
  have HT := Lib.hid ht
  have hKw := ht.hK
  have hs1 := ac_size (L := L) (by omega)
  have hB : cngB m mu true L = decide (kerG m mu true (fun i j => tL L i = tL L j) = L) := rfl
  rw [← hB] at HEQ
  clear ht hL hkl hB hmu
  generalize cngB m mu true L = B at *
  generalize kerG m mu true (fun i j => tL L i = tL L j) = G at *
  generalize ac G = CG at *
  have hcl : (acl L).length = 30 := acl_len (by omega)
  have hCC : ac L = (acl L).toArray := rfl
  rw [hCC] at HEQ ⊢
  rw [hCC] at HPI
  clear hCC hs1
  have hu := Try.underlying64
  generalize acl L = cs at *
  have hi30 : (Try.prog.info? 64).map (·.size) = some cs.length := by rw [hcl]; exact size_arr
  clear hlen
  generalize hIP : pin L m = PI at *
  clear hIP
  go_enter Try.func58, Try.ntmps58
  have hbx0 := halloc_at w (.cells cs.toArray 64) _ rfl
  go_wp2_with fail
  obtain ⟨wz, hwz⟩ : ∃ wz, wz = w.alloc (.cells cs.toArray 64) := ⟨_, rfl⟩
  rw [← hwz] at hbx0 ⊢
  have HBZ : Hid (Below w.heap.size w wz) := Lib.hid (by rw [hwz]; exact (Below.refl _ _).alloc (Nat.le_refl _) _)
  have hsz : w.heap.size < wz.heap.size := by rw [hwz]; simp
  have HTZ := Lib.hid (HT.out.below (HBZ.out.mono hKw))
  have HK : Hid (∀ z, Below wz.heap.size wz z → z.rangeAt w.heap.size 0 cs ∧ Below wz.heap.size wz z) := Lib.hid fun z hz => ⟨by
    have := range30 ((hz.block _ hsz).trans hbx0)
    simpa using this, hz⟩
  clear hwz hbx0 HT
  have hS0 := HK.out wz.drew (Below.refl _ _).drew
  refine wp_region_held_drew (S := fun w' => w'.rangeAt w.heap.size 0 cs ∧ Below wz.heap.size wz w') (by kernel_rfl) (hS0) (fun hHeld => ?_)
  refine wpAnyH_take (i := 0) (v := .slice aT m cT) rfl (by kernel_rfl) (by kernel_rfl) (by kernel_rfl) (fun _ _ _ h => h) (Or.inl ⟨by rfl, fun w hSw => by rfl⟩) hHeld ?_
  simp only [Act.put, List.setIfInBounds_toArray, List.set_cons_zero, List.set_cons_succ, List.getElem_cons_zero, List.getElem_toArray]
  refine wpAnyH_take (i := 1) (v := .slice aT m cT) rfl (by kernel_rfl) (by kernel_rfl) (by kernel_rfl) (fun _ _ _ h => h) (Or.inl ⟨by rfl, fun w hSw => by rfl⟩) hHeld ?_
  simp only [Act.put, List.setIfInBounds_toArray, List.set_cons_zero, List.set_cons_succ, List.getElem_cons_zero, List.getElem_cons_succ, List.getElem_toArray]
  refine wpAnyH_take (i := 2) (v := .agg cs.toArray) rfl (by kernel_rfl) (by kernel_rfl) (by kernel_rfl) (fun _ _ _ h => h) (yieldsIf_load_mid (by rfl) _ _ rfl _ _ rfl cs _ (fun w hSw => hSw.1) hu rfl hi30) hHeld ?_
  simp only [Act.put, List.setIfInBounds_toArray, List.set_cons_zero, List.set_cons_succ, List.getElem_cons_zero, List.getElem_cons_succ, List.getElem_toArray]
  refine wpAnyH_take (i := 5) (v := .agg cs.toArray) rfl (by kernel_rfl) (by kernel_rfl) (by kernel_rfl) (fun _ _ _ h => h) (yieldsIf_load_mid (by rfl) _ _ rfl _ _ rfl cs _ (fun w hSw => hSw.1) hu rfl hi30) hHeld ?_
  simp only [Act.put, List.setIfInBounds_toArray, List.set_cons_zero, List.set_cons_succ, List.getElem_cons_zero, List.getElem_cons_succ, List.getElem_toArray]
  refine wpAnyH_ready (rs := [3]) (by kernel_rfl) (by simp) ?_
  refine AllReadyH.cons rfl (fun K hK => ?_) AllReadyH.nil
  go_simp
  refine (HPI.out _).mono ?_
  rintro e w1 ⟨a1, c1, rfl, hin1, hb1⟩
  have HI1 := Lib.hid hin1
  have HB1 : Hid (Below wz.heap.size wz w1) := Lib.hid ((Below.refl wz.heap.size wz).drew.trans hb1)
  clear hin1 hb1
  refine hK.out _ _ (HK.out _ HB1.out) (fun hHeld => ?_)
  clear hK K
  (try simp only [Act.put, List.setIfInBounds_toArray, List.set_cons_zero, List.set_cons_succ, List.getElem_cons_zero, List.getElem_cons_succ, List.getElem_toArray])
  refine wpAnyH_ready (rs := [4]) (by kernel_rfl) (by simp) ?_
  refine AllReadyH.cons rfl (fun K hK => ?_) AllReadyH.nil
  go_simp
  refine (HMB.out _ _ _ (HTZ.out.below (HB1.out.mono (by omega))) HI1.out).mono ?_
  rintro e w2 ⟨rfl, hb2⟩
  have HB2 : Hid (Below wz.heap.size wz w2) := Lib.hid (HB1.out.trans (hb2.mono HB1.out.size))
  clear hb2
  refine hK.out _ _ (HK.out _ HB2.out) (fun hHeld => ?_)
  clear hK K
  (try simp only [Act.put, List.setIfInBounds_toArray, List.set_cons_zero, List.set_cons_succ, List.getElem_cons_zero, List.getElem_cons_succ, List.getElem_toArray])
  refine wpAnyH_take (i := 6) (v := .bool B) rfl (by kernel_rfl) (by kernel_rfl) (by kernel_rfl) (fun _ _ _ h => h) (Or.inl ⟨by rfl, fun w hSw => by go_simp⟩) hHeld ?_
  simp only [Act.put, List.setIfInBounds_toArray, List.set_cons_zero, List.set_cons_succ, List.getElem_cons_zero, List.getElem_cons_succ, List.getElem_toArray]
  refine wpAnyH_take (i := 7) (v := .bool B) rfl (by kernel_rfl) (by kernel_rfl) (by kernel_rfl) (fun _ _ _ h => h) (Or.inl ⟨by rfl, fun w hSw => by rfl⟩) hHeld ?_
  simp only [Act.put, List.setIfInBounds_toArray, List.set_cons_zero, List.set_cons_succ, List.getElem_cons_zero, List.getElem_cons_succ, List.getElem_toArray]
  refine wpAnyH_done (by kernel_rfl) ?_ _
  go_wp2_with fail
  go_ret
  exact ⟨rfl, HBZ.out.trans (HB2.out.mono (by omega))⟩

end Go.Proofs.Ytoagpklippdlmaa
