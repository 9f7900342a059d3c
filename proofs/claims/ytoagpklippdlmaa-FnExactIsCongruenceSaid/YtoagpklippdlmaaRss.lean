/- Lists of lists of numbers among a law's arguments: opened, measured, copied, compared (laws.szInt64S, laws.szInt64SS, laws.toInt64SS, laws.eqInt64SS). -/
import Derived.Test.YtoagpklippdlmaaRowS
import Derived.Test.YtoagpklippdlmaaSl
import Derived.Test.YtoagpklippdlmaaTurn
import Derived.Deep.Slices
import Derived.StillTailTactics
namespace Go.Proofs.Ytoagpklippdlmaa
open Go.ChangeShapes Go.WideShapes Go.ChangeAt Go.RowKit Go.Deep

/-- A list of lists that came in. -/
def InRowL (w : World) (a : Option Addr) (LL : List (List Int)) : Prop :=
  LL = [] ∨ ∃ b off, a = some ⟨b, off, none⟩ ∧ b < w.heap.size ∧ ∀ j, j < LL.length → ∃ ar c, w.cell? ⟨b, off + j, none⟩ = some (.slice ar (LL.getD j []).length c) ∧ InRow w ar (LL.getD j [])

theorem InRowL.below {w w' : World} {a : Option Addr} {LL : List (List Int)} (h : InRowL w a LL) (hb : Below w.heap.size w w') : InRowL w' a LL := by
  rcases h with h0 | ⟨b, off, ha, hlt, hc⟩
  · exact Or.inl h0
  · exact Or.inr ⟨b, off, ha, Nat.lt_of_lt_of_le hlt hb.size, fun j hj => by
      obtain ⟨ar, c, h1, h2⟩ := hc j hj
      exact ⟨ar, c, (hb.cell (p := ⟨b, off + j, none⟩) hlt).trans h1, h2.below hb⟩⟩

set_option maxRecDepth 100000 in
theorem open_one {H : Type} {enc : TypeId × Value → H} {W : World} {spare : Nat → Bool} {held : Bool} {v : Value} {fuel : Nat} {x : DataW H × List MemPlace}
    (hf : DataW.trod enc Try.prog W 0 spare held fuel 26 [v] = some x) : ∃ ar c, ∃ L : List Int, v = .slice ar L.length c ∧ InRow W ar L ∧ L.length ≤ maxLen ∧ ∀ x ∈ L, (Lit.int .i64 x).wf = true := by
  rcases open_ints Try.underlying26 Try.underlying2 cellsI hf with ⟨hcs, _⟩ | ⟨x, len, cap, zs, hcs, _, hl, hm, hz, _, hcell, hwf⟩
  · injection hcs with hcs _
    exact ⟨none, 0, [], by rw [hcs]; rfl, Or.inl rfl, by simp, fun x hx => by cases hx⟩
  · injection hcs with hcs _
    have hlen : len ≤ zs.length := by rw [hz]; split <;> omega
    have htl : (zs.take len).length = len := by simp; omega
    refine ⟨some x, cap, zs.take len, by rw [hcs, htl], ?_, by omega, fun y hy => hwf y (List.mem_of_mem_take hy)⟩
    by_cases h0 : len = 0
    · subst h0; exact Or.inl (by simp)
    · obtain ⟨b, off, spot⟩ := x
      have hc := hcell 0 (by omega)
      have hspot : spot = none := by simpa [Addr.add] using World.cell?_spot hc
      subst hspot
      have hlt := World.block_lt_of_cell? W _ hc
      refine Or.inr ⟨b, off, rfl, by simpa [Addr.add] using hlt, fun i hi => ?_⟩
      have hil : i < len := by omega
      have e := hcell i (by omega)
      have hadd : (⟨b, off, none⟩ : Addr).add i = ⟨b, off + i, none⟩ := by cases i <;> simp [Addr.add]
      rw [hadd] at e
      rw [e]
      simp [hil]

theorem cellsS : Try.prog.cellsOf 26 = 1 := by kernel_rfl

set_option maxRecDepth 100000 in
theorem open_rows {H : Type} {enc : TypeId × Value → H} {W : World} {spare : Nat → Bool} {held : Bool} {a : Option Addr} {len cap : Nat} {d : DataW H} {ps : List MemPlace}
    (h : DataW.Trod enc Try.prog W 0 spare held 23 (.slice a len cap) d ps) : ∃ LL : List (List Int), (LL.length = len ∧ InRowL W a LL ∧ len ≤ maxLen) ∧ ∀ j, j < LL.length → (LL.getD j []).length ≤ maxLen ∧ ∀ x ∈ LL.getD j [], (Lit.int .i64 x).wf = true := by
  obtain ⟨fuel, hf⟩ := h
  rcases open_slice1 Try.underlying23 cellsS hf with ⟨hcs, _⟩ | ⟨x, l, c, m, n, V, D, Pl, hcs, hb, hl, hm, hmm, hx, hi⟩
  · simp [Value.cells] at hcs
    obtain ⟨rfl, rfl, rfl⟩ := hcs
    exact ⟨[], ⟨rfl, Or.inl rfl, by simp⟩, fun j hj => by simp at hj⟩
  · simp [Value.cells] at hcs
    obtain ⟨rfl, rfl, rfl⟩ := hcs
    have hlm : len ≤ m := by rw [hmm]; split <;> omega
    by_cases h0 : len = 0
    · subst h0; exact ⟨[], ⟨rfl, Or.inl rfl, by simp⟩, fun j hj => by simp at hj⟩
    · have hone : ∀ i, i < len → ∃ L : List Int, ∃ ar c, W.cell? (x.add i) = some (.slice ar L.length c) ∧ InRow W ar L ∧ L.length ≤ maxLen ∧ ∀ x ∈ L, (Lit.int .i64 x).wf = true := fun i hil => by
        obtain ⟨hc, ht⟩ := hi i (by omega)
        obtain ⟨ar, c, L, hv, h1, h2, h3⟩ := open_one ht
        exact ⟨L, ar, c, by rw [hc, hv], h1, h2, h3⟩
      obtain ⟨b, off, spot⟩ := x
      obtain ⟨_, _, _, hc0, _⟩ := hone 0 (by omega)
      have hspot : spot = none := by simpa [Addr.add] using World.cell?_spot hc0
      subst hspot
      have hlt : b < W.heap.size := by
        have := World.block_lt_of_cell? W _ hc0
        simpa [Addr.add] using this
      have hadd : ∀ i, (⟨b, off, none⟩ : Addr).add i = ⟨b, off + i, none⟩ := fun i => by cases i <;> simp [Addr.add]
      have e : ∀ j (hj : j < len), ((List.range len).map fun i => if h : i < len then Classical.choose (hone i h) else []).getD j [] = Classical.choose (hone j hj) := fun j hj => by simp [hj]
      refine ⟨(List.range len).map fun i => if h : i < len then Classical.choose (hone i h) else [], ⟨by simp, Or.inr ⟨b, off, rfl, hlt, fun j hj => ?_⟩, by omega⟩, fun j hj => ?_⟩
      · simp at hj
        rw [e j hj]
        obtain ⟨ar, c, h1, h2, _⟩ := Classical.choose_spec (hone j hj)
        exact ⟨ar, c, (congrArg W.cell? (hadd j)).symm.trans h1, h2⟩
      · simp at hj
        rw [e j hj]
        obtain ⟨_, _, _, _, h3⟩ := Classical.choose_spec (hone j hj)
        exact h3

/-- What is left of a measure. -/
def szF : List (List Int) → Int → Int
  | [], l => l
  | X :: r, l => if l - (X.length : Int) < 0 then -1 else szF r (l - (X.length : Int))
def szV (LL : List (List Int)) (left : Int) : Int := if left - (LL.length : Int) < 0 then -1 else szF LL (left - (LL.length : Int))

theorem szF_drop {LL : List (List Int)} {k : Nat} (h : k < LL.length) (l : Int) : szF (LL.drop k) l = if l - ((LL.getD k []).length : Int) < 0 then -1 else szF (LL.drop (k + 1)) (l - ((LL.getD k []).length : Int)) := by
  rw [List.drop_eq_getElem_cons h, List.getD_eq_getElem?_getD, List.getElem?_eq_getElem h]
  rfl

theorem szF_le : ∀ (LL : List (List Int)) (l : Int), 0 ≤ szF LL l → ∀ X ∈ LL, (X.length : Int) ≤ l
  | [], _, _, X, hX => by cases hX
  | Y :: r, l, h, X, hX => by
    unfold szF at h
    split at h
    · omega
    · rcases List.mem_cons.1 hX with rfl | hX
      · omega
      · have := szF_le r _ h X hX
        omega

set_option maxRecDepth 100000 in
theorem szI_any (n : Nat) (hn : n ≤ maxLen) (a : Option Addr) (c : Nat) (l : Int) (h0 : 0 ≤ l) (h1 : l ≤ 1048576) (w : World) :
    Calls Try.prog 46 #[.slice a n c, .int .i64 l] w fun e w' => e = .returned (.int .i64 (if l - (n : Int) < 0 then -1 else l - (n : Int))) ∧ Below w.heap.size w w' := by
  have hwr : IntKind.i64.wrap (l - (n : Int)) = l - (n : Int) := IntWalk.i64_in _ (by unfold maxLen at hn; omega)
  by_cases hc : l - (n : Int) < 0
  · rw [if_pos hc]
    go_enter Try.func46, Try.ntmps46
    go_wp2_with fail
    go_ret
    exact ⟨rfl, Below.refl _ _⟩
  · rw [if_neg hc]
    go_enter Try.func46, Try.ntmps46
    go_wp2_with fail
    go_ret
    exact ⟨rfl, Below.refl _ _⟩

set_option maxRecDepth 100000 in
set_option maxHeartbeats 1000000 in
theorem szSS_any (LL : List (List Int)) (hn : LL.length ≤ maxLen) (hr : ∀ j, j < LL.length → (LL.getD j []).length ≤ maxLen) (a : Option Addr) (c : Nat) (l : Int) (h0 : 0 ≤ l) (h1 : l ≤ 1048576) (w : World) (h : InRowL w a LL) :
    Calls Try.prog 14 #[.slice a LL.length c, .int .i64 l] w fun e w' => e = .returned (.int .i64 (szV LL l)) ∧ Below w.heap.size w w' := by
  have hwr : IntKind.i64.wrap (l - (LL.length : Int)) = l - (LL.length : Int) := IntWalk.i64_in _ (by unfold maxLen at hn; omega)
  by_cases hc : l - (LL.length : Int) < 0
  · have hv : szV LL l = -1 := by unfold szV; rw [if_pos hc]
    rw [hv]
    go_enter Try.func14, Try.ntmps14
    go_wp2_with fail
    go_ret
    exact ⟨rfl, Below.refl _ _⟩
  · have hv : szV LL l = szF LL (l - (LL.length : Int)) := by unfold szV; rw [if_neg hc]
    rw [hv]
    have HIN := Lib.hid h
    have HR := Lib.hid hr
    have HS := Lib.hid fun n hn a c l h0 h1 w => szI_any n hn a c l h0 h1 w
    clear hv h hr
    go_enter Try.func14, Try.ntmps14
    go_wp2_with fail
    go_loopw [1, 5] (fun s i wr => ∃ (k : Nat) (z : Int), k ≤ LL.length ∧ i = .int .i64 k ∧ s = .int .i64 z ∧ 0 ≤ z ∧ z ≤ 1048576 ∧ szF (LL.drop k) z = szF LL (l - (LL.length : Int)) ∧ Below w.heap.size w wr) (fun _ i _ => LL.length - (intOf i).toNat)
    case atStart => exact ⟨0, _, by omega, rfl, rfl, by omega, by omega, rfl, Below.refl _ _⟩
    case round =>
      obtain ⟨k, z, hk, rfl, rfl, hz0, hz1, hz, hb⟩ := hrel
      have HB := Lib.hid hb
      have HZ := Lib.hid hz
      by_cases hkl : k < LL.length
      · have hkl' : (k : Int) < (LL.length : Int) := by omega
        obtain ⟨b, off, rfl, hlt, hcs⟩ := (HIN.out.below hb).resolve_left (fun e => by rw [e] at hkl; simp at hkl)
        obtain ⟨ar, cr, e1, _⟩ := hcs k hkl
        have hd := szF_drop hkl z
        have hlen := HR.out k hkl
        rw [hz] at hd
        clear hb hz hcs
        generalize (LL.getD k []).length = n at *
        have HSN := Lib.hid fun w => HS.out n hlen ar cr z hz0 hz1 w
        by_cases hzn : z - (n : Int) < 0
        · rw [if_pos hzn] at hd
          have hs := HSN.out
          rw [if_pos hzn] at hs
          have HSP := Lib.hid hs
          have HD := Lib.hid hd
          clear hs hd hzn HSN
          go_wp2_with fail
          refine (HSP.out _).mono ?_
          rintro e w5 ⟨rfl, hb5⟩
          have HB5 : Hid (Below w.heap.size w w5) := Lib.hid (HB.out.trans (hb5.mono HB.out.size))
          clear hb5
          go_wp2_with fail
          go_ret
          exact ⟨by rw [HD.out]; rfl, HB5.out⟩
        · rw [if_neg hzn] at hd
          have hs := HSN.out
          rw [if_neg hzn] at hs
          have HSP := Lib.hid hs
          have HD := Lib.hid hd
          have hzz : ∃ zz, zz = z - (n : Int) := ⟨_, rfl⟩
          obtain ⟨zz, hzz⟩ := hzz
          rw [← hzz] at HSP HD
          have hz2 : 0 ≤ zz := by omega
          have hz3 : zz ≤ 1048576 := by omega
          have hz4 : ¬ zz < 0 := by omega
          clear hs hd hzn HSN hzz
          go_wp2_with fail
          refine (HSP.out _).mono ?_
          rintro e w5 ⟨rfl, hb5⟩
          have HB5 : Hid (Below w.heap.size w w5) := Lib.hid (HB.out.trans (hb5.mono HB.out.size))
          clear hb5
          go_wp2_with fail
          go_roundw
          case rel => exact ⟨k + 1, zz, by omega, by go_num, rfl, hz2, hz3, HD.out.symm, HB5.out⟩
          case measure => simp [intOf]; omega
      · obtain rfl : k = LL.length := by omega
        have hz5 : z = szF LL (l - (LL.length : Int)) := by
          rw [List.drop_length] at hz
          exact hz
        have HZ5 := Lib.hid hz5
        clear hb hz hz5
        go_wp2_with fail
        go_ret
        exact ⟨by rw [← HZ5.out]; rfl, HB.out⟩

/-- A list of lists in memory of the program's own: no two rows share a block, and none lies in the block of the list. -/
def RdS (w : World) (B : Nat) (a : Option Addr) (LL : List (List Int)) : Prop :=
  LL.length ≤ 2000000 ∧ (LL = [] ∨ ∃ (g : Nat) (gr : Nat → Nat), a = some ⟨g, 0, none⟩ ∧ B ≤ g ∧ g < w.heap.size ∧ (∀ i j, i < LL.length → j < LL.length → gr i = gr j → i = j) ∧
    ∀ j, j < LL.length → ∃ ar c, w.cell? ⟨g, j, none⟩ = some (.slice ar (LL.getD j []).length c) ∧ w.frozen? ⟨g, j, none⟩ = false ∧ Rd w B ar (LL.getD j []) ∧ gr j ≠ g ∧ gr j < w.heap.size ∧ (ar = none ∨ ar = some ⟨gr j, 0, none⟩))

theorem RdS.below {w w' : World} {B : Nat} {a : Option Addr} {LL : List (List Int)} (h : RdS w B a LL) (hb : Below w.heap.size w w') : RdS w' B a LL := by
  refine ⟨h.1, ?_⟩
  rcases h.2 with h0 | ⟨g, gr, ha, hB, hg, hi, hc⟩
  · exact Or.inl h0
  · refine Or.inr ⟨g, gr, ha, hB, Nat.lt_of_lt_of_le hg hb.size, hi, fun j hj => ?_⟩
    obtain ⟨ar, c, h1, h2, h3, h4, h5, h6⟩ := hc j hj
    exact ⟨ar, c, (hb.cell (p := ⟨g, j, none⟩) hg).trans h1, (hb.frozen (p := ⟨g, j, none⟩) hg).trans h2, h3.below hb, h4, Nat.lt_of_lt_of_le h5 hb.size, h6⟩

theorem RdS.inRowL {w : World} {B : Nat} {a : Option Addr} {LL : List (List Int)} (h : RdS w B a LL) : InRowL w a LL := by
  rcases h.2 with h0 | ⟨g, gr, ha, hB, hg, _, hc⟩
  · exact Or.inl h0
  · refine Or.inr ⟨g, 0, ha, hg, fun j hj => ?_⟩
    obtain ⟨ar, c, h1, _, h3, _⟩ := hc j hj
    exact ⟨ar, c, by rw [Nat.zero_add]; exact h1, h3.inRow⟩

set_option maxRecDepth 100000 in
set_option maxHeartbeats 1000000 in
theorem eqSS_any (LL : List (List Int)) (a1 a2 : Option Addr) (c1 c2 B1 B2 : Nat) (w : World) (h1 : RdS w B1 a1 LL) (h2 : RdS w B2 a2 LL) :
    Calls Try.prog 21 #[.slice a1 LL.length c1, .slice a2 LL.length c2] w fun e w' => e = .returned (.bool true) ∧ Below w.heap.size w w' := by
  have hn := h1.1
  have H1 := Lib.hid h1
  have H2 := Lib.hid h2
  clear h1 h2
  go_enter Try.func21, Try.ntmps21
  go_wp2_with fail
  go_loopw [5] (fun i wr => ∃ k : Nat, k ≤ LL.length ∧ i = .int .i64 k ∧ Below w.heap.size w wr) (fun i _ => LL.length - (intOf i).toNat)
  case atStart => exact ⟨0, by omega, rfl, Below.refl _ _⟩
  case round =>
    obtain ⟨k, hk, rfl, hb⟩ := hrel
    have HB := Lib.hid hb
    have hbs := hb.size
    by_cases hkl : k < LL.length
    · have hkl' : (k : Int) < (LL.length : Int) := by omega
      obtain ⟨g1, gr1, rfl, _, hg1, _, hc1⟩ := (H1.out.below hb).2.resolve_left (fun e => by rw [e] at hkl; simp at hkl)
      obtain ⟨g2, gr2, rfl, _, hg2, _, hc2⟩ := (H2.out.below hb).2.resolve_left (fun e => by rw [e] at hkl; simp at hkl)
      obtain ⟨r1, d1, e1, _, R1, _⟩ := hc1 k hkl
      obtain ⟨r2, d2, e2, _, R2, _⟩ := hc2 k hkl
      have HEQ := Lib.hid (eqS_same (LL.getD k []) r1 r2 d1 d2 B1 B2 wr.drew R1 R2)
      clear hb hc1 hc2 R1 R2
      generalize LL.getD k [] = X at *
      go_wp2_with fail
      go_still_tail 8, (by kernel_rfl)
      go_wp2_with fail
      refine HEQ.out.mono ?_
      rintro e w5 ⟨rfl, hb5⟩
      have HB5 : Hid (Below w.heap.size w w5) := Lib.hid (HB.out.drew.trans (hb5.mono hbs))
      clear hb5
      go_wp2_with fail
      go_roundw
      case rel => exact ⟨k + 1, by omega, by go_num, HB5.out⟩
      case measure => simp [intOf]; omega
    · obtain rfl : k = LL.length := by omega
      clear hb
      go_wp2_with fail
      go_ret
      exact ⟨rfl, HB.out⟩

theorem Rd.setLow {w : World} {B g o : Nat} {v : Value} {a : Option Addr} {L : List Int} (h : Rd w B a L) (hg : g < B) : Rd (w.setCell ⟨g, o, none⟩ v) B a L := by
  refine ⟨h.1, ?_⟩
  rcases h.2 with h0 | ⟨k, ha, hB, hk, hc⟩
  · exact Or.inl h0
  · refine Or.inr ⟨k, ha, hB, by simpa using hk, fun i hi => ?_⟩
    rw [World.cell?_setCell_other _ _ _ _ (by intro e; injection e with e _; omega), World.frozen?_setCell]
    exact hc i hi

theorem info_sl : (Try.prog.info? 26).map (fun i => (i.zero, i.size, i.bytes)) = some (some (.slice none 0 0), 1, 24) := by kernel_rfl

set_option maxRecDepth 100000 in
set_option maxHeartbeats 2000000 in
theorem toSS_any (LL : List (List Int)) (hn : LL.length ≤ 1048576) (hl : ∀ j, j < LL.length → (LL.getD j []).length ≤ 1048576) (a : Option Addr) (c : Nat) (w : World) (h : InRowL w a LL) :
    Calls Try.prog 17 #[.slice a LL.length c] w fun e w' => ∃ a', e = .returned (.slice a' LL.length LL.length) ∧ RdS w' w.heap.size a' LL ∧ Below w.heap.size w w' ∧ a' = some ⟨w.heap.size, 0, none⟩ ∧ w.heap.size < w'.heap.size := by
  obtain ⟨i0, hi, hz0, hz1, hz2⟩ := info_parts info_sl
  have HN := Lib.hid h
  have HL := Lib.hid hl
  clear h hl
  go_enter Try.func17, Try.ntmps17
  go_wp2_with (at_make; refine wpList_make_full _ rfl _ _ 23 rfl w.heap.size 26 i0 (.slice none 0 0) 1 Try.underlying23 hi hz0 hz1 .i64 .i64 (LL.length : Int) (LL.length : Int) LL.length rfl rfl rfl rfl ?c1 ?c2 ?c3 ?_)
  case c1 => rw [hz2]; omega
  case c2 => unfold maxLen; omega
  case c3 => exact Nat.le_refl _
  intro w1 hown hgrow
  have hcell : Hid (∀ j, j < LL.length → (∃ v, w1.cell? ⟨w.heap.size, j, none⟩ = some v) ∧ w1.frozen? ⟨w.heap.size, j, none⟩ = false) := Lib.hid fun j hj => by
    refine ⟨?_, hown.frozenAt j⟩
    have h1 := hown.cellAt j (by omega)
    have h2 := hown.1
    rw [List.getElem?_eq_getElem (by omega)] at h1
    exact ⟨_, h1⟩
  have Hb : Hid (Below w.heap.size w w1) := Lib.hid ((Below.refl _ _).grown hgrow (Nat.le_refl _) (fun k hk => by cases hk))
  have hg : w.heap.size < w1.heap.size := by
    rcases hown.2 with ⟨h', _⟩ | ⟨g', cap', cur, h', _, hg, _⟩
    · simp at h'
    · simp only [Value.slice.injEq, Option.some.injEq, Addr.mk.injEq, and_true, true_and] at h'
      obtain ⟨rfl, rfl⟩ := h'
      exact (Array.getElem?_eq_some_iff.1 hg).1
  clear hown hgrow
  go_wp2_with fail
  go_loopw [4] (fun i wr => ∃ k : Nat, k ≤ LL.length ∧ i = .int .i64 k ∧ Below w.heap.size w wr ∧ w.heap.size < wr.heap.size ∧
      (∃ gr : Nat → Nat, (∀ i j, i < j → j < k → gr i < gr j) ∧ (∀ j, j < k → w.heap.size < gr j ∧ gr j < wr.heap.size) ∧ ∀ j, j < k → ∃ cr, wr.cell? ⟨w.heap.size, j, none⟩ = some (.slice (some ⟨gr j, 0, none⟩) (LL.getD j []).length cr) ∧ Rd wr (w.heap.size + 1) (some ⟨gr j, 0, none⟩) (LL.getD j [])) ∧ (∀ j, j < LL.length → (∃ v, wr.cell? ⟨w.heap.size, j, none⟩ = some v) ∧ wr.frozen? ⟨w.heap.size, j, none⟩ = false)) (fun i _ => LL.length - (intOf i).toNat)
  case atStart => exact ⟨0, by omega, rfl, Hb.out, hg, ⟨fun _ => 0, fun i j _ h => by omega, fun j h => by omega, fun j h => by omega⟩, fun j hj => hcell.out j hj⟩
  case round =>
    obtain ⟨k, hk, rfl, hb, hsz, ⟨gr, gr1, gr2, gr3⟩, hcs⟩ := hrel
    have HB := Lib.hid hb
    have HCS := Lib.hid hcs
    have HG1 := Lib.hid gr1
    have HG2 := Lib.hid gr2
    have HG3 := Lib.hid gr3
    clear hb hcs hcell Hb gr1 gr2 gr3
    by_cases hkl : k < LL.length
    · have hkl' : (k : Int) < (LL.length : Int) := by omega
      obtain ⟨b, off, rfl, hlt, hin⟩ := HN.out.resolve_left (fun e => by rw [e] at hkl; exact absurd hkl (by simp))
      obtain ⟨ar, cr, e1, R1⟩ := hin k hkl
      rw [← HB.out.cell (p := ⟨b, off + k, none⟩) hlt] at e1
      have HTO := Lib.hid (toS_any (LL.getD k []) (HL.out k hkl) ar cr wr (R1.below HB.out))
      have HX : Hid (∃ X, X = LL.getD k []) := Lib.hid ⟨_, rfl⟩
      generalize hX : LL.getD k [] = X at *
      have HXX := Lib.hid hX
      clear hX hin HX R1
      go_wp2_with fail
      refine HTO.out.mono ?_
      rintro e w5 ⟨a5, rfl, hr5, hb5, rfl, hs6⟩
      have HB5 : Hid (Below w.heap.size w w5) := Lib.hid (HB.out.trans (hb5.mono (Nat.le_of_lt hsz)))
      have HBR := Lib.hid hb5
      have HR5 := Lib.hid (hr5.mono (show w.heap.size + 1 ≤ wr.heap.size from hsz))
      have hs5 := hb5.size
      obtain ⟨v, e2⟩ := (HCS.out k hkl).1
      have e2 := (hb5.cell (p := ⟨w.heap.size, k, none⟩) hsz).trans e2
      have e3 := (hb5.frozen (p := ⟨w.heap.size, k, none⟩) hsz).trans (HCS.out k hkl).2
      clear hr5 hb5 e1
      go_wp2_with fail
      go_roundw
      case rel =>
        have e4 := World.cell?_setCell_same w5 ⟨w.heap.size, k, none⟩ (.slice (some ⟨wr.heap.size, 0, none⟩) X.length X.length) e2
        refine ⟨k + 1, by omega, by go_num, HB5.out.setCell (Nat.le_refl _) _, by simp; omega, ⟨fun j => if j = k then wr.heap.size else gr j, fun i j hij hj => ?_, fun j hj => ?_, fun j hj => ?_⟩, fun j hj => ?_⟩
        · have h1 := HG2.out i (by omega)
          show (if i = k then wr.heap.size else gr i) < (if j = k then wr.heap.size else gr j)
          by_cases c : j = k
          · rw [if_neg (by omega), if_pos c]; exact h1.2
          · rw [if_neg (by omega), if_neg c]; exact HG1.out i j hij (by omega)
        · rw [World.size_setCell]
          show w.heap.size < (if j = k then wr.heap.size else gr j) ∧ (if j = k then wr.heap.size else gr j) < w5.heap.size
          by_cases c : j = k
          · rw [if_pos c]; omega
          · rw [if_neg c]
            have h1 := HG2.out j (by omega)
            omega
        · show ∃ cr, (w5.setCell ⟨w.heap.size, k, none⟩ (.slice (some ⟨wr.heap.size, 0, none⟩) X.length X.length)).cell? ⟨w.heap.size, j, none⟩ = some (.slice (some ⟨if j = k then wr.heap.size else gr j, 0, none⟩) (LL.getD j []).length cr) ∧ Rd (w5.setCell ⟨w.heap.size, k, none⟩ (.slice (some ⟨wr.heap.size, 0, none⟩) X.length X.length)) (w.heap.size + 1) (some ⟨if j = k then wr.heap.size else gr j, 0, none⟩) (LL.getD j [])
          by_cases c : j = k
          · subst c
            rw [if_pos rfl]
            exact ⟨X.length, by rw [e4, HXX.out], by rw [HXX.out]; exact HR5.out.setLow (Nat.lt_succ_self _)⟩
          · rw [if_neg c, World.cell?_setCell_other _ _ _ _ (by intro e; injection e with _ e; exact c e.symm), HBR.out.cell (p := ⟨w.heap.size, j, none⟩) hsz]
            obtain ⟨cr2, q1, q2⟩ := HG3.out j (by omega)
            exact ⟨cr2, q1, (q2.below HBR.out).setLow (Nat.lt_succ_self _)⟩
        · rw [World.frozen?_setCell]
          by_cases c : j = k
          · subst c; exact ⟨⟨_, e4⟩, e3⟩
          · rw [World.cell?_setCell_other _ _ _ _ (by intro e; injection e with _ e; exact c e.symm), HBR.out.cell (p := ⟨w.heap.size, j, none⟩) hsz, HBR.out.frozen (p := ⟨w.heap.size, j, none⟩) hsz]
            exact HCS.out j hj
      case measure => simp [intOf]; omega
    · obtain rfl : k = LL.length := by omega
      go_wp2_with fail
      go_ret
      refine ⟨_, rfl, ⟨by omega, Or.inr ⟨w.heap.size, gr, rfl, Nat.le_refl _, hsz, fun i j hi hj e => ?_, fun j hj => ?_⟩⟩, HB.out, rfl, hsz⟩
      · rcases Nat.lt_trichotomy i j with c | c | c
        · have := HG1.out i j c hj; omega
        · exact c
        · have := HG1.out j i c hi; omega
      · obtain ⟨cr, q4, q5⟩ := HG3.out j hj
        have h1 := HG2.out j hj
        exact ⟨_, cr, q4, (HCS.out j hj).2, q5.mono (Nat.le_succ _), by omega, h1.2, Or.inr rfl⟩

/-- The next mark behind a list of lists. -/
def mkF : List (List Int) → Int → Int
  | [], k => k
  | X :: r, k => mkF r (k + (X.length : Int))

theorem mkF_drop {LL : List (List Int)} {k : Nat} (h : k < LL.length) (z : Int) : mkF (LL.drop k) z = mkF (LL.drop (k + 1)) (z + ((LL.getD k []).length : Int)) := by
  rw [List.drop_eq_getElem_cons h, List.getD_eq_getElem?_getD, List.getElem?_eq_getElem h]
  rfl

theorem mkF_ge : ∀ (LL : List (List Int)) (k : Int), k ≤ mkF LL k
  | [], _ => Int.le_refl _
  | X :: r, k => by
    have := mkF_ge r (k + (X.length : Int))
    show k ≤ mkF r (k + (X.length : Int))
    omega

theorem Rd.turn {w w' : World} {S : Nat → Prop} {B g : Nat} {a : Option Addr} {L : List Int} (h : Rd w B a L) (ht : Turn w w' S) (ha : a = none ∨ a = some ⟨g, 0, none⟩) (hS : ¬ S g) : Rd w' B a L := by
  refine ⟨h.1, ?_⟩
  rcases h.2 with h0 | ⟨k, e, hB, hk, hc⟩
  · exact Or.inl h0
  · have hkg : k = g := by
      rcases ha with ha | ha
      · rw [ha] at e; cases e
      · rw [ha] at e; injection e with e; injection e with e; exact e.symm
    subst hkg
    refine Or.inr ⟨k, e, hB, Nat.lt_of_lt_of_le hk ht.size, fun i hi => ?_⟩
    have e2 := ht.block k hk hS
    have h1 := hc i hi
    unfold World.cell? World.frozen? at h1 ⊢
    rw [e2]
    exact h1

theorem But.turn {w w' : World} {a : Option Addr} {g : Nat} (h : But w w' a) (ha : a = none ∨ a = some ⟨g, 0, none⟩) : Turn w w' (fun b => b = g) :=
  ⟨h.os, h.tape, h.output, Nat.le_of_eq h.size.symm, fun k _ hk => h.block k (by
    rcases ha with ha | ha
    · rw [ha]; exact fun e => by cases e
    · rw [ha]; intro e; injection e with e; injection e with e; exact hk e.symm)⟩

/-- What marking a list of lists leaves: only rows' blocks have turned. -/
def MarkedS (w : World) (B C : Nat) (LL : List (List Int)) (k0 : Int) (e : Ending) (w' : World) : Prop :=
  e = .returned (.int .i64 (mkF LL k0)) ∧ Turn w w' (fun b => b < C) ∧ Below B w w'

set_option maxRecDepth 100000 in
set_option maxHeartbeats 2000000 in
theorem markSS_any (LL : List (List Int)) (a : Option Addr) (c B : Nat) (k0 : Int) (hk0 : 0 ≤ k0) (hk1 : mkF LL k0 ≤ 20000000) (wc w : World) (h : RdS wc B a LL) (hbc : Below wc.heap.size wc w) :
    Calls Try.prog 23 #[.slice a LL.length c, .int .i64 k0] w (MarkedS w B wc.heap.size LL k0) := by
  have HH := Lib.hid h
  have HC := Lib.hid hbc
  have hn := h.1
  clear h hbc
  go_enter Try.func23, Try.ntmps23
  go_wp2_with fail
  by_cases hL : LL = []
  · subst hL
    simp only [List.length_nil]
    refine wp_loop_rounds 1 ?_
    rw [rounds_succ]
    go_wp2_with fail
    go_ret
    exact ⟨rfl, Turn.of_below (Below.refl _ _), Below.refl _ _⟩
  obtain ⟨g, gr, rfl, hgB, hgC, hinj, hrows⟩ := HH.out.2.resolve_left hL
  have HI := Lib.hid hinj
  have HW := Lib.hid hrows
  have hcs := HC.out.size
  clear hinj hrows hL
  go_loopw [1, 5] (fun s i wr => ∃ (k : Nat) (z : Int), k ≤ LL.length ∧ i = .int .i64 k ∧ s = .int .i64 z ∧ 0 ≤ z ∧ mkF (LL.drop k) z = mkF LL k0 ∧ Turn w wr (fun b => ∃ i, i < k ∧ gr i = b) ∧ Below B w wr) (fun _ i _ => LL.length - (intOf i).toNat)
  case atStart => exact ⟨0, _, by omega, rfl, rfl, hk0, rfl, Turn.of_below (Below.refl _ _), Below.refl _ _⟩
  case round =>
    obtain ⟨k, z, hk, rfl, rfl, hz0, hz, ht, hb⟩ := hrel
    have HT := Lib.hid ht
    have HB := Lib.hid hb
    by_cases hkl : k < LL.length
    · have hkl' : (k : Int) < (LL.length : Int) := by omega
      obtain ⟨ar, cr, e1, _, R1, hne, hlt, har⟩ := HW.out k hkl
      have HA := Lib.hid har
      have e1 := (HC.out.cell (p := ⟨g, k, none⟩) hgC).trans e1
      have hSg : ¬ ∃ i, i < k ∧ gr i = g := fun ⟨i, hi, e⟩ => by
        obtain ⟨_, _, _, _, _, h1, _⟩ := HW.out i (by omega)
        exact h1 e
      have hSk : ¬ ∃ i, i < k ∧ gr i = gr k := fun ⟨i, hi, e⟩ => by
        have := HI.out i k (by omega) hkl e
        omega
      have e1 : wr.cell? ⟨g, k, none⟩ = some (.slice ar (LL.getD k []).length cr) := by
        have e := ht.block g (by omega) hSg
        unfold World.cell? at e1 ⊢
        rw [e]
        exact e1
      have R2 := (R1.below HC.out).turn ht har hSk
      have hd := mkF_drop hkl z
      rw [hz] at hd
      have hz1 : z ≤ 20000000 := by
        have := mkF_ge (LL.drop k) z
        omega
      have HMK := Lib.hid (markS_any (LL.getD k []) ar cr B z hz0 hz1 wr R2)
      have HD := Lib.hid hd
      clear ht hb R1 R2 hz hd har hne hSg hSk
      generalize LL.getD k [] = X at *
      go_wp2_with fail
      refine HMK.out.mono ?_
      rintro e w5 ⟨rfl, hr5, hbu, hb5⟩
      have HB5 : Hid (Below B w w5) := Lib.hid (HB.out.trans hb5)
      have HT5 : Hid (Turn w w5 (fun b => ∃ i, i < k + 1 ∧ gr i = b)) := Lib.hid ((HT.out.mono (fun b _ ⟨i, hi, h⟩ => ⟨i, by omega, h⟩)).trans (((hbu.turn HA.out)).mono (fun b _ hbk => ⟨k, Nat.lt_succ_self _, hbk.symm⟩)))
      clear hr5 hbu hb5
      go_wp2_with fail
      go_roundw
      case rel => exact ⟨k + 1, z + (X.length : Int), by omega, by go_num, rfl, by omega, HD.out.symm, HT5.out, HB5.out⟩
      case measure => simp [intOf]; omega
    · obtain rfl : k = LL.length := by omega
      have hz5 : z = mkF LL k0 := by
        rw [List.drop_length] at hz
        exact hz
      have HZ5 := Lib.hid hz5
      clear ht hb hz hz5
      go_wp2_with fail
      go_ret
      refine ⟨by rw [← HZ5.out]; rfl, HT.out.mono (fun b hb ⟨i, hi, e⟩ => ?_), HB.out⟩
      obtain ⟨_, _, _, _, _, _, h1, _⟩ := HW.out i hi
      show b < wc.heap.size
      omega

end Go.Proofs.Ytoagpklippdlmaa
