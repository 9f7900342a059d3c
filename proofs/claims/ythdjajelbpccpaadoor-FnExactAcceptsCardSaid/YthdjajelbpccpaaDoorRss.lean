/- Lists of lists of numbers among a law's arguments: opened, measured, copied, compared (laws.szInt64S, laws.szInt64SS, laws.toInt64SS, laws.eqInt64SS). -/
import Derived.Test.YthdjajelbpccpaaDoorRowS
import Derived.Test.YthdjajelbpccpaaDoorSl
import Derived.Test.YthdjajelbpccpaaDoorTurn
import Derived.Deep.Slices
import Derived.StillTailTactics
namespace Go.Proofs.YthdjajelbpccpaaDoor
open Go.ChangeShapes Go.WideShapes Go.ChangeAt Go.RowKit Go.Deep

/-- A list of lists that came in. -/
def InRowL (w : World) (a : Option Addr) (LL : List (List Int)) : Prop :=
  LL = [] ∨ ∃ b off, a = some ⟨b, off, none⟩ ∧ b < w.heap.size ∧ ∀ j, j < LL.length → ∃ ar c, w.cell? ⟨b, off + j, none⟩ = some (.slice ar (LL.getD j []).length c) ∧ InRow w ar (LL.getD j [])

theorem InRowL.below {w w' : World} {a : Option Addr} {LL : List (List Int)} (h : InRowL w a LL) (hb : Below w.heap.size w w') : InRowL w' a LL := by
  rcases h with h0 | ⟨b, off, ha, hlt, hc⟩
  · exact Or.inl h0
  · exact Or.inr ⟨b, off, ha, Nat.lt_of_lt_of_le hlt hb.size, fun j hj => by
      obtain ⟨ar, c, h1, h2⟩ := hc j hj
      exact ⟨ar, c, (hb.cell (p := ⟨b, off + j, none⟩) hlt).trans h1, h2.below hb⟩⟩

set_option maxRecDepth 100000 in
theorem open_one {H : Type} {enc : TypeId × Value → H} {W : World} {spare : Nat → Bool} {held : Bool} {v : Value} {fuel : Nat} {x : DataW H × List MemPlace}
    (hf : DataW.trod enc Tryd.prog W 0 spare held fuel 23 [v] = some x) : ∃ ar c, ∃ L : List Int, v = .slice ar L.length c ∧ InRow W ar L ∧ L.length ≤ maxLen ∧ ∀ x ∈ L, (Lit.int .i64 x).wf = true := by
  rcases open_ints Tryd.underlying23 Tryd.underlying2 cellsI hf with ⟨hcs, _⟩ | ⟨x, len, cap, zs, hcs, _, hl, hm, hz, _, hcell, hwf⟩
  · injection hcs with hcs _
    exact ⟨none, 0, [], by rw [hcs]; rfl, Or.inl rfl, by simp, fun x hx => by cases hx⟩
  · injection hcs with hcs _
    have hlen : len ≤ zs.length := by rw [hz]; split <;> omega
    have htl : (zs.take len).length = len := by simp; omega
    refine ⟨some x, cap, zs.take len, by rw [hcs, htl], ?_, by omega, fun y hy => hwf y (List.mem_of_mem_take hy)⟩
    by_cases h0 : len = 0
    · subst h0; exact Or.inl (by simp)
    · obtain ⟨b, off, spot⟩ := x
      have hc := hcell 0 (by omega)
      have hspot : spot = none := by simpa [Addr.add] using World.cell?_spot hc
      subst hspot
      have hlt := World.block_lt_of_cell? W _ hc
      refine Or.inr ⟨b, off, rfl, by simpa [Addr.add] using hlt, fun i hi => ?_⟩
      have hil : i < len := by omega
      have e := hcell i (by omega)
      have hadd : (⟨b, off, none⟩ : Addr).add i = ⟨b, off + i, none⟩ := by cases i <;> simp [Addr.add]
      rw [hadd] at e
      rw [e]
      simp [hil]

theorem cellsS : Tryd.prog.cellsOf 23 = 1 := by kernel_rfl



/-- What is left of a measure. -/
def szF : List (List Int) → Int → Int
  | [], l => l
  | X :: r, l => if l - (X.length : Int) < 0 then -1 else szF r (l - (X.length : Int))
def szV (LL : List (List Int)) (left : Int) : Int := if left - (LL.length : Int) < 0 then -1 else szF LL (left - (LL.length : Int))

theorem szF_drop {LL : List (List Int)} {k : Nat} (h : k < LL.length) (l : Int) : szF (LL.drop k) l = if l - ((LL.getD k []).length : Int) < 0 then -1 else szF (LL.drop (k + 1)) (l - ((LL.getD k []).length : Int)) := by
  rw [List.drop_eq_getElem_cons h, List.getD_eq_getElem?_getD, List.getElem?_eq_getElem h]
  rfl

theorem szF_le : ∀ (LL : List (List Int)) (l : Int), 0 ≤ szF LL l → ∀ X ∈ LL, (X.length : Int) ≤ l
  | [], _, _, X, hX => by cases hX
  | Y :: r, l, h, X, hX => by
    unfold szF at h
    split at h
    · omega
    · rcases List.mem_cons.1 hX with rfl | hX
      · omega
      · have := szF_le r _ h X hX
        omega

set_option maxRecDepth 100000 in
theorem szI_any (n : Nat) (hn : n ≤ maxLen) (a : Option Addr) (c : Nat) (l : Int) (h0 : 0 ≤ l) (h1 : l ≤ 1048576) (w : World) :
    Calls Tryd.prog 43 #[.slice a n c, .int .i64 l] w fun e w' => e = .returned (.int .i64 (if l - (n : Int) < 0 then -1 else l - (n : Int))) ∧ Below w.heap.size w w' := by
  have hwr : IntKind.i64.wrap (l - (n : Int)) = l - (n : Int) := IntWalk.i64_in _ (by unfold maxLen at hn; omega)
  by_cases hc : l - (n : Int) < 0
  · rw [if_pos hc]
    go_enter Tryd.func43, Tryd.ntmps43
    go_wp2_with fail
    go_ret
    exact ⟨rfl, Below.refl _ _⟩
  · rw [if_neg hc]
    go_enter Tryd.func43, Tryd.ntmps43
    go_wp2_with fail
    go_ret
    exact ⟨rfl, Below.refl _ _⟩



/-- A list of lists in memory of the program's own: no two rows share a block, and none lies in the block of the list. -/
def RdS (w : World) (B : Nat) (a : Option Addr) (LL : List (List Int)) : Prop :=
  LL.length ≤ 2000000 ∧ (LL = [] ∨ ∃ (g : Nat) (gr : Nat → Nat), a = some ⟨g, 0, none⟩ ∧ B ≤ g ∧ g < w.heap.size ∧ (∀ i j, i < LL.length → j < LL.length → gr i = gr j → i = j) ∧
    ∀ j, j < LL.length → ∃ ar c, w.cell? ⟨g, j, none⟩ = some (.slice ar (LL.getD j []).length c) ∧ w.frozen? ⟨g, j, none⟩ = false ∧ Rd w B ar (LL.getD j []) ∧ gr j ≠ g ∧ gr j < w.heap.size ∧ (ar = none ∨ ar = some ⟨gr j, 0, none⟩))

theorem RdS.below {w w' : World} {B : Nat} {a : Option Addr} {LL : List (List Int)} (h : RdS w B a LL) (hb : Below w.heap.size w w') : RdS w' B a LL := by
  refine ⟨h.1, ?_⟩
  rcases h.2 with h0 | ⟨g, gr, ha, hB, hg, hi, hc⟩
  · exact Or.inl h0
  · refine Or.inr ⟨g, gr, ha, hB, Nat.lt_of_lt_of_le hg hb.size, hi, fun j hj => ?_⟩
    obtain ⟨ar, c, h1, h2, h3, h4, h5, h6⟩ := hc j hj
    exact ⟨ar, c, (hb.cell (p := ⟨g, j, none⟩) hg).trans h1, (hb.frozen (p := ⟨g, j, none⟩) hg).trans h2, h3.below hb, h4, Nat.lt_of_lt_of_le h5 hb.size, h6⟩

theorem RdS.inRowL {w : World} {B : Nat} {a : Option Addr} {LL : List (List Int)} (h : RdS w B a LL) : InRowL w a LL := by
  rcases h.2 with h0 | ⟨g, gr, ha, hB, hg, _, hc⟩
  · exact Or.inl h0
  · refine Or.inr ⟨g, 0, ha, hg, fun j hj => ?_⟩
    obtain ⟨ar, c, h1, _, h3, _⟩ := hc j hj
    exact ⟨ar, c, by rw [Nat.zero_add]; exact h1, h3.inRow⟩



theorem Rd.setLow {w : World} {B g o : Nat} {v : Value} {a : Option Addr} {L : List Int} (h : Rd w B a L) (hg : g < B) : Rd (w.setCell ⟨g, o, none⟩ v) B a L := by
  refine ⟨h.1, ?_⟩
  rcases h.2 with h0 | ⟨k, ha, hB, hk, hc⟩
  · exact Or.inl h0
  · refine Or.inr ⟨k, ha, hB, by simpa using hk, fun i hi => ?_⟩
    rw [World.cell?_setCell_other _ _ _ _ (by intro e; injection e with e _; omega), World.frozen?_setCell]
    exact hc i hi

theorem info_sl : (Tryd.prog.info? 23).map (fun i => (i.zero, i.size, i.bytes)) = some (some (.slice none 0 0), 1, 24) := by kernel_rfl



/-- The next mark behind a list of lists. -/
def mkF : List (List Int) → Int → Int
  | [], k => k
  | X :: r, k => mkF r (k + (X.length : Int))

theorem mkF_drop {LL : List (List Int)} {k : Nat} (h : k < LL.length) (z : Int) : mkF (LL.drop k) z = mkF (LL.drop (k + 1)) (z + ((LL.getD k []).length : Int)) := by
  rw [List.drop_eq_getElem_cons h, List.getD_eq_getElem?_getD, List.getElem?_eq_getElem h]
  rfl

theorem mkF_ge : ∀ (LL : List (List Int)) (k : Int), k ≤ mkF LL k
  | [], _ => Int.le_refl _
  | X :: r, k => by
    have := mkF_ge r (k + (X.length : Int))
    show k ≤ mkF r (k + (X.length : Int))
    omega

theorem Rd.turn {w w' : World} {S : Nat → Prop} {B g : Nat} {a : Option Addr} {L : List Int} (h : Rd w B a L) (ht : Turn w w' S) (ha : a = none ∨ a = some ⟨g, 0, none⟩) (hS : ¬ S g) : Rd w' B a L := by
  refine ⟨h.1, ?_⟩
  rcases h.2 with h0 | ⟨k, e, hB, hk, hc⟩
  · exact Or.inl h0
  · have hkg : k = g := by
      rcases ha with ha | ha
      · rw [ha] at e; cases e
      · rw [ha] at e; injection e with e; injection e with e; exact e.symm
    subst hkg
    refine Or.inr ⟨k, e, hB, Nat.lt_of_lt_of_le hk ht.size, fun i hi => ?_⟩
    have e2 := ht.block k hk hS
    have h1 := hc i hi
    unfold World.cell? World.frozen? at h1 ⊢
    rw [e2]
    exact h1

theorem But.turn {w w' : World} {a : Option Addr} {g : Nat} (h : But w w' a) (ha : a = none ∨ a = some ⟨g, 0, none⟩) : Turn w w' (fun b => b = g) :=
  ⟨h.os, h.tape, h.output, Nat.le_of_eq h.size.symm, fun k _ hk => h.block k (by
    rcases ha with ha | ha
    · rw [ha]; exact fun e => by cases e
    · rw [ha]; intro e; injection e with e; injection e with e; exact hk e.symm)⟩

/-- What marking a list of lists leaves: only rows' blocks have turned. -/
def MarkedS (w : World) (B C : Nat) (LL : List (List Int)) (k0 : Int) (e : Ending) (w' : World) : Prop :=
  e = .returned (.int .i64 (mkF LL k0)) ∧ Turn w w' (fun b => b < C) ∧ Below B w w'



end Go.Proofs.YthdjajelbpccpaaDoor
