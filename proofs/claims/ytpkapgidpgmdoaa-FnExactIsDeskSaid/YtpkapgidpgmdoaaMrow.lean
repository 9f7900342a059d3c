/- Lists of maps in memory: six cells a map; the contract of laws.toMapS. -/
import Derived.Test.YtpkapgidpgmdoaaBase
import Derived.Test.YtpkapgidpgmdoaaSl
namespace Go.Proofs.Ytpkapgidpgmdoaa
open Go.RowKit

/-- A map or what is none, by its six numbers. -/
abbrev MapN := Int × (Nat → Int)

/-- The cells of the map at place j of a row that begins at off in block b. -/
def AtM (w : World) (b off : Nat) (j : Nat) (x : MapN) : Prop :=
  w.cell? ⟨b, off + j * 6, none⟩ = some (.int .i64 x.1) ∧ w.cell? ⟨b, off + j * 6 + 1, none⟩ = some (.int .i64 (x.2 0)) ∧ w.cell? ⟨b, off + j * 6 + 2, none⟩ = some (.int .i64 (x.2 1)) ∧
    w.cell? ⟨b, off + j * 6 + 3, none⟩ = some (.int .i64 (x.2 2)) ∧ w.cell? ⟨b, off + j * 6 + 4, none⟩ = some (.int .i64 (x.2 3)) ∧ w.cell? ⟨b, off + j * 6 + 5, none⟩ = some (.int .i64 (x.2 4))

def z0 : MapN := (0, fun _ => 0)

/-- A list of maps that came in: empty, or its cells lie at an address. -/
def InRowM (w : World) (a : Option Addr) (L : List MapN) : Prop :=
  L = [] ∨ ∃ b off, a = some ⟨b, off, none⟩ ∧ b < w.heap.size ∧ ∀ j, j < L.length → AtM w b off j (L.getD j z0)

theorem InRowM.below {w w' : World} {a : Option Addr} {L : List MapN} (h : InRowM w a L) (hb : Below w.heap.size w w') : InRowM w' a L := by
  rcases h with h0 | ⟨b, off, ha, hlt, hc⟩
  · exact Or.inl h0
  · refine Or.inr ⟨b, off, ha, by have := hb.size; omega, fun j hj => ?_⟩
    have := hc j hj
    unfold AtM at this ⊢
    rw [hb.cell (p := ⟨b, _, none⟩) hlt, hb.cell (p := ⟨b, _, none⟩) hlt, hb.cell (p := ⟨b, _, none⟩) hlt, hb.cell (p := ⟨b, _, none⟩) hlt, hb.cell (p := ⟨b, _, none⟩) hlt, hb.cell (p := ⟨b, _, none⟩) hlt]
    exact this

theorem info_map : (Try.prog.info? 39).map (fun i => (i.zero, i.size, i.bytes)) = some (some (.agg #[.int .i64 0, .int .i64 0, .int .i64 0, .int .i64 0, .int .i64 0, .int .i64 0]), 6, 48) := by kernel_rfl

/-- Six stores in a row. -/
abbrev set6 (w : World) (b o : Nat) (p t0 t1 t2 t3 t4 : Value) : World :=
  (((((w.setCell ⟨b, o, none⟩ p).setCell ⟨b, o + 1, none⟩ t0).setCell ⟨b, o + 2, none⟩ t1).setCell ⟨b, o + 3, none⟩ t2).setCell ⟨b, o + 4, none⟩ t3).setCell ⟨b, o + 5, none⟩ t4

theorem set_other (w : World) (b b' o x : Nat) (v : Value) (h : b' ≠ b ∨ x ≠ o) : (w.setCell ⟨b, o, none⟩ v).cell? ⟨b', x, none⟩ = w.cell? ⟨b', x, none⟩ :=
  World.cell?_setCell_other _ _ _ _ (by intro e; injection e with e1 e2 _; rcases h with h | h; exact h e1.symm; exact h e2.symm)

theorem set6_ne (w : World) (b b' o x : Nat) (p t0 t1 t2 t3 t4 : Value) (h : b' ≠ b ∨ x < o ∨ o + 5 < x) : (set6 w b o p t0 t1 t2 t3 t4).cell? ⟨b', x, none⟩ = w.cell? ⟨b', x, none⟩ := by
  unfold set6
  rw [set_other _ _ _ _ _ _ (by omega), set_other _ _ _ _ _ _ (by omega), set_other _ _ _ _ _ _ (by omega), set_other _ _ _ _ _ _ (by omega), set_other _ _ _ _ _ _ (by omega), set_other _ _ _ _ _ _ (by omega)]

theorem set6_frozen (w : World) (b o : Nat) (p t0 t1 t2 t3 t4 : Value) (q : Addr) : (set6 w b o p t0 t1 t2 t3 t4).frozen? q = w.frozen? q := by
  unfold set6
  rw [World.frozen?_setCell, World.frozen?_setCell, World.frozen?_setCell, World.frozen?_setCell, World.frozen?_setCell, World.frozen?_setCell]

theorem set6_is (w : World) (b o x : Nat) (p t0 t1 t2 t3 t4 : Value) (h : ∃ v, w.cell? ⟨b, x, none⟩ = some v) : ∃ v, (set6 w b o p t0 t1 t2 t3 t4).cell? ⟨b, x, none⟩ = some v := by
  have one : ∀ (w : World) (o : Nat) (u : Value), (∃ v, w.cell? ⟨b, x, none⟩ = some v) → ∃ v, (w.setCell ⟨b, o, none⟩ u).cell? ⟨b, x, none⟩ = some v := fun w o u h => by
    by_cases e : x = o
    · subst e
      obtain ⟨v, hv⟩ := h
      exact ⟨_, World.cell?_setCell_same _ _ _ hv⟩
    · rw [set_other _ _ _ _ _ _ (Or.inr e)]; exact h
  exact one _ _ _ (one _ _ _ (one _ _ _ (one _ _ _ (one _ _ _ (one _ _ _ h)))))

theorem set6_at (w : World) (b o : Nat) (p t0 t1 t2 t3 t4 : Value) (h : ∀ i, i < 6 → ∃ v, w.cell? ⟨b, o + i, none⟩ = some v) :
    (set6 w b o p t0 t1 t2 t3 t4).cell? ⟨b, o, none⟩ = some p ∧ (set6 w b o p t0 t1 t2 t3 t4).cell? ⟨b, o + 1, none⟩ = some t0 ∧ (set6 w b o p t0 t1 t2 t3 t4).cell? ⟨b, o + 2, none⟩ = some t1 ∧
      (set6 w b o p t0 t1 t2 t3 t4).cell? ⟨b, o + 3, none⟩ = some t2 ∧ (set6 w b o p t0 t1 t2 t3 t4).cell? ⟨b, o + 4, none⟩ = some t3 ∧ (set6 w b o p t0 t1 t2 t3 t4).cell? ⟨b, o + 5, none⟩ = some t4 := by
  have is : ∀ (w : World) (o' : Nat) (u : Value) (x : Nat), (∃ v, w.cell? ⟨b, x, none⟩ = some v) → ∃ v, (w.setCell ⟨b, o', none⟩ u).cell? ⟨b, x, none⟩ = some v := fun w o' u x h => by
    by_cases e : x = o'
    · subst e
      obtain ⟨v, hv⟩ := h
      exact ⟨_, World.cell?_setCell_same _ _ _ hv⟩
    · rw [set_other _ _ _ _ _ _ (Or.inr e)]; exact h
  have at' : ∀ (w : World) (x : Nat) (u : Value), (∃ v, w.cell? ⟨b, x, none⟩ = some v) → (w.setCell ⟨b, x, none⟩ u).cell? ⟨b, x, none⟩ = some u := fun w x u ⟨v, hv⟩ => World.cell?_setCell_same _ _ _ hv
  have h0 := h 0 (by omega)
  have h1 := h 1 (by omega)
  have h2 := h 2 (by omega)
  have h3 := h 3 (by omega)
  have h4 := h 4 (by omega)
  have h5 := h 5 (by omega)
  simp only [Nat.add_zero] at h0
  unfold set6
  refine ⟨?_, ?_, ?_, ?_, ?_, ?_⟩
  · rw [set_other _ _ _ _ _ _ (by omega), set_other _ _ _ _ _ _ (by omega), set_other _ _ _ _ _ _ (by omega), set_other _ _ _ _ _ _ (by omega), set_other _ _ _ _ _ _ (by omega)]
    exact at' _ _ _ h0
  · rw [set_other _ _ _ _ _ _ (by omega), set_other _ _ _ _ _ _ (by omega), set_other _ _ _ _ _ _ (by omega), set_other _ _ _ _ _ _ (by omega)]
    exact at' _ _ _ (is _ _ _ _ h1)
  · rw [set_other _ _ _ _ _ _ (by omega), set_other _ _ _ _ _ _ (by omega), set_other _ _ _ _ _ _ (by omega)]
    exact at' _ _ _ (is _ _ _ _ (is _ _ _ _ h2))
  · rw [set_other _ _ _ _ _ _ (by omega), set_other _ _ _ _ _ _ (by omega)]
    exact at' _ _ _ (is _ _ _ _ (is _ _ _ _ (is _ _ _ _ h3)))
  · rw [set_other _ _ _ _ _ _ (by omega)]
    exact at' _ _ _ (is _ _ _ _ (is _ _ _ _ (is _ _ _ _ (is _ _ _ _ h4))))
  · exact at' _ _ _ (is _ _ _ _ (is _ _ _ _ (is _ _ _ _ (is _ _ _ _ (is _ _ _ _ h5)))))

/-- The address leads to a row from block B on that holds the maps of L and may be written. -/
def RdM (w : World) (B : Nat) (a : Option Addr) (L : List MapN) : Prop :=
  L.length ≤ 2000000 ∧ (L = [] ∨ ∃ g, a = some ⟨g, 0, none⟩ ∧ B ≤ g ∧ g < w.heap.size ∧ (∀ j, j < L.length → AtM w g 0 j (L.getD j z0)) ∧ ∀ x, x < L.length * 6 → w.frozen? ⟨g, x, none⟩ = false)

theorem AtM.block {w w' : World} {b off j : Nat} {x : MapN} (h : AtM w b off j x) (e : w'.heap[b]? = w.heap[b]?) : AtM w' b off j x := by
  have c : ∀ y, w'.cell? ⟨b, y, none⟩ = w.cell? ⟨b, y, none⟩ := fun y => World.cell?_of_block (a := ⟨b, y, none⟩) e
  unfold AtM at h ⊢
  simp only [c]
  exact h

theorem RdM.below {w w' : World} {B : Nat} {a : Option Addr} {L : List MapN} (h : RdM w B a L) (hb : Below w.heap.size w w') : RdM w' B a L := by
  refine ⟨h.1, ?_⟩
  rcases h.2 with h0 | ⟨g, ha, hB, hg, hc, hf⟩
  · exact Or.inl h0
  · exact Or.inr ⟨g, ha, hB, by have := hb.size; omega, fun j hj => (hc j hj).block (hb.block g hg), fun x hx => by rw [World.frozen?_of_block (a := ⟨g, x, none⟩) (hb.block g hg)]; exact hf x hx⟩

theorem RdM.mono {w : World} {B B' : Nat} {a : Option Addr} {L : List MapN} (h : RdM w B a L) (hB : B' ≤ B) : RdM w B' a L := by
  refine ⟨h.1, ?_⟩
  rcases h.2 with h0 | ⟨g, ha, hb, hg, hc⟩
  · exact Or.inl h0
  · exact Or.inr ⟨g, ha, Nat.le_trans hB hb, hg, hc⟩

theorem RdM.inRow {w : World} {B : Nat} {a : Option Addr} {L : List MapN} (h : RdM w B a L) : InRowM w a L := by
  rcases h.2 with h0 | ⟨g, ha, _, hg, hc, _⟩
  · exact Or.inl h0
  · exact Or.inr ⟨g, 0, ha, hg, hc⟩

/-- The call returns a copy of its own. -/
def RetCopyM (L : List MapN) (w : World) (e : Ending) (w' : World) : Prop :=
  ∃ a, e = .returned (.slice a L.length L.length) ∧ RdM w' w.heap.size a L ∧ Below w.heap.size w w' ∧ a = some ⟨w.heap.size, 0, none⟩ ∧ w.heap.size < w'.heap.size

set_option maxRecDepth 100000 in
set_option maxHeartbeats 1000000 in
theorem toMS_any (L : List MapN) (hn : L.length ≤ 1048576) (a : Option Addr) (c : Nat) (w : World) (h : InRowM w a L) :
    Calls Try.prog 21 #[.slice a L.length c] w (RetCopyM L w) := by
  obtain ⟨i0, hi, hz0, hz1, hz2⟩ := info_parts info_map
  have HN : Hid (InRowM w a L) := Lib.hid h
  clear h
  go_enter Try.func21, Try.ntmps21
  go_wp2_with (at_make; refine wpList_make_full _ rfl _ _ 24 rfl w.heap.size 39 i0 (.agg #[.int .i64 0, .int .i64 0, .int .i64 0, .int .i64 0, .int .i64 0, .int .i64 0]) 6 Try.underlying24 hi hz0 hz1 .i64 .i64 (L.length : Int) (L.length : Int) L.length rfl rfl rfl rfl ?c1 ?c2 ?c3 ?_)
  case c1 => rw [hz2]; omega
  case c2 => unfold maxLen; omega
  case c3 => exact Nat.le_refl _
  intro w1 hown hgrow
  have hcell : Hid (∀ x, x < L.length * 6 → (∃ v, w1.cell? ⟨w.heap.size, x, none⟩ = some v) ∧ w1.frozen? ⟨w.heap.size, x, none⟩ = false) := Lib.hid fun x hx => by
    refine ⟨?_, hown.frozenAt x⟩
    have h1 := hown.cellAt x (by omega)
    have h2 := hown.1
    rw [List.getElem?_eq_getElem (by omega)] at h1
    exact ⟨_, h1⟩
  have Hb : Hid (Below w.heap.size w w1) := Lib.hid ((Below.refl _ _).grown hgrow (Nat.le_refl _) (fun k hk => by cases hk))
  have hg : w.heap.size < w1.heap.size := by
    rcases hown.2 with ⟨h', _⟩ | ⟨g', cap', cur, h', _, hg, _⟩
    · simp at h'
    · simp only [Value.slice.injEq, Option.some.injEq, Addr.mk.injEq, and_true, true_and] at h'
      obtain ⟨rfl, rfl⟩ := h'
      exact (Array.getElem?_eq_some_iff.1 hg).1
  clear hown hgrow
  go_wp2_with fail
  go_loopw [4] (fun i wr => ∃ k : Nat, k ≤ L.length ∧ i = .int .i64 k ∧ Below w.heap.size w wr ∧ w.heap.size < wr.heap.size ∧
      (∀ j, j < k → AtM wr w.heap.size 0 j (L.getD j z0)) ∧ (∀ x, x < L.length * 6 → (∃ v, wr.cell? ⟨w.heap.size, x, none⟩ = some v) ∧ wr.frozen? ⟨w.heap.size, x, none⟩ = false)) (fun i _ => L.length - (intOf i).toNat)
  case atStart => exact ⟨0, by omega, rfl, Hb.out, hg, fun j hj => by omega, hcell.out⟩
  case round =>
    obtain ⟨k, hk, rfl, hb, hsz, hat, hcs⟩ := hrel
    have HB := Lib.hid hb
    have HAT := Lib.hid hat
    have HCS := Lib.hid hcs
    clear hb hcs hcell Hb hat
    by_cases hkl : k < L.length
    · have hkl' : (k : Int) < (L.length : Int) := by omega
      obtain ⟨b, off, rfl, hlt, hin⟩ := HN.out.resolve_left (fun e => by rw [e] at hkl; exact absurd hkl (by simp))
      have e1 := hin k hkl
      have e2 : AtM wr b off k (L.getD k z0) := e1.block (HB.out.block b hlt)
      clear hin e1
      have HX : Hid (∃ X, X = L.getD k z0) := Lib.hid ⟨_, rfl⟩
      generalize hX : L.getD k z0 = X at *
      have HXX := Lib.hid hX
      clear hX HX
      obtain ⟨x0, x1, x2, x3, x4, x5⟩ := e2
      obtain ⟨⟨v0, y0⟩, f0⟩ := HCS.out (k * 6) (by omega)
      obtain ⟨⟨v1, y1⟩, f1⟩ := HCS.out (k * 6 + 1) (by omega)
      obtain ⟨⟨v2, y2⟩, f2⟩ := HCS.out (k * 6 + 2) (by omega)
      obtain ⟨⟨v3, y3⟩, f3⟩ := HCS.out (k * 6 + 3) (by omega)
      obtain ⟨⟨v4, y4⟩, f4⟩ := HCS.out (k * 6 + 4) (by omega)
      obtain ⟨⟨v5, y5⟩, f5⟩ := HCS.out (k * 6 + 5) (by omega)
      go_wp2_with fail
      refine (toMap_any X.1 X.2 _).mono ?_
      rintro e w2 ⟨rfl, hb⟩
      obtain ⟨hc, hf⟩ := bcell hb
      have hz2 := hb.size
      have Hb2 := Lib.hid hb
      clear hb
      simp only [mv, mcells]
      go_wp2_with fail
      go_roundw
      case rel =>
        have his : ∀ x, x < L.length * 6 → ∃ v, w2.cell? ⟨w.heap.size, x, none⟩ = some v := fun x hx => by rw [hc _ _ hsz]; exact (HCS.out x hx).1
        refine ⟨k + 1, by omega, by go_num, ?_, by simp; omega, fun j hj => ?_, fun x hx => ⟨?_, ?_⟩⟩
        · exact ((((((HB.out.trans (Hb2.out.mono HB.out.size)).setCell (Nat.le_refl _) _).setCell (Nat.le_refl _) _).setCell (Nat.le_refl _) _).setCell (Nat.le_refl _) _).setCell (Nat.le_refl _) _).setCell (Nat.le_refl _) _
        · by_cases e : j = k
          · subst e
            rw [HXX.out]
            have := set6_at w2 w.heap.size (j * 6) (.int .i64 X.1) (.int .i64 (X.2 0)) (.int .i64 (X.2 1)) (.int .i64 (X.2 2)) (.int .i64 (X.2 3)) (.int .i64 (X.2 4)) (fun i hi => his _ (by omega))
            unfold AtM
            simp only [Nat.zero_add]
            exact this
          · have h1 := (HAT.out j (by omega)).block (Hb2.out.block _ hsz)
            unfold AtM at h1 ⊢
            rw [set6_ne _ _ _ _ _ _ _ _ _ _ _ (by omega), set6_ne _ _ _ _ _ _ _ _ _ _ _ (by omega), set6_ne _ _ _ _ _ _ _ _ _ _ _ (by omega), set6_ne _ _ _ _ _ _ _ _ _ _ _ (by omega), set6_ne _ _ _ _ _ _ _ _ _ _ _ (by omega), set6_ne _ _ _ _ _ _ _ _ _ _ _ (by omega)]
            exact h1
        · exact set6_is w2 w.heap.size (k * 6) x _ _ _ _ _ _ (his x hx)
        · rw [set6_frozen, hf _ _ hsz]
          exact (HCS.out x hx).2
      case measure => simp [intOf]; omega
    · obtain rfl : k = L.length := by omega
      go_wp2_with fail
      go_ret
      exact ⟨_, rfl, ⟨by omega, Or.inr ⟨w.heap.size, rfl, Nat.le_refl _, hsz, HAT.out, fun x hx => (HCS.out x hx).2⟩⟩, HB.out, rfl, hsz⟩

end Go.Proofs.Ytpkapgidpgmdoaa
