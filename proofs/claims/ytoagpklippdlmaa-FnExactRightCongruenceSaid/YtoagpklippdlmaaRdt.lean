/- Lists of lists in memory of the program's own, whose rows may lie in one block: compared, marked, held (laws.eqInt64SS, laws.markInt64SS, laws.heldInt64SS). Lists of lists of the program's own as results. -/
import Derived.Test.YtoagpklippdlmaaRss
namespace Go.Proofs.Ytoagpklippdlmaa
open Go.ChangeShapes Go.WideShapes Go.ChangeAt Go.RowKit Go.Deep

/-- The cells of a row, which may be written. -/
def RdO (w : World) (g o : Nat) (L : List Int) : Prop := ∀ i, i < L.length → w.cell? ⟨g, o + i, none⟩ = some (.int .i64 (L.getD i 0)) ∧ w.frozen? ⟨g, o + i, none⟩ = false

/-- A list of lists in blocks from B to C. -/
structure RdT (w : World) (B C : Nat) (a : Option Addr) (LL : List (List Int)) : Prop where
  len : LL.length ≤ 2000000
  rlen : ∀ j, j < LL.length → (LL.getD j []).length ≤ 2000000
  top : C ≤ w.heap.size
  rows : LL = [] ∨ ∃ (g : Nat) (gr ro : Nat → Nat), a = some ⟨g, 0, none⟩ ∧ B ≤ g ∧ g < C ∧
    (∀ i j, i < LL.length → j < LL.length → i ≠ j → gr i = gr j → ro i + (LL.getD i []).length ≤ ro j ∨ ro j + (LL.getD j []).length ≤ ro i) ∧
    ∀ j, j < LL.length → (∃ ar c, w.cell? ⟨g, j, none⟩ = some (.slice ar (LL.getD j []).length c) ∧ (LL.getD j [] = [] ∨ (ar = some ⟨gr j, ro j, none⟩ ∧ gr j ≠ g ∧ B ≤ gr j ∧ gr j < C))) ∧ w.frozen? ⟨g, j, none⟩ = false ∧ RdO w (gr j) (ro j) (LL.getD j [])

theorem RdO.nil (w : World) (g o : Nat) : RdO w g o [] := fun i hi => by simp at hi

theorem RdS.toT {w : World} {B : Nat} {a : Option Addr} {LL : List (List Int)} (h : RdS w B a LL) : RdT w B w.heap.size a LL := by
  refine ⟨h.1, fun j hj => ?_, Nat.le_refl _, ?_⟩
  · rcases h.2 with h0 | ⟨g, gr, ha, hB, hg, hi, hc⟩
    · rw [h0] at hj; simp at hj
    · obtain ⟨ar, c, h1, h2, h3, _⟩ := hc j hj
      exact h3.1
  · rcases h.2 with h0 | ⟨g, gr, ha, hB, hg, hi, hc⟩
    · exact Or.inl h0
    · refine Or.inr ⟨g, gr, fun _ => 0, ha, hB, hg, fun i j hi' hj hne e => absurd (hi i j hi' hj e) hne, fun j hj => ?_⟩
      obtain ⟨ar, c, h1, h2, h3, h4, h5, h6⟩ := hc j hj
      rcases h3.2 with e | ⟨k, e, hBk, hk, hcs⟩
      · exact ⟨⟨ar, c, h1, Or.inl e⟩, h2, by rw [e]; exact RdO.nil _ _ _⟩
      · have hkg : k = gr j := by
          rcases h6 with h6 | h6
          · rw [h6] at e; cases e
          · rw [h6] at e; injection e with e; injection e with e; exact e.symm
        subst hkg
        exact ⟨⟨ar, c, h1, Or.inr ⟨e, h4, hBk, hk⟩⟩, h2, fun i hi => by rw [Nat.zero_add]; exact hcs i hi⟩

theorem RdO.same {w w' : World} {g o : Nat} {L : List Int} (h : RdO w g o L) (he : w'.heap[g]? = w.heap[g]?) : RdO w' g o L := fun i hi => by
  have h1 := h i hi
  unfold World.cell? World.frozen? at h1 ⊢
  rw [he]
  exact h1

theorem cell_same {w w' : World} {g o : Nat} (he : w'.heap[g]? = w.heap[g]?) : w'.cell? ⟨g, o, none⟩ = w.cell? ⟨g, o, none⟩ ∧ w'.frozen? ⟨g, o, none⟩ = w.frozen? ⟨g, o, none⟩ := by
  unfold World.cell? World.frozen?
  rw [he]
  exact ⟨rfl, rfl⟩

/-- What keeps the blocks from B to C keeps the list. -/
theorem RdT.keep {w w' : World} {B C : Nat} {a : Option Addr} {LL : List (List Int)} (h : RdT w B C a LL) (hs : w.heap.size ≤ w'.heap.size) (hb : ∀ b, B ≤ b → b < C → w'.heap[b]? = w.heap[b]?) : RdT w' B C a LL := by
  refine ⟨h.len, h.rlen, Nat.le_trans h.top hs, ?_⟩
  rcases h.rows with h0 | ⟨g, gr, ro, ha, hB, hg, hd, hc⟩
  · exact Or.inl h0
  · refine Or.inr ⟨g, gr, ro, ha, hB, hg, hd, fun j hj => ?_⟩
    obtain ⟨⟨ar, c, h1, h2⟩, h3, h4⟩ := hc j hj
    have e := cell_same (o := j) (hb g hB hg)
    refine ⟨⟨ar, c, e.1.trans h1, h2⟩, e.2.trans h3, ?_⟩
    rcases h2 with h0 | ⟨_, _, h5, h6⟩
    · rw [h0]; exact RdO.nil _ _ _
    · exact h4.same (hb _ h5 h6)

theorem RdT.below {w w' : World} {B C : Nat} {a : Option Addr} {LL : List (List Int)} (h : RdT w B C a LL) (hb : Below C w w') : RdT w' B C a LL :=
  h.keep hb.size (fun b _ hC => hb.block b hC)

theorem RdT.turn {w w' : World} {B C D E : Nat} {a : Option Addr} {LL : List (List Int)} (h : RdT w B C a LL) (ht : Turn w w' (fun b => D ≤ b ∧ b < E)) (hE : E ≤ B) : RdT w' B C a LL :=
  h.keep ht.size (fun b hB hC => ht.block b (Nat.lt_of_lt_of_le hC h.top) (fun hS => by omega))

theorem Rd.turnT {w w' : World} {B D E : Nat} {a : Option Addr} {L : List Int} (h : Rd w B a L) (ht : Turn w w' (fun b => D ≤ b ∧ b < E)) (hE : E ≤ B) : Rd w' B a L := by
  refine ⟨h.1, ?_⟩
  rcases h.2 with h0 | ⟨g, ha, hB, hg, hc⟩
  · exact Or.inl h0
  · refine Or.inr ⟨g, ha, hB, Nat.lt_of_lt_of_le hg ht.size, fun i hi => ?_⟩
    have e := cell_same (o := i) (ht.block g hg (fun hS => by omega))
    rw [e.1, e.2]
    exact hc i hi

theorem RdM.turnT {w w' : World} {B D E : Nat} {a : Option Addr} {L : List MapN} (h : RdM w B a L) (ht : Turn w w' (fun b => D ≤ b ∧ b < E)) (hE : E ≤ B) : RdM w' B a L := by
  refine ⟨h.1, ?_⟩
  rcases h.2 with h0 | ⟨g, ha, hB, hg, hc, hf⟩
  · exact Or.inl h0
  · have e := ht.block g hg (fun hS => by omega)
    refine Or.inr ⟨g, ha, hB, Nat.lt_of_lt_of_le hg ht.size, fun i hi => ?_, fun i hi => ?_⟩
    · have h1 := hc i hi
      unfold AtM at h1 ⊢
      unfold World.cell? at h1 ⊢
      rw [e]
      exact h1
    · have h1 := hf i hi
      unfold World.frozen? at h1 ⊢
      rw [e]
      exact h1

theorem RdT.but {w w' : World} {B C g : Nat} {a : Option Addr} {LL : List (List Int)} (h : RdT w B C a LL) (hb : But w w' (some ⟨g, 0, none⟩)) (hg : g < B) : RdT w' B C a LL :=
  h.keep (Nat.le_of_eq hb.size.symm) (fun b hB _ => hb.block b (by intro e; injection e with e; injection e with e; omega))

theorem RdT.inRowL {w : World} {B C : Nat} {a : Option Addr} {LL : List (List Int)} (h : RdT w B C a LL) : InRowL w a LL := by
  rcases h.rows with h0 | ⟨g, gr, ro, ha, hB, hg, hd, hc⟩
  · exact Or.inl h0
  · refine Or.inr ⟨g, 0, ha, Nat.lt_of_lt_of_le hg h.top, fun j hj => ?_⟩
    obtain ⟨⟨ar, c, h1, h2⟩, _, h4⟩ := hc j hj
    refine ⟨ar, c, by rw [Nat.zero_add]; exact h1, ?_⟩
    rcases h2 with h0 | ⟨h2, _, _, h6⟩
    · exact Or.inl h0
    · exact Or.inr ⟨gr j, ro j, h2, Nat.lt_of_lt_of_le h6 h.top, fun i hi => (h4 i hi).1⟩

set_option maxHeartbeats 1000000 in
theorem eqR_any (L : List Int) (hn : L.length ≤ 2000000) (a1 a2 : Option Addr) (c1 c2 : Nat) (w : World) (h1 : InRow w a1 L) (h2 : InRow w a2 L) :
    Calls Try.prog 19 #[.slice a1 L.length c1, .slice a2 L.length c2] w fun e w' => e = .returned (.bool true) ∧ Below w.heap.size w w' := by
  by_cases hL : L = []
  · subst hL
    clear h1 h2
    simp only [List.length_nil]
    go_enter Try.func19, Try.ntmps19
    go_wp2_with fail
    refine wp_loop_rounds 1 ?_
    rw [rounds_succ]
    go_wp2_with fail
    go_ret
    exact ⟨rfl, Below.refl _ _⟩
  · obtain ⟨g1, o1, rfl, _, hc1⟩ := h1.resolve_left hL
    obtain ⟨g2, o2, rfl, _, hc2⟩ := h2.resolve_left hL
    have HC1 := Lib.hid hc1
    have HC2 := Lib.hid hc2
    clear h1 h2 hc1 hc2 hL
    go_enter Try.func19, Try.ntmps19
    go_wp2_with fail
    go_loopw [5] (fun i wr => ∃ k m : Nat, k ≤ L.length ∧ i = .int .i64 k ∧ wr = w.drewN m) (fun i _ => L.length - (intOf i).toNat)
    case atStart => exact ⟨0, 0, by omega, rfl, rfl⟩
    case round =>
      obtain ⟨k, m, hk, rfl, rfl⟩ := hrel
      by_cases hkl : k < L.length
      · have hkl' : (k : Int) < (L.length : Int) := by omega
        have e1 := HC1.out k hkl
        have e2 := HC2.out k hkl
        generalize L.getD k 0 = X at *
        go_wp2_with fail
        go_quiet (fail)
        go_wp2_with fail
        go_roundw
        case rel => exact ⟨k + 1, m + nq, by omega, by go_num, by simp⟩
        case measure => simp [intOf]; omega
      · go_wp2_with fail
        go_ret
        exact ⟨rfl, below_drewN (Below.refl _ _) _⟩

set_option maxRecDepth 100000 in
set_option maxHeartbeats 1000000 in
theorem eqT_any (LL : List (List Int)) (a1 a2 : Option Addr) (c1 c2 : Nat) (w : World) (hn : LL.length ≤ 2000000) (hl : ∀ j, j < LL.length → (LL.getD j []).length ≤ 2000000) (h1 : InRowL w a1 LL) (h2 : InRowL w a2 LL) :
    Calls Try.prog 21 #[.slice a1 LL.length c1, .slice a2 LL.length c2] w fun e w' => e = .returned (.bool true) ∧ Below w.heap.size w w' := by
  have H1 := Lib.hid h1
  have H2 := Lib.hid h2
  have HL := Lib.hid hl
  clear h1 h2 hl
  go_enter Try.func21, Try.ntmps21
  go_wp2_with fail
  go_loopw [5] (fun i wr => ∃ k : Nat, k ≤ LL.length ∧ i = .int .i64 k ∧ Below w.heap.size w wr) (fun i _ => LL.length - (intOf i).toNat)
  case atStart => exact ⟨0, by omega, rfl, Below.refl _ _⟩
  case round =>
    obtain ⟨k, hk, rfl, hb⟩ := hrel
    have HB := Lib.hid hb
    have hbs := hb.size
    by_cases hkl : k < LL.length
    · have hkl' : (k : Int) < (LL.length : Int) := by omega
      obtain ⟨g1, o1, rfl, hg1, hc1⟩ := (H1.out.below hb).resolve_left (fun e => by rw [e] at hkl; simp at hkl)
      obtain ⟨g2, o2, rfl, hg2, hc2⟩ := (H2.out.below hb).resolve_left (fun e => by rw [e] at hkl; simp at hkl)
      obtain ⟨r1, d1, e1, R1⟩ := hc1 k hkl
      obtain ⟨r2, d2, e2, R2⟩ := hc2 k hkl
      have HEQ := Lib.hid (eqR_any (LL.getD k []) (HL.out k hkl) r1 r2 d1 d2 wr.drew R1 R2)
      clear hb hc1 hc2 R1 R2
      generalize LL.getD k [] = X at *
      go_wp2_with fail
      go_still_tail 8, (by kernel_rfl)
      go_wp2_with fail
      refine HEQ.out.mono ?_
      rintro e w5 ⟨rfl, hb5⟩
      have HB5 : Hid (Below w.heap.size w w5) := Lib.hid (HB.out.drew.trans (hb5.mono hbs))
      clear hb5
      go_wp2_with fail
      go_roundw
      case rel => exact ⟨k + 1, by omega, by go_num, HB5.out⟩
      case measure => simp [intOf]; omega
    · obtain rfl : k = LL.length := by omega
      clear hb
      go_wp2_with fail
      go_ret
      exact ⟨rfl, HB.out⟩

/-- Of the world nothing has turned but n cells of block g from o on. -/
structure ButO (w w' : World) (g o n : Nat) : Prop where
  os : w'.os = w.os
  tape : w'.tape = w.tape
  output : w'.output = w.output
  size : w'.heap.size = w.heap.size
  block : ∀ b, (b ≠ g ∨ n = 0) → w'.heap[b]? = w.heap[b]?
  cell : ∀ b q, (b ≠ g ∨ q < o ∨ o + n ≤ q) → w'.cell? ⟨b, q, none⟩ = w.cell? ⟨b, q, none⟩
  frozen : ∀ b q, w'.frozen? ⟨b, q, none⟩ = w.frozen? ⟨b, q, none⟩

theorem ButO.refl (w : World) (g o n : Nat) : ButO w w g o n := ⟨rfl, rfl, rfl, rfl, fun _ _ => rfl, fun _ _ _ => rfl, fun _ _ => rfl⟩

set_option maxHeartbeats 1000000 in
theorem markO_any (L : List Int) (hn : L.length ≤ 2000000) (a : Option Addr) (c B g o : Nat) (k0 : Int) (hk0 : 0 ≤ k0) (hk1 : k0 ≤ 20000000) (w : World) (ha : L = [] ∨ (a = some ⟨g, o, none⟩ ∧ B ≤ g ∧ g < w.heap.size)) (h : RdO w g o L) :
    Calls Try.prog 24 #[.slice a L.length c, .int .i64 k0] w fun e w' => e = .returned (.int .i64 (k0 + L.length)) ∧ RdO w' g o (mk L.length k0) ∧ ButO w w' g o L.length ∧ Below B w w' := by
  by_cases hL : L = []
  · subst hL
    clear h ha
    simp only [List.length_nil]
    go_enter Try.func24, Try.ntmps24
    go_wp2_with fail
    refine wp_loop_rounds 1 ?_
    rw [rounds_succ]
    go_wp2_with fail
    go_ret
    exact ⟨by simp, fun i hi => by simp [mk] at hi, ButO.refl _ _ _ _, Below.refl _ _⟩
  · obtain ⟨rfl, hB, hg⟩ := ha.resolve_left hL
    have HC := Lib.hid h
    clear h ha hL
    go_enter Try.func24, Try.ntmps24
    go_wp2_with fail
    go_loopw [1, 5] (fun q i wr => ∃ k : Nat, k ≤ L.length ∧ i = .int .i64 k ∧ q = .int .i64 (k0 + k) ∧ ButO w wr g o L.length ∧ Below B w wr ∧
        (∀ j, j < L.length → wr.cell? ⟨g, o + j, none⟩ = some (.int .i64 (if j < k then k0 + j else L.getD j 0)) ∧ wr.frozen? ⟨g, o + j, none⟩ = false)) (fun _ i _ => L.length - (intOf i).toNat)
    case atStart => exact ⟨0, by omega, rfl, by simp, ButO.refl _ _ _ _, Below.refl _ _, fun j hj => by simpa using HC.out j hj⟩
    case round =>
      obtain ⟨k, hk, rfl, rfl, hbut, hbel, hcs⟩ := hrel
      have HB := Lib.hid hbut
      have HL := Lib.hid hbel
      have HCS := Lib.hid hcs
      clear hbut hbel hcs
      by_cases hkl : k < L.length
      · have hkl' : (k : Int) < (L.length : Int) := by omega
        have e1 := (HCS.out k hkl).1
        have e2 := (HCS.out k hkl).2
        rw [if_neg (by omega)] at e1
        generalize hX : L.getD k 0 = X at *
        clear hX
        go_wp2_with fail
        go_roundw
        case rel =>
          refine ⟨k + 1, by omega, by go_num, by go_num, ?_, HL.out.setCell hB _, fun j hj => ?_⟩
          · refine ⟨HB.out.os, HB.out.tape, HB.out.output, by rw [← HB.out.size]; simp [World.setCell], fun b hb => ?_, fun b q hq => ?_, fun b q => ?_⟩
            · rw [hset_ne _ _ _ _ (fun e => by rcases hb with hb | hb; exact hb e; omega)]; exact HB.out.block b hb
            · rw [World.cell?_setCell_other _ _ _ _ (by intro e; injection e with e1 e2; omega)]; exact HB.out.cell b q hq
            · rw [World.frozen?_setCell]; exact HB.out.frozen b q
          · have hj' := HCS.out j hj
            by_cases hjk : j = k
            · subst hjk
              rw [if_pos (by omega)]
              exact ⟨World.cell?_setCell_same _ _ _ e1, by rw [World.frozen?_setCell]; exact hj'.2⟩
            · rw [World.cell?_setCell_other _ _ _ _ (by intro e; injection e with _ e; omega), World.frozen?_setCell]
              refine ⟨?_, hj'.2⟩
              rw [hj'.1]
              by_cases c : j < k
              · rw [if_pos c, if_pos (by omega)]
              · rw [if_neg c, if_neg (by omega)]
        case measure => simp [intOf]; omega
      · obtain rfl : k = L.length := by omega
        go_wp2_with fail
        go_ret
        refine ⟨rfl, fun i hi => ?_, HB.out, HL.out⟩
        rw [mk_len] at hi
        rw [mk_getD _ _ _ hi]
        have := HCS.out i hi
        rw [if_pos hi] at this
        exact this

set_option maxHeartbeats 1000000 in
theorem heldO_any (n : Nat) (hn : n ≤ 2000000) (a : Option Addr) (c g o : Nat) (k0 : Int) (hk0 : 0 ≤ k0) (hk1 : k0 ≤ 20000000) (w : World) (ha : n = 0 ∨ a = some ⟨g, o, none⟩) (h : RdO w g o (mk n k0)) :
    Calls Try.prog 25 #[.slice a n c, .int .i64 k0] w fun e w' => e = .returned (.int .i64 (k0 + n)) ∧ Below w.heap.size w w' := by
  by_cases hL : n = 0
  · subst hL
    clear h ha
    go_enter Try.func25, Try.ntmps25
    go_wp2_with fail
    refine wp_loop_rounds 1 ?_
    rw [rounds_succ]
    go_wp2_with fail
    go_ret
    exact ⟨by simp, Below.refl _ _⟩
  · obtain rfl := ha.resolve_left hL
    have HC := Lib.hid h
    clear h ha
    go_enter Try.func25, Try.ntmps25
    go_wp2_with fail
    go_loopw [1, 5] (fun q i wr => ∃ k : Nat, k ≤ n ∧ i = .int .i64 k ∧ q = .int .i64 (k0 + k) ∧ wr = w) (fun _ i _ => n - (intOf i).toNat)
    case atStart => exact ⟨0, by omega, rfl, by simp, rfl⟩
    case round =>
      obtain ⟨k, hk, rfl, rfl, rfl⟩ := hrel
      by_cases hkl : k < n
      · have hkl' : (k : Int) < (n : Int) := by omega
        have e1 := (HC.out k (by rw [mk_len]; exact hkl)).1
        rw [mk_getD _ _ _ hkl] at e1
        go_wp2_with fail
        go_roundw
        case rel => exact ⟨k + 1, by omega, by go_num, by go_num, trivial⟩
        case measure => simp [intOf]; omega
      · obtain rfl : k = n := by omega
        go_wp2_with fail
        go_ret
        exact ⟨rfl, Below.refl _ _⟩

theorem mkF_app : ∀ (A B : List (List Int)) (k : Int), mkF (A ++ B) k = mkF B (mkF A k)
  | [], _, _ => rfl
  | X :: r, B, k => mkF_app r B (k + (X.length : Int))

theorem mkF_take {LL : List (List Int)} {j : Nat} (h : j < LL.length) (k : Int) : mkF (LL.take (j + 1)) k = mkF (LL.take j) k + ((LL.getD j []).length : Int) := by
  rw [List.take_add_one, mkF_app]
  simp [h, mkF]

theorem mkF_take_le (LL : List (List Int)) (j : Nat) (k : Int) : mkF (LL.take j) k ≤ mkF LL k := by
  have e : mkF LL k = mkF (LL.drop j) (mkF (LL.take j) k) := by rw [← mkF_app, List.take_append_drop]
  rw [e]
  exact mkF_ge _ _

/-- The marks of a list of lists. -/
def mkLL (LL : List (List Int)) (k0 : Int) : List (List Int) := (List.range LL.length).map fun j => mk (LL.getD j []).length (mkF (LL.take j) k0)

theorem mkLL_len (LL : List (List Int)) (k0 : Int) : (mkLL LL k0).length = LL.length := by simp [mkLL]

theorem mkLL_at (LL : List (List Int)) (k0 : Int) (j : Nat) (h : j < LL.length) : (mkLL LL k0).getD j [] = mk (LL.getD j []).length (mkF (LL.take j) k0) := by simp [mkLL, h]

set_option maxRecDepth 100000 in
set_option maxHeartbeats 2000000 in
theorem markT_any (LL : List (List Int)) (a : Option Addr) (c B C : Nat) (k0 : Int) (hk0 : 0 ≤ k0) (hk1 : mkF LL k0 ≤ 20000000) (w : World) (h : RdT w B C a LL) :
    Calls Try.prog 23 #[.slice a LL.length c, .int .i64 k0] w fun e w' => e = .returned (.int .i64 (mkF LL k0)) ∧ RdT w' B C a (mkLL LL k0) ∧ Turn w w' (fun b => B ≤ b ∧ b < C) ∧ Below B w w' := by
  by_cases hL : LL = []
  · subst hL
    have htop := h.top
    clear h
    simp only [List.length_nil]
    go_enter Try.func23, Try.ntmps23
    go_wp2_with fail
    refine wp_loop_rounds 1 ?_
    rw [rounds_succ]
    go_wp2_with fail
    go_ret
    exact ⟨rfl, ⟨by simp [mkLL], fun j hj => by simp [mkLL] at hj, htop, Or.inl (by simp [mkLL])⟩, Turn.of_below (Below.refl _ _), Below.refl _ _⟩
  · obtain ⟨g, gr, ro, rfl, hgB, hgC, hdis, hrows⟩ := h.rows.resolve_left hL
    have HT := Lib.hid h
    have htop := h.top
    have hn := h.len
    have HLN := Lib.hid h.rlen
    have HD := Lib.hid hdis
    have HW := Lib.hid hrows
    have HK := Lib.hid fun j => mkF_take_le LL j k0
    have HK1 := Lib.hid hk1
    clear h hdis hrows hL hk1
    go_enter Try.func23, Try.ntmps23
    go_wp2_with fail
    go_loopw [1, 5] (fun s i wr => ∃ (k : Nat), k ≤ LL.length ∧ i = .int .i64 k ∧ s = .int .i64 (mkF (LL.take k) k0) ∧ Turn w wr (fun b => B ≤ b ∧ b < C) ∧ wr.heap.size = w.heap.size ∧ Below B w wr ∧
        ∀ j, j < LL.length → wr.cell? ⟨g, j, none⟩ = w.cell? ⟨g, j, none⟩ ∧ wr.frozen? ⟨g, j, none⟩ = false ∧ RdO wr (gr j) (ro j) (if j < k then mk (LL.getD j []).length (mkF (LL.take j) k0) else LL.getD j [])) (fun _ i _ => LL.length - (intOf i).toNat)
    case atStart => exact ⟨0, by omega, rfl, rfl, Turn.of_below (Below.refl _ _), rfl, Below.refl _ _, fun j hj => ⟨rfl, (HW.out j hj).2.1, by rw [if_neg (by omega)]; exact (HW.out j hj).2.2⟩⟩
    case round =>
      obtain ⟨k, hk, rfl, rfl, ht, hsz, hb, hcs⟩ := hrel
      have HTR := Lib.hid ht
      have HB := Lib.hid hb
      have HCS := Lib.hid hcs
      have hz0 : 0 ≤ mkF (LL.take k) k0 := Int.le_trans hk0 (mkF_ge _ _)
      have hz1 : mkF (LL.take k) k0 ≤ 20000000 := Int.le_trans (HK.out k) HK1.out
      have HSZ := Lib.hid hsz
      clear ht hb hcs hsz
      by_cases hkl : k < LL.length
      · have hkl' : (k : Int) < (LL.length : Int) := by omega
        obtain ⟨⟨ar, cr, e1, har⟩, _, _⟩ := HW.out k hkl
        have hck := HCS.out k hkl
        rw [if_neg (by omega)] at hck
        have e1 := hck.1.trans e1
        have HAR := Lib.hid har
        have hln := HLN.out k hkl
        have HMK := Lib.hid (markO_any (LL.getD k []) hln ar cr B (gr k) (ro k) (mkF (LL.take k) k0) hz0 hz1 wr (by
          rcases har with h0 | ⟨h1, _, h2, h3⟩
          · exact Or.inl h0
          · exact Or.inr ⟨h1, h2, by rw [HSZ.out]; omega⟩) hck.2.2)
        have HNX := Lib.hid (mkF_take hkl k0)
        clear har hck
        obtain ⟨Z, hZ⟩ : ∃ Z, Z = mkF (LL.take k) k0 := ⟨_, rfl⟩
        obtain ⟨X, hX⟩ : ∃ X, X = LL.getD k [] := ⟨_, rfl⟩
        rw [← hZ] at HMK HNX hz0 hz1 ⊢
        rw [← hX] at HMK HNX HAR e1 hln
        have HZ := Lib.hid hZ
        have HX := Lib.hid hX
        clear hZ hX
        go_wp2_with fail
        refine HMK.out.mono ?_
        rintro e w5 ⟨rfl, hr5, hbu, hb5⟩
        have HR5 := Lib.hid hr5
        have HBU := Lib.hid hbu
        have HB5 : Hid (Below B w w5) := Lib.hid (HB.out.trans hb5)
        clear hr5 hbu hb5
        go_wp2_with fail
        go_roundw
        case rel =>
          refine ⟨k + 1, by omega, by go_num, by rw [HNX.out], ⟨HBU.out.os.trans HTR.out.os, HBU.out.tape.trans HTR.out.tape, HBU.out.output.trans HTR.out.output, by rw [HBU.out.size, HSZ.out]; exact Nat.le_refl _, fun b hbs hS => ?_⟩, by rw [HBU.out.size, HSZ.out], HB5.out, fun j hj => ?_⟩
          · rw [← HTR.out.block b hbs hS]
            refine HBU.out.block b ?_
            rcases HAR.out with h0 | ⟨_, _, h2, h3⟩
            · exact Or.inr (by rw [h0]; rfl)
            · exact Or.inl (fun e => hS (by rw [e]; exact ⟨h2, h3⟩))
          · have hj' := HCS.out j hj
            have hcell : ∀ b q, (b ≠ gr k ∨ q < ro k ∨ ro k + X.length ≤ q) → w5.cell? ⟨b, q, none⟩ = wr.cell? ⟨b, q, none⟩ := HBU.out.cell
            refine ⟨?_, by rw [HBU.out.frozen]; exact hj'.2.1, ?_⟩
            · rw [← hj'.1]
              refine hcell _ _ ?_
              rcases HAR.out with h0 | ⟨_, h1, _, _⟩
              · have : X.length = 0 := by rw [h0]; rfl
                omega
              · exact Or.inl (fun e => h1 e.symm)
            · by_cases hjk : j = k
              · subst hjk
                rw [if_pos (by omega), ← HX.out, ← HZ.out]
                exact HR5.out
              · have hlj : (if j < k + 1 then mk (LL.getD j []).length (mkF (LL.take j) k0) else LL.getD j []) = (if j < k then mk (LL.getD j []).length (mkF (LL.take j) k0) else LL.getD j []) := by
                  by_cases c : j < k
                  · rw [if_pos c, if_pos (by omega)]
                  · rw [if_neg c, if_neg (by omega)]
                rw [hlj]
                intro i hi
                have hil : i < (LL.getD j []).length := by
                  by_cases c : j < k
                  · rw [if_pos c, mk_len] at hi; exact hi
                  · rw [if_neg c] at hi; exact hi
                have h9 := hj'.2.2 i hi
                rw [HBU.out.frozen, hcell _ _ (by
                  by_cases hg : gr j = gr k
                  · have hd := HD.out j k hj hkl hjk hg
                    rw [← HX.out] at hd
                    omega
                  · exact Or.inl hg)]
                exact h9
        case measure => simp [intOf]; omega
      · obtain rfl : k = LL.length := by omega
        rw [List.take_length] at *
        go_wp2_with fail
        go_ret
        refine ⟨rfl, ⟨by rw [mkLL_len]; exact hn, fun j hj => ?_, by rw [HSZ.out]; exact htop, Or.inr ⟨g, gr, ro, rfl, hgB, hgC, fun i j hi hj hne e => ?_, fun j hj => ?_⟩⟩, HTR.out, HB.out⟩
        · rw [mkLL_len] at hj
          rw [mkLL_at _ _ _ hj, mk_len]
          exact HLN.out j hj
        · rw [mkLL_len] at hi hj
          rw [mkLL_at _ _ _ hi, mkLL_at _ _ _ hj, mk_len, mk_len]
          exact HD.out i j hi hj hne e
        · rw [mkLL_len] at hj
          obtain ⟨⟨ar, cr, e1, har⟩, _, _⟩ := HW.out j hj
          have hj' := HCS.out j hj
          rw [if_pos hj] at hj'
          rw [mkLL_at _ _ _ hj, mk_len]
          refine ⟨⟨ar, cr, hj'.1.trans e1, ?_⟩, hj'.2.1, hj'.2.2⟩
          rcases har with h0 | h1
          · exact Or.inl (by rw [h0]; simp [mk])
          · exact Or.inr h1

set_option maxRecDepth 100000 in
set_option maxHeartbeats 2000000 in
theorem heldT_any (LL : List (List Int)) (hl : ∀ j, j < LL.length → (LL.getD j []).length ≤ 2000000) (a : Option Addr) (c B C : Nat) (k0 : Int) (hk0 : 0 ≤ k0) (hk1 : mkF LL k0 ≤ 20000000) (w : World) (h : RdT w B C a (mkLL LL k0)) :
    Calls Try.prog 39 #[.slice a LL.length c, .int .i64 k0] w fun e w' => e = .returned (.int .i64 (mkF LL k0)) ∧ Below w.heap.size w w' := by
  by_cases hL : LL = []
  · subst hL
    clear h hl
    simp only [List.length_nil]
    go_enter Try.func39, Try.ntmps39
    go_wp2_with fail
    refine wp_loop_rounds 1 ?_
    rw [rounds_succ]
    go_wp2_with fail
    go_ret
    exact ⟨rfl, Below.refl _ _⟩
  · have hLL : mkLL LL k0 ≠ [] := fun e => hL (by have := mkLL_len LL k0; rw [e] at this; exact List.length_eq_zero_iff.1 this.symm)
    obtain ⟨g, gr, ro, rfl, hgB, hgC, _, hrows⟩ := h.rows.resolve_left hLL
    have hn := h.len
    rw [mkLL_len] at hn
    rw [mkLL_len] at hrows
    have hg : g < w.heap.size := Nat.lt_of_lt_of_le hgC h.top
    have HC : ∀ j, j < LL.length → (mkLL LL k0).getD j [] = [] ∨ gr j < w.heap.size := fun j hj => by
      obtain ⟨⟨ar, cr, _, har⟩, _⟩ := hrows j hj
      rcases har with h0 | ⟨_, _, _, h4⟩
      · exact Or.inl h0
      · exact Or.inr (Nat.lt_of_lt_of_le h4 h.top)
    have HC := Lib.hid HC
    have HW := Lib.hid hrows
    have HLN := Lib.hid hl
    have HK := Lib.hid fun j => mkF_take_le LL j k0
    have HK1 := Lib.hid hk1
    clear h hrows hL hk1 hl hLL
    go_enter Try.func39, Try.ntmps39
    go_wp2_with fail
    go_loopw [1, 5] (fun s i wr => ∃ (k : Nat), k ≤ LL.length ∧ i = .int .i64 k ∧ s = .int .i64 (mkF (LL.take k) k0) ∧ Below w.heap.size w wr) (fun _ i _ => LL.length - (intOf i).toNat)
    case atStart => exact ⟨0, by omega, rfl, rfl, Below.refl _ _⟩
    case round =>
      obtain ⟨k, hk, rfl, rfl, hb⟩ := hrel
      have HB := Lib.hid hb
      have hbs := hb.size
      have hz0 : 0 ≤ mkF (LL.take k) k0 := Int.le_trans hk0 (mkF_ge _ _)
      have hz1 : mkF (LL.take k) k0 ≤ 20000000 := Int.le_trans (HK.out k) HK1.out
      by_cases hkl : k < LL.length
      · have hkl' : (k : Int) < (LL.length : Int) := by omega
        obtain ⟨⟨ar, cr, e1, har⟩, _, hro⟩ := HW.out k hkl
        rw [mkLL_at _ _ _ hkl] at e1 har hro
        have hcc := HC.out k hkl
        rw [mkLL_at _ _ _ hkl] at hcc
        rw [mk_len] at e1
        have e1 := (hb.cell (p := ⟨g, k, none⟩) hg).trans e1
        have hln := HLN.out k hkl
        have HNX := Lib.hid (mkF_take hkl k0)
        have hnx1 : mkF (LL.take (k + 1)) k0 ≤ 20000000 := Int.le_trans (HK.out _) HK1.out
        rw [HNX.out] at hnx1
        obtain ⟨Z, hZ⟩ : ∃ Z, Z = mkF (LL.take k) k0 := ⟨_, rfl⟩
        obtain ⟨n, hX⟩ : ∃ n, n = (LL.getD k []).length := ⟨_, rfl⟩
        rw [← hZ] at HNX hz0 hz1 hro hcc hnx1 har ⊢
        rw [← hX] at HNX har e1 hln hro hcc hnx1
        have HHD := Lib.hid (heldO_any n hln ar cr (gr k) (ro k) Z hz0 hz1 wr (by
          rcases har with h0 | ⟨h1, _⟩
          · exact Or.inl (by have := mk_len n Z; rw [h0] at this; exact this.symm)
          · exact Or.inr h1) (by
          rcases hcc with h0 | h1
          · rw [h0]; exact RdO.nil _ _ _
          · exact hro.same (hb.block _ h1)))
        have hnlt : ¬ (Z + (n : Int) < 0) := by omega
        clear har hro hcc hb hZ hX
        go_wp2_with fail
        refine HHD.out.mono ?_
        rintro e w5 ⟨rfl, hb5⟩
        have HB5 : Hid (Below w.heap.size w w5) := Lib.hid (HB.out.trans (hb5.mono hbs))
        clear hb5
        go_wp2_with fail
        go_roundw
        case rel => exact ⟨k + 1, by omega, by go_num, by rw [HNX.out], HB5.out⟩
        case measure => simp [intOf]; omega
      · obtain rfl : k = LL.length := by omega
        clear hb
        rw [List.take_length] at *
        go_wp2_with fail
        go_ret
        exact ⟨rfl, HB.out⟩

theorem RdT.turnT {w w' : World} {B C D E : Nat} {a : Option Addr} {LL : List (List Int)} (h : RdT w B C a LL) (ht : Turn w w' (fun b => D ≤ b ∧ b < E)) (hE : E ≤ B) : RdT w' B C a LL := h.turn ht hE

/-- The call returns a list of lists of its own and a code. -/
def RetT (B : Nat) (LL : List (List Int)) (c : Int) (w : World) (e : Ending) (w' : World) : Prop :=
  ∃ a cap, e = .returned (.tuple #[.slice a LL.length cap, .int .i64 c]) ∧ RdT w' B w'.heap.size a LL ∧ mkF LL 1 ≤ 20000000 ∧ Below w.heap.size w w'

theorem szF_two : ∀ (LL : List (List Int)) (l : Int), 0 ≤ l → szF LL l = -1 ∨ 0 ≤ szF LL l
  | [], l, h => Or.inr h
  | X :: r, l, h => by
    unfold szF
    split
    · exact Or.inl rfl
    · exact szF_two r _ (by omega)

theorem szF_le0 : ∀ (LL : List (List Int)) (l : Int), szF LL l ≤ l ∨ szF LL l = -1
  | [], l => Or.inl (Int.le_refl _)
  | X :: r, l => by
    unfold szF
    split
    · exact Or.inr rfl
    · rcases szF_le0 r (l - (X.length : Int)) with h | h
      · exact Or.inl (by omega)
      · exact Or.inr h

theorem szF_mk : ∀ (LL : List (List Int)) (l k : Int), 0 ≤ szF LL l → mkF LL k = k + l - szF LL l
  | [], l, k, _ => by show k = k + l - l; omega
  | X :: r, l, k, h => by
    unfold szF at h ⊢
    split at h
    · omega
    · rename_i hc
      rw [if_neg hc]
      have := szF_mk r (l - (X.length : Int)) (k + (X.length : Int)) h
      show mkF r (k + (X.length : Int)) = _
      omega

theorem szV_neg {LL : List (List Int)} {l : Int} (_ : 0 ≤ l) (h : ¬ 0 ≤ szV LL l) : szV LL l = -1 := by
  unfold szV at h ⊢
  split
  · rfl
  · rename_i hc
    rw [if_neg hc] at h
    rcases szF_two LL (l - (LL.length : Int)) (by omega) with h1 | h1
    · exact h1
    · exact absurd h1 h

theorem szV_len {LL : List (List Int)} {l : Int} (_ : 0 ≤ l) (h1 : l ≤ 1048576) (h : 0 ≤ szV LL l) : LL.length ≤ 1048576 := by
  unfold szV at h
  split at h
  · omega
  · omega

theorem szV_row {LL : List (List Int)} {l : Int} (_ : 0 ≤ l) (h1 : l ≤ 1048576) (h : 0 ≤ szV LL l) (j : Nat) (hj : j < LL.length) : (LL.getD j []).length ≤ 1048576 := by
  unfold szV at h
  split at h
  · omega
  · have := szF_le LL _ h (LL.getD j []) (by simp [hj])
    omega

theorem szV_le (LL : List (List Int)) (l : Int) : szV LL l ≤ l ∨ szV LL l = -1 := by
  unfold szV
  split
  · exact Or.inr rfl
  · rcases szF_le0 LL (l - (LL.length : Int)) with h | h
    · exact Or.inl (by omega)
    · exact Or.inr h

theorem szV_mk {LL : List (List Int)} {l : Int} (_ : 0 ≤ l) (h1 : l ≤ 1048576) (h : 0 ≤ szV LL l) (k : Int) : mkF LL k ≤ k + 1048576 := by
  unfold szV at h
  split at h
  · omega
  · have := szF_mk LL _ k h
    omega

end Go.Proofs.Ytoagpklippdlmaa

namespace Go.Proofs.Ytoagpklippdlmaa
open Go Go.RowKit

theorem RdT.low {w : World} {B B2 C : Nat} {a : Option Addr} {LL : List (List Int)} (h : RdT w B2 C a LL) (hB : B ≤ B2) : RdT w B C a LL := by
  refine ⟨h.len, h.rlen, h.top, ?_⟩
  rcases h.rows with h0 | ⟨g, gr, ro, h1, h2, h3, h4, h5⟩
  · exact Or.inl h0
  · refine Or.inr ⟨g, gr, ro, h1, by omega, h3, h4, fun j hj => ?_⟩
    obtain ⟨⟨ar, c, q1, q2⟩, q3, q4⟩ := h5 j hj
    refine ⟨⟨ar, c, q1, ?_⟩, q3, q4⟩
    rcases q2 with q2 | ⟨q2, q5, q6, q7⟩
    · exact Or.inl q2
    · exact Or.inr ⟨q2, q5, by omega, q7⟩

theorem retT_of {w w' : World} {B B2 n : Nat} {a : Option Addr} {cap : Nat} {LL : List (List Int)} {C : Int} (hl : LL.length = n) (hr : RdT w' B2 w'.heap.size a LL) (hB : B ≤ B2) (hm : mkF LL 1 ≤ 20000000) (hb : Below w.heap.size w w') : RetT B LL C w (.returned (.tuple #[.slice a n cap, .int .i64 C])) w' := by
  subst hl
  exact ⟨a, cap, rfl, hr.low hB, hm, hb⟩

theorem retT_nil {w w' : World} {B : Nat} (hb : Below w.heap.size w w') (C : Int) : RetT B [] C w (.returned (.tuple #[.slice none 0 0, .int .i64 C])) w' :=
  ⟨none, 0, rfl, ⟨by simp, fun j hj => by simp at hj, Nat.le_refl _, Or.inl rfl⟩, by simp [mkF], hb⟩

theorem mkF_le (m : Nat) : ∀ (LL : List (List Int)) (k : Int), (∀ X ∈ LL, X.length ≤ m) → mkF LL k ≤ k + (m : Int) * (LL.length : Int)
  | [], k, _ => by simp [mkF]
  | X :: r, k, h => by
    have h1 := mkF_le m r (k + (X.length : Int)) (fun Y hY => h Y (List.mem_cons_of_mem _ hY))
    have h2 := h X (List.mem_cons_self)
    show mkF r (k + (X.length : Int)) ≤ _
    rw [List.length_cons, show ((r.length + 1 : Nat) : Int) = (r.length : Int) + 1 by omega, Int.mul_add, Int.mul_one]
    omega
theorem getD_memR {LL : List (List Int)} {X : List Int} (h : X ∈ LL) : ∃ j, j < LL.length ∧ LL.getD j [] = X := by
  obtain ⟨j, hj, e⟩ := List.getElem_of_mem h
  exact ⟨j, hj, by rw [List.getD_eq_getElem?_getD, List.getElem?_eq_getElem hj]; exact e⟩

end Go.Proofs.Ytoagpklippdlmaa
