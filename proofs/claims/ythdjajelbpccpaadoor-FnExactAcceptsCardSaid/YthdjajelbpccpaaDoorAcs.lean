/- Acceptors among a law's arguments: opened, measured, copied, compared, marked, their marks found (laws.szAcceptor, laws.toAcceptor, laws.eqAcceptor, laws.markAcceptor, laws.heldAcceptor). -/
import Derived.Test.YthdjajelbpccpaaDoorRowM
import Derived.Test.YthdjajelbpccpaaDoorRss
import Derived.Test.YthdjajelbpccpaaDoorMark
import Derived.Deep.Strs
namespace Go.Proofs.YthdjajelbpccpaaDoor
open Go.ChangeShapes Go.WideShapes Go.ChangeAt Go.RowKit Go.Deep

theorem cellsMS : Tryd.prog.cellsOf 22 = 1 := by kernel_rfl

theorem cellsAc : Tryd.prog.cellsOf 42 = 3 := by kernel_rfl

set_option maxRecDepth 100000 in
theorem open_oneM {H : Type} {enc : TypeId × Value → H} {W : World} {spare : Nat → Bool} {held : Bool} {v : Value} {fuel : Nat} {x : DataW H × List MemPlace}
    (hf : DataW.trod enc Tryd.prog W 0 spare held fuel 22 [v] = some x) : ∃ a c, ∃ L : List MapN, v = .slice a L.length c ∧ InRowM W a L ∧ (a = none → c = 0) ∧ L.length ≤ maxLen := by
  have hv : ∃ a l c, v = .slice a l c := by
    rcases open_slice Tryd.underlying22 hf with ⟨hcs, _⟩ | ⟨x, l, c, m, n, D, Pl, hcs, _⟩
    · injection hcs with hcs _; exact ⟨none, 0, 0, hcs⟩
    · injection hcs with hcs _; exact ⟨some x, l, c, hcs⟩
  obtain ⟨a, l, c, rfl⟩ := hv
  obtain ⟨d, ps⟩ := x
  obtain ⟨L, rfl, h1, h2, h3⟩ := open_rowM (d := d) (ps := ps) ⟨fuel, hf⟩
  exact ⟨a, c, L, rfl, h1, h2, h3⟩

/-- An acceptor that came in. -/
def InAcc (w : World) (a b : Option Addr) (c : Nat) (L : List MapN) (S : List Int) : Prop :=
  InRowM w a L ∧ InRow w b S ∧ (a = none → c = 0) ∧ L.length ≤ maxLen ∧ S.length ≤ maxLen

set_option maxRecDepth 100000 in
theorem open_acc {H : Type} {enc : TypeId × Value → H} {W : World} {base : Nat} {spare : Nat → Bool} {held : Bool} {v : Value} {d : DataW H} {ps : List MemPlace}
    (hv : Value.okWide Tryd.prog W .any base 42 v) (h : DataW.Trod enc Tryd.prog W 0 spare held 42 v d ps) :
    ∃ (a : Option Addr) (L : List MapN) (c : Nat) (F : Int) (b : Option Addr) (S : List Int) (e : Nat), v = .agg #[.slice a L.length c, .int .i64 F, .slice b S.length e] ∧ InAcc W a b c L S ∧ (Lit.int .i64 F).wf = true ∧ ∀ x ∈ S, (Lit.int .i64 x).wf = true := by
  obtain ⟨cs, rfl, hsz⟩ := okWide_struct Tryd.underlying42 hv
  rw [cellsAc] at hsz
  obtain ⟨l⟩ := cs
  match l, hsz with
  | [c0, c1, c2], _ =>
    obtain ⟨fuel, hf⟩ := h
    obtain ⟨y0, y1, y2, n, _, _, h0, h1, h2⟩ := trod_struct3 Tryd.underlying42 hf
    simp only [Value.cells, cellsI, cellsS, cellsMS] at h0 h1 h2
    obtain ⟨a, c, L, e0, hL, hc, hm⟩ := open_oneM h0
    obtain ⟨F, e1, _, wF⟩ := DataW.trod_int Tryd.underlying2 h1
    obtain ⟨b, e, S, e2, hS, hs, hw⟩ := open_one h2
    simp at e0 e1 e2
    subst e0 e1 e2
    exact ⟨a, L, c, F, b, S, e, rfl, ⟨hL, hS, hc, hm, hs⟩, wF, hw⟩

theorem szM_any (n : Nat) (hn : n ≤ maxLen) (a : Option Addr) (c : Nat) (l : Int) (h0 : 0 ≤ l) (h1 : l ≤ 1048576) (w : World) :
    Calls Tryd.prog 8 #[.slice a n c, .int .i64 l] w fun e w' => e = .returned (.int .i64 (if l - (n : Int) < 0 then -1 else l - (n : Int))) ∧ w' = w := by
  have hwr : IntKind.i64.wrap (l - (n : Int)) = l - (n : Int) := IntWalk.i64_in _ (by unfold maxLen at hn; omega)
  unfold maxLen at hn
  by_cases hc : l - (n : Int) < 0
  · rw [if_pos hc]
    go_enter Tryd.func8, Tryd.ntmps8
    go_wp2_with fail
    go_ret
    exact ⟨rfl, rfl⟩
  · rw [if_neg hc]
    go_enter Tryd.func8, Tryd.ntmps8
    go_wp2_with fail
    go_ret
    exact ⟨rfl, rfl⟩

/-- The law's measure: it is enough. -/
theorem szA_ok (n m : Nat) (a b : Option Addr) (c e : Nat) (F l : Int) (h1 : l ≤ 1048576) (h : (n : Int) + m ≤ l) (w : World) :
    Calls Tryd.prog 24 #[.agg #[.slice a n c, .int .i64 F, .slice b m e], .int .i64 l] w fun e w' => e = .returned (.int .i64 (l - n - m)) ∧ Below w.heap.size w w' := by
  have HM := fun w => szM_any n (by unfold maxLen; omega) a c l (by omega) h1 w
  have HS := fun w => szI_any m (by unfold maxLen; omega) b e (l - n) (by omega) (by omega) w
  rw [if_neg (by omega)] at HM HS
  have HM := Lib.hid HM
  have HS := Lib.hid HS
  have g1 : ¬ (l - (n : Int) < 0) := by omega
  have g2 : ¬ (l - (n : Int) - (m : Int) < 0) := by omega
  go_enter Tryd.func24, Tryd.ntmps24
  go_wp2_with fail
  refine (HM.out _).mono ?_
  rintro e w1 ⟨rfl, rfl⟩
  go_wp2_with fail
  refine (HS.out _).mono ?_
  rintro e w2 ⟨rfl, hb⟩
  have HB := Lib.hid hb
  clear hb
  go_wp2_with fail
  go_ret
  exact ⟨rfl, ((Below.refl _ _).alloc (Nat.le_refl _) _).trans (HB.out.mono (by simp))⟩

/-- The law's measure: it is not enough. -/
theorem szA_no (n m : Nat) (hn : n ≤ maxLen) (hm : m ≤ maxLen) (a b : Option Addr) (c e : Nat) (F l : Int) (h0 : 0 ≤ l) (h1 : l ≤ 1048576) (h : l < (n : Int) + m) (w : World) :
    Calls Tryd.prog 24 #[.agg #[.slice a n c, .int .i64 F, .slice b m e], .int .i64 l] w fun e w' => e = .returned (.int .i64 (-1)) ∧ Below w.heap.size w w' := by
  have HM := fun w => szM_any n hn a c l h0 h1 w
  by_cases hc : l - (n : Int) < 0
  · rw [if_pos hc] at HM
    have HM := Lib.hid HM
    go_enter Tryd.func24, Tryd.ntmps24
    go_wp2_with fail
    refine (HM.out _).mono ?_
    rintro e w1 ⟨rfl, rfl⟩
    go_wp2_with fail
    go_ret
    exact ⟨rfl, (Below.refl _ _).alloc (Nat.le_refl _) _⟩
  · rw [if_neg hc] at HM
    have HM := Lib.hid HM
    have HS := fun w => szI_any m hm b e (l - n) (by omega) (by omega) w
    rw [if_pos (by omega)] at HS
    have HS := Lib.hid HS
    go_enter Tryd.func24, Tryd.ntmps24
    go_wp2_with fail
    refine (HM.out _).mono ?_
    rintro e w1 ⟨rfl, rfl⟩
    go_wp2_with fail
    refine (HS.out _).mono ?_
    rintro e w2 ⟨rfl, hb⟩
    have HB := Lib.hid hb
    clear hb
    go_wp2_with fail
    go_ret
    exact ⟨rfl, ((Below.refl _ _).alloc (Nat.le_refl _) _).trans (HB.out.mono (by simp))⟩

theorem RdM.same {w w' : World} {B g : Nat} {L : List MapN} (h : RdM w B (some ⟨g, 0, none⟩) L) (e : w'.heap[g]? = w.heap[g]?) (hs : w.heap.size ≤ w'.heap.size) : RdM w' B (some ⟨g, 0, none⟩) L := by
  refine ⟨h.1, ?_⟩
  rcases h.2 with h0 | ⟨k, ha, hB, hg, hc, hf⟩
  · exact Or.inl h0
  · injection ha with ha
    injection ha with ha
    subst ha
    exact Or.inr ⟨g, rfl, hB, by omega, fun j hj => (hc j hj).block e, fun x hx => by rw [World.frozen?_of_block (a := ⟨g, x, none⟩) e]; exact hf x hx⟩

theorem Rd.same {w w' : World} {B g : Nat} {L : List Int} (h : Rd w B (some ⟨g, 0, none⟩) L) (e : w'.heap[g]? = w.heap[g]?) (hs : w.heap.size ≤ w'.heap.size) : Rd w' B (some ⟨g, 0, none⟩) L := by
  refine ⟨h.1, ?_⟩
  rcases h.2 with h0 | ⟨k, ha, hB, hg, hc⟩
  · exact Or.inl h0
  · injection ha with ha
    injection ha with ha
    subst ha
    exact Or.inr ⟨g, rfl, hB, by omega, fun j hj => by rw [World.frozen?_of_block (a := ⟨g, j, none⟩) e, World.cell?_of_block (a := ⟨g, j, none⟩) e]; exact hc j hj⟩

/-- A copy of an acceptor lies at two blocks. -/
structure Cop (w : World) (B g1 g2 : Nat) (L : List MapN) (S : List Int) : Prop where
  maps : RdM w B (some ⟨g1, 0, none⟩) L
  last : Rd w B (some ⟨g2, 0, none⟩) S
  lo : B ≤ g1
  lt : g1 < g2
  hi : g2 < w.heap.size

theorem Cop.below {w w' : World} {B g1 g2 : Nat} {L : List MapN} {S : List Int} (h : Cop w B g1 g2 L S) (hb : Below w.heap.size w w') : Cop w' B g1 g2 L S :=
  ⟨h.maps.below hb, h.last.below hb, h.lo, h.lt, Nat.lt_of_lt_of_le h.hi hb.size⟩

theorem Cop.mono {w : World} {B B' g1 g2 : Nat} {L : List MapN} {S : List Int} (h : Cop w B g1 g2 L S) (hB : B' ≤ B) : Cop w B' g1 g2 L S :=
  ⟨h.maps.mono hB, h.last.mono hB, Nat.le_trans hB h.lo, h.lt, h.hi⟩

def RetCopyA (L : List MapN) (F : Int) (S : List Int) (w : World) (e : Ending) (w' : World) : Prop :=
  ∃ g1 g2, e = .returned (.agg #[.slice (some ⟨g1, 0, none⟩) L.length L.length, .int .i64 F, .slice (some ⟨g2, 0, none⟩) S.length S.length]) ∧ Cop w' w.heap.size g1 g2 L S ∧ Below w.heap.size w w'

set_option maxRecDepth 100000 in
set_option maxHeartbeats 1000000 in
theorem toA_any (L : List MapN) (hl : L.length ≤ 1048576) (F : Int) (S : List Int) (hs : S.length ≤ 1048576) (a b : Option Addr) (c d : Nat) (w : World) (h1 : InRowM w a L) (h2 : InRow w b S) :
    Calls Tryd.prog 26 #[.agg #[.slice a L.length c, .int .i64 F, .slice b S.length d]] w (RetCopyA L F S w) := by
  have HM := Lib.hid fun wx (hb : Below w.heap.size w wx) => toMS_any L hl a c wx (h1.below hb)
  have HS := Lib.hid fun wx (hb : Below w.heap.size w wx) => toS_any S hs b d wx (h2.below hb)
  clear h1 h2
  go_enter Tryd.func26, Tryd.ntmps26
  go_wp2_with fail
  refine (HM.out _ (by (repeat' (first | (with_reducible exact Below.refl _ _) | (with_reducible refine Below.alloc ?_ ?_ _) | (with_reducible refine Below.setCell ?_ ?_ _) | (with_reducible refine Below.drew ?_) | (with_reducible refine below_drewN ?_ _) | (with_reducible refine Below.trans ?_ (Below.mono (Hid.out (by assumption)) ?_)) | omega | (simp; done) | (simp; omega))))).mono ?_
  rintro e w1 ⟨_, rfl, hr, hb, rfl, hg⟩
  obtain ⟨hc, hf⟩ := bcell hb
  have hz1 := hb.size
  have HB := Lib.hid hb
  have HR := Lib.hid hr
  (try simp at hz1 hc hf hg)
  have hl1 : w.heap.size + 1 < w1.heap.size := by omega
  have hl0 : w.heap.size < w1.heap.size := by omega
  have hl2 : w.heap.size + 1 + 1 < w1.heap.size := by omega
  clear hb hr
  go_wp2_with fail
  refine (HS.out _ (by (repeat' (first | (with_reducible exact Below.refl _ _) | (with_reducible refine Below.alloc ?_ ?_ _) | (with_reducible refine Below.setCell ?_ ?_ _) | (with_reducible refine Below.drew ?_) | (with_reducible refine below_drewN ?_ _) | (with_reducible refine Below.trans ?_ (Below.mono (Hid.out (by assumption)) ?_)) | omega | (simp; done) | (simp; omega))))).mono ?_
  rintro e w2 ⟨_, rfl, hr2, hb2, rfl, hg2⟩
  obtain ⟨hc2, hf2⟩ := bcell hb2
  have hz2 := hb2.size
  have HB2 := Lib.hid hb2
  have HR2 := Lib.hid hr2
  (try simp at hz2 hc2 hf2 hg2)
  clear hb2 hr2
  go_wp2_with fail
  refine bodyPost_ret (v := .agg #[.slice (some ⟨w.heap.size + 1 + 1 + 1, 0, none⟩) L.length L.length, .int .i64 F, .slice (some ⟨w1.heap.size, 0, none⟩) S.length S.length]) (by simp [results, Tryd.results26, go_sem, hc2, hc, hl1]) rfl ⟨w.heap.size + 1 + 1 + 1, w1.heap.size, rfl, ?_, ?_⟩
  · have h1 := HR.out
    have h2 := HR2.out
    have e3 := HB2.out.block (w.heap.size + 1 + 1 + 1) (by simp; omega)
    rw [hset_ne _ _ _ _ (by first | (simp; done) | (simp; omega)), hset_ne _ _ _ _ (by first | (simp; done) | (simp; omega))] at e3
    simp only [World.size_alloc, World.size_setCell] at h1 h2
    refine ⟨(h1.same ?_ (by simp; omega)).mono (by omega), (h2.same ?_ (by simp)).mono (by omega), by omega, by omega, by simp; omega⟩
    · rw [hset_ne _ _ _ _ (by first | (simp; done) | (simp; omega)), hset_ne _ _ _ _ (by first | (simp; done) | (simp; omega)), hset_ne _ _ _ _ (by first | (simp; done) | (simp; omega)), hset_ne _ _ _ _ (by first | (simp; done) | (simp; omega))]
      exact e3
    · rw [hset_ne _ _ _ _ (by first | (simp; done) | (simp; omega)), hset_ne _ _ _ _ (by first | (simp; done) | (simp; omega)), hset_ne _ _ _ _ (by first | (simp; done) | (simp; omega)), hset_ne _ _ _ _ (by first | (simp; done) | (simp; omega))]
  · (repeat' (first | (with_reducible exact Below.refl _ _) | (with_reducible refine Below.alloc ?_ ?_ _) | (with_reducible refine Below.setCell ?_ ?_ _) | (with_reducible refine Below.drew ?_) | (with_reducible refine below_drewN ?_ _) | (with_reducible refine Below.trans ?_ (Below.mono (Hid.out (by assumption)) ?_)) | omega | (simp; done) | (simp; omega)))

set_option maxRecDepth 100000 in
set_option maxHeartbeats 1000000 in
theorem eqA_same (L : List MapN) (F : Int) (S : List Int) (hl : L.length ≤ 2000000) (a1 a2 b1 b2 : Option Addr) (c1 c2 d1 d2 B1 B2 : Nat) (w : World) (h1 : InRowM w a1 L) (h2 : InRowM w a2 L) (k1 : Rd w B1 b1 S) (k2 : Rd w B2 b2 S) :
    Calls Tryd.prog 28 #[.agg #[.slice a1 L.length c1, .int .i64 F, .slice b1 S.length d1], .agg #[.slice a2 L.length c2, .int .i64 F, .slice b2 S.length d2]] w fun e w' => e = .returned (.bool true) ∧ Below w.heap.size w w' := by
  have HM := Lib.hid fun wx (hb : Below w.heap.size w wx) => eqMS_same L a1 a2 c1 c2 hl wx (h1.below hb) (h2.below hb)
  have HS := Lib.hid fun wx (hb : Below w.heap.size w wx) => eqS_same S b1 b2 d1 d2 B1 B2 wx (k1.below hb) (k2.below hb)
  have hF : (F != F) = false := by simp
  clear h1 h2 k1 k2
  go_enter Tryd.func28, Tryd.ntmps28
  go_wp2_with fail
  refine (HM.out _ (by (repeat' (first | (with_reducible exact Below.refl _ _) | (with_reducible refine Below.alloc ?_ ?_ _) | (with_reducible refine Below.setCell ?_ ?_ _) | (with_reducible refine Below.drew ?_) | (with_reducible refine below_drewN ?_ _) | (with_reducible refine Below.trans ?_ (Below.mono (Hid.out (by assumption)) ?_)) | omega | (simp; done) | (simp; omega))))).mono ?_
  rintro e w1 ⟨rfl, hb⟩
  obtain ⟨hc, hf⟩ := bcell hb
  have hz1 := hb.size
  have HB := Lib.hid hb
  (try simp at hz1 hc hf)
  have hl0 : w.heap.size < w1.heap.size := by omega
  have hl1 : w.heap.size + 1 < w1.heap.size := by omega
  clear hb
  go_wp2_with fail
  refine (HS.out _ (by (repeat' (first | (with_reducible exact Below.refl _ _) | (with_reducible refine Below.alloc ?_ ?_ _) | (with_reducible refine Below.setCell ?_ ?_ _) | (with_reducible refine Below.drew ?_) | (with_reducible refine below_drewN ?_ _) | (with_reducible refine Below.trans ?_ (Below.mono (Hid.out (by assumption)) ?_)) | omega | (simp; done) | (simp; omega))))).mono ?_
  rintro e w2 ⟨rfl, hb⟩
  have HB2 := Lib.hid hb
  have hz2 := hb.size
  clear hb
  go_wp2_with fail
  go_ret
  refine ⟨rfl, ?_⟩
  (repeat' (first | (with_reducible exact Below.refl _ _) | (with_reducible refine Below.alloc ?_ ?_ _) | (with_reducible refine Below.setCell ?_ ?_ _) | (with_reducible refine Below.drew ?_) | (with_reducible refine below_drewN ?_ _) | (with_reducible refine Below.trans ?_ (Below.mono (Hid.out (by assumption)) ?_)) | omega | (simp; done) | (simp; omega)))

/-- What laws.markAcceptor leaves: the marks in both rows, all else as it was. -/
def MarkedA (w : World) (B1 B2 : Nat) (a b : Option Addr) (n m : Nat) (k0 : Int) (e : Ending) (w' : World) : Prop :=
  e = .returned (.int .i64 (k0 + 6 * n + m)) ∧ RdM w' B1 a (mkM n k0) ∧ Rd w' B2 b (mk m (k0 + 6 * n)) ∧ Turn w w' (fun k => a = some ⟨k, 0, none⟩ ∨ b = some ⟨k, 0, none⟩)

theorem But.turnA {w w' : World} {a : Option Addr} (h : But w w' a) : Turn w w' (fun k => a = some ⟨k, 0, none⟩) :=
  ⟨h.os, h.tape, h.output, Nat.le_of_eq h.size.symm, fun k _ hk => h.block k hk⟩

theorem RdM.turn {w w' : World} {B : Nat} {a : Option Addr} {L : List MapN} {S : Nat → Prop} (h : RdM w B a L) (ht : Turn w w' S) (hS : ∀ k, B ≤ k → a = some ⟨k, 0, none⟩ → ¬ S k) : RdM w' B a L := by
  rcases h.2 with h0 | ⟨k, rfl, hB, hg, hc, hf⟩
  · exact ⟨h.1, Or.inl h0⟩
  · exact h.same (ht.block k hg (hS k hB rfl)) ht.size

theorem Rd.turnA {w w' : World} {B : Nat} {a : Option Addr} {L : List Int} {S : Nat → Prop} (h : Rd w B a L) (ht : Turn w w' S) (hS : ∀ k, B ≤ k → a = some ⟨k, 0, none⟩ → ¬ S k) : Rd w' B a L := by
  rcases h.2 with h0 | ⟨k, rfl, hB, hg, hc⟩
  · exact ⟨h.1, Or.inl h0⟩
  · exact h.same (ht.block k hg (hS k hB rfl)) ht.size





theorem chain3 {w : World} {b T : Nat} {x0 x1 x2 y0 y1 y2 : Value} (h : w.heap[b]? = some (.cells #[y0, y1, y2] T (0, 0))) :
    (((w.setCell ⟨b, 0, none⟩ x0).setCell ⟨b, 1, none⟩ x1).setCell ⟨b, 2, none⟩ x2).heap[b]? = some (.cells #[x0, x1, x2] T (0, 0)) :=
  Joins.block_setCell (Joins.block_setCell (Joins.block_setCell h _) _) _

theorem Turn.bel {w w' : World} {S : Nat → Prop} {B : Nat} (h : Turn w w' S) (hS : ∀ k, k < B → ¬ S k) (hB : B ≤ w.heap.size := by omega) : Below B w w' :=
  ⟨h.os, h.tape, h.output, h.size, fun k hk => h.block k (Nat.lt_of_lt_of_le hk hB) (hS k hk)⟩

/-- An acceptor that a call made. -/
structure Res (w : World) (B : Nat) (a b : Option Addr) (L : List MapN) (S : List Int) : Prop where
  maps : RdM w B a L
  last : Rd w B b S
  ne : ∀ k, a = some ⟨k, 0, none⟩ → B ≤ k ∧ k < w.heap.size ∧ b ≠ some ⟨k, 0, none⟩
  nb : ∀ k, b = some ⟨k, 0, none⟩ → B ≤ k ∧ k < w.heap.size

theorem Res.mono {w : World} {B B' : Nat} {a b : Option Addr} {L : List MapN} {S : List Int} (h : Res w B a b L S) (hB : B' ≤ B) : Res w B' a b L S :=
  ⟨h.maps.mono hB, h.last.mono hB, fun k e => ⟨Nat.le_trans hB (h.ne k e).1, (h.ne k e).2⟩, fun k e => ⟨Nat.le_trans hB (h.nb k e).1, (h.nb k e).2⟩⟩

theorem Res.turn {w w' : World} {B : Nat} {a b : Option Addr} {L : List MapN} {S : List Int} {T : Nat → Prop} (h : Res w B a b L S) (ht : Turn w w' T) (hT : ∀ k, B ≤ k → ¬ T k) : Res w' B a b L S :=
  ⟨h.maps.turn ht (fun k hk _ => hT k hk), h.last.turnA ht (fun k hk _ => hT k hk), fun k e => ⟨(h.ne k e).1, Nat.lt_of_lt_of_le (h.ne k e).2.1 ht.size, (h.ne k e).2.2⟩, fun k e => ⟨(h.nb k e).1, Nat.lt_of_lt_of_le (h.nb k e).2 ht.size⟩⟩

theorem Res.below {w w' : World} {B : Nat} {a b : Option Addr} {L : List MapN} {S : List Int} (h : Res w B a b L S) (hb : Below w.heap.size w w') : Res w' B a b L S :=
  ⟨h.maps.below hb, h.last.below hb, fun k e => by obtain ⟨h1, h2, h3⟩ := h.ne k e; exact ⟨h1, Nat.lt_of_lt_of_le h2 hb.size, h3⟩, fun k e => ⟨(h.nb k e).1, Nat.lt_of_lt_of_le (h.nb k e).2 hb.size⟩⟩

/-- The call returns an acceptor of its own beside a code. -/
def RetAcc (B : Nat) (L : List MapN) (F : Int) (S : List Int) (C : Int) (w : World) (e : Ending) (w' : World) : Prop :=
  ∃ a c b d, e = .returned (.tuple #[.agg #[.slice a L.length c, .int .i64 F, .slice b S.length d], .int .i64 C]) ∧ Res w' B a b L S ∧ Below w.heap.size w w'

end Go.Proofs.YthdjajelbpccpaaDoor
