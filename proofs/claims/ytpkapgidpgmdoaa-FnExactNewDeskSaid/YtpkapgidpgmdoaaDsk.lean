/- Desks among a law's arguments: what comes in, how it is measured, copied, compared, marked and held; the contracts of IsDesk and NewDesk, on both sides. -/
import Derived.Test.YtpkapgidpgmdoaaRow
import Derived.Test.YtpkapgidpgmdoaaRowM
import Derived.Test.YtpkapgidpgmdoaaMark
import Derived.Test.YtpkapgidpgmdoaaGiven
import Derived.Test.YtpkapgidpgmdoaaChk
import Derived.Test.YtpkapgidpgmdoaaMrow
namespace Go.Proofs.Ytpkapgidpgmdoaa
open Go.ChangeShapes Go.WideShapes Go.ChangeAt Go.RowKit Go.Deep

/-- A desk's cells. -/
def dkc (a : Option Addr) (n c : Nat) (p : Int) (t : Nat → Int) : Array Value := #[.slice a n c, .int .i64 p, .int .i64 (t 0), .int .i64 (t 1), .int .i64 (t 2), .int .i64 (t 3), .int .i64 (t 4)]

theorem blk7 {w : World} {b T : Nat} {fr : Nat × Nat} {a : Option Addr} {n c : Nat} {p : Int} {t : Nat → Int} (h : w.heap[b]? = some (.cells (dkc a n c p t) T fr)) :
    w.cell? ⟨b, 0, none⟩ = some (.slice a n c) ∧ w.cell? ⟨b, 1, none⟩ = some (.int .i64 p) ∧ w.cell? ⟨b, 2, none⟩ = some (.int .i64 (t 0)) ∧ w.cell? ⟨b, 3, none⟩ = some (.int .i64 (t 1)) ∧ w.cell? ⟨b, 4, none⟩ = some (.int .i64 (t 2)) ∧
      w.cell? ⟨b, 5, none⟩ = some (.int .i64 (t 3)) ∧ w.cell? ⟨b, 6, none⟩ = some (.int .i64 (t 4)) :=
  ⟨Joins.cell_of_block h 0, Joins.cell_of_block h 1, Joins.cell_of_block h 2, Joins.cell_of_block h 3, Joins.cell_of_block h 4, Joins.cell_of_block h 5, Joins.cell_of_block h 6⟩

theorem rdM_eq {w w' : World} {B g : Nat} {L : List MapN} (h : RdM w B (some ⟨g, 0, none⟩) L) (e : w'.heap[g]? = w.heap[g]?) (hs : w.heap.size ≤ w'.heap.size) : RdM w' B (some ⟨g, 0, none⟩) L := by
  refine ⟨h.1, ?_⟩
  rcases h.2 with h0 | ⟨k, ha, hB, hg, hc, hf⟩
  · exact Or.inl h0
  · injection ha with ha
    injection ha with ha
    subst ha
    refine Or.inr ⟨g, rfl, hB, Nat.lt_of_lt_of_le hg hs, fun i hi => ?_, fun i hi => ?_⟩
    · have h1 := hc i hi
      unfold AtM at h1 ⊢
      unfold World.cell? at h1 ⊢
      rw [e]
      exact h1
    · have h1 := hf i hi
      unfold World.frozen? at h1 ⊢
      rw [e]
      exact h1

/-- The call returns a desk whose maps lie in memory of its own. -/
def RetDk (L : List MapN) (p : Int) (t : Nat → Int) (w : World) (e : Ending) (w' : World) : Prop :=
  ∃ g c, e = .returned (.agg (dkc (some ⟨g, 0, none⟩) L.length c p t)) ∧ RdM w' w.heap.size (some ⟨g, 0, none⟩) L ∧ Below w.heap.size w w' ∧ g < w'.heap.size

set_option maxRecDepth 100000 in
set_option maxHeartbeats 1000000 in
theorem szDk_any (n : Nat) (hn : n ≤ maxLen) (a : Option Addr) (c : Nat) (p : Int) (t : Nat → Int) (w : World) :
    Calls Try.prog 63 #[.agg (dkc a n c p t), .int .i64 1048576] w fun e w' => e = .returned (.int .i64 (if n ≤ 1048576 then 1048576 - (n : Int) else -1)) ∧ Below w.heap.size w w' := by
  unfold dkc
  by_cases h : n ≤ 1048576
  · rw [if_pos h]
    have HZ := Lib.hid fun w => sz_any n a c h w
    have hng : ¬ ((1048576 : Int) - (n : Int) < 0) := by omega
    go_enter Try.func63, Try.ntmps63
    go_wp2_with fail
    refine (HZ.out _).mono ?_
    rintro e w1 ⟨rfl, rfl⟩
    go_wp2_with fail
    go_ret
    exact ⟨rfl, (Below.refl _ _).alloc (Nat.le_refl _) _⟩
  · rw [if_neg h]
    have HZ := Lib.hid fun w => sz_big n a c (by omega) hn w
    go_enter Try.func63, Try.ntmps63
    go_wp2_with fail
    refine (HZ.out _).mono ?_
    rintro e w1 ⟨rfl, rfl⟩
    go_wp2_with fail
    go_ret
    exact ⟨rfl, (Below.refl _ _).alloc (Nat.le_refl _) _⟩

set_option maxRecDepth 100000 in
set_option maxHeartbeats 2000000 in
theorem toDk_any (L : List MapN) (hl : L.length ≤ 1048576) (a : Option Addr) (c : Nat) (p : Int) (t : Nat → Int) (w : World) (h1 : InRowM w a L) :
    Calls Try.prog 65 #[.agg (dkc a L.length c p t)] w (RetDk L p t w) := by
  have HM := Lib.hid fun wx (hb : Below w.heap.size w wx) => toMS_any L hl a c wx (h1.below hb)
  have HT := Lib.hid fun wx => toMap_any p t wx
  clear h1
  unfold dkc
  simp only [mv, mcells] at HT
  go_enter Try.func65, Try.ntmps65
  go_wp2_with fail
  refine (HM.out _ (by (repeat' (first | (with_reducible exact Below.refl _ _) | (with_reducible refine Below.alloc ?_ ?_ _) | (with_reducible refine Below.setCell ?_ ?_ _) | (with_reducible refine Below.drew ?_) | (with_reducible refine below_drewN ?_ _) | (with_reducible refine Below.trans ?_ (Below.mono (Hid.out (by assumption)) ?_)) | omega | (simp; done) | (simp; omega))))).mono ?_
  rintro e w1 ⟨_, rfl, hr, hb, rfl, hg⟩
  obtain ⟨hc, hf⟩ := bcell hb
  have hz1 := hb.size
  have HB := Lib.hid hb
  have HR := Lib.hid hr
  (try simp at hz1 hc hf hg)
  have hl1 : w.heap.size + 1 < w1.heap.size := by omega
  have hl0 : w.heap.size < w1.heap.size := by omega
  have hl2 : w.heap.size + 1 + 1 < w1.heap.size := by omega
  clear hb hr
  go_wp2_with fail
  refine (HT.out _).mono ?_
  rintro e w2 ⟨rfl, hb2⟩
  obtain ⟨hc2, hf2⟩ := bcell hb2
  have hz2 := hb2.size
  have HB2 := Lib.hid hb2
  (try simp at hz2 hc2 hf2)
  clear hb2
  go_wp2_with fail
  obtain ⟨O, hO⟩ : ∃ O, w1.heap[w.heap.size + 1 + 1 + 1]? = some O := ⟨_, Array.getElem?_eq_getElem hg⟩
  have HO := Lib.hid hO
  have hg3 : w.heap.size + 1 + 1 + 1 < w1.heap.size := hg
  clear hO
  refine bodyPost_ret (v := .agg (dkc (some ⟨w.heap.size + 1 + 1 + 1, 0, none⟩) L.length L.length p t)) (by simp [results, Try.results65, go_sem, hc2, hc, hl1, dkc]) rfl ⟨w.heap.size + 1 + 1 + 1, L.length, rfl, ?_, ?_, ?_⟩
  · have h1 := HR.out
    simp only [World.size_alloc] at h1
    refine (rdM_eq h1 (Eq.trans (b := some O) ?_ HO.out.symm) ?_).mono (by omega)
    · (repeat' (first | omega | (rw [hdrew]) | (with_reducible assumption) | (with_reducible exact Hid.out (by assumption)) | (with_reducible rfl) | ((with_reducible refine halloc_at _ _ _ ?_) <;> (first | (with_reducible rfl) | omega | (simp; done))) | (with_reducible refine chain6 ?_) | (with_reducible refine Eq.trans (hset_ne _ _ _ _ ?_) ?_) | (with_reducible refine Eq.trans (halloc_lt _ _ _ ?_) ?_) | (with_reducible refine Eq.trans (Below.block (Hid.out (by assumption)) _ ?_) ?_) | (simp; done) | (simp; omega)))
    · simp; omega
  · (repeat' (first | (with_reducible exact Below.refl _ _) | (with_reducible refine Below.alloc ?_ ?_ _) | (with_reducible refine Below.setCell ?_ ?_ _) | (with_reducible refine Below.drew ?_) | (with_reducible refine below_drewN ?_ _) | (with_reducible refine Below.trans ?_ (Below.mono (Hid.out (by assumption)) ?_)) | omega | (simp; done) | (simp; omega)))
  · simp; omega

set_option maxRecDepth 100000 in
set_option maxHeartbeats 1000000 in
theorem eqDk_same (L : List MapN) (hl : L.length ≤ 2000000) (a1 a2 : Option Addr) (c1 c2 : Nat) (p : Int) (t : Nat → Int) (w : World) (h1 : InRowM w a1 L) (h2 : InRowM w a2 L) :
    Calls Try.prog 60 #[.agg (dkc a1 L.length c1 p t), .agg (dkc a2 L.length c2 p t)] w fun e w' => e = .returned (.bool true) ∧ Below w.heap.size w w' := by
  have HM := Lib.hid fun wx (hb : Below w.heap.size w wx) => eqMS_same L a1 a2 c1 c2 hl wx (h1.below hb) (h2.below hb)
  have HT := Lib.hid fun wx => eqMap_same p t wx
  clear h1 h2
  unfold dkc
  simp only [mv, mcells] at HT
  go_enter Try.func60, Try.ntmps60
  go_wp2_with fail
  refine (HM.out _ (by (repeat' (first | (with_reducible exact Below.refl _ _) | (with_reducible refine Below.alloc ?_ ?_ _) | (with_reducible refine Below.setCell ?_ ?_ _) | (with_reducible refine Below.drew ?_) | (with_reducible refine below_drewN ?_ _) | (with_reducible refine Below.trans ?_ (Below.mono (Hid.out (by assumption)) ?_)) | omega | (simp; done) | (simp; omega))))).mono ?_
  rintro e w1 ⟨rfl, hb⟩
  obtain ⟨hc, hf⟩ := bcell hb
  have hz1 := hb.size
  have HB := Lib.hid hb
  (try simp at hz1 hc hf)
  have hl0 : w.heap.size < w1.heap.size := by omega
  have hl1 : w.heap.size + 1 < w1.heap.size := by omega
  clear hb
  go_wp2_with fail
  refine (HT.out _).mono ?_
  rintro e w2 ⟨rfl, hb⟩
  have HB2 := Lib.hid hb
  have hz2 := hb.size
  clear hb
  go_wp2_with fail
  go_ret
  refine ⟨rfl, ?_⟩
  (repeat' (first | (with_reducible exact Below.refl _ _) | (with_reducible refine Below.alloc ?_ ?_ _) | (with_reducible refine Below.setCell ?_ ?_ _) | (with_reducible refine Below.drew ?_) | (with_reducible refine below_drewN ?_ _) | (with_reducible refine Below.trans ?_ (Below.mono (Hid.out (by assumption)) ?_)) | omega | (simp; done) | (simp; omega)))

/-- The contracts of IsDesk. -/
def dkB (L : List MapN) (p : Int) (t : Nat → Int) : Bool := chkC L [(p, t)] == 0

theorem one_rowM (w : World) (p : Int) (t : Nat → Int) : InRowM (w.alloc (.cells (mcells p t) 39)) (some ⟨w.heap.size, 0, none⟩) [(p, t)] := by
  refine Or.inr ⟨w.heap.size, 0, rfl, by simp, fun j hj => ?_⟩
  have : j = 0 := by simp at hj; omega
  subst this
  obtain ⟨x0, x1, x2, x3, x4, x5⟩ := blk6 (halloc_at w (.cells (mcells p t) 39) _ rfl)
  exact ⟨x0, x1, x2, x3, x4, x5⟩

set_option maxRecDepth 100000 in
set_option maxHeartbeats 1000000 in
theorem iDk_any (L : List MapN) (hl : L.length ≤ 1048576) (a : Option Addr) (c : Nat) (hc0 : a = none → c = 0) (p : Int) (t : Nat → Int) (w : World) (h1 : InRowM w a L) :
    Calls Try.prog 66 #[.agg (dkc a L.length c p t)] w fun e w' => e = .returned (.bool (dkB L p t)) ∧ Below w.heap.size w w' := by
  have hb1 : Below w.heap.size w (w.alloc (.cells (dkc a L.length c p t) 57)) := (Below.refl _ _).alloc (Nat.le_refl _) _
  have hb2 : Below w.heap.size w ((w.alloc (.cells (dkc a L.length c p t) 57)).alloc (.cells (mcells p t) 39)) := hb1.alloc (by simp) _
  have hone := one_rowM (w.alloc (.cells (dkc a L.length c p t) 57)) p t
  simp only [World.size_alloc] at hone
  have HC := Lib.hid (check_any a (some ⟨w.heap.size + 1, 0, none⟩) c 1 L [(p, t)] hc0 (fun e => by cases e) hl (by simp) _ (h1.below hb2) hone)
  have HB := Lib.hid hb2
  have HD : Hid (dkB L p t = (chkC L [(p, t)] == 0)) := Lib.hid rfl
  rw [HD.out]
  generalize chkC L [(p, t)] = C at *
  clear h1 hb1 hb2 hone hc0 HD
  simp only [mcells] at HC HB
  unfold dkc at *
  go_enter Try.func66, Try.ntmps66
  go_wp2_with fail
  refine HC.out.mono ?_
  rintro e w1 ⟨rfl, hb⟩
  have HB1 := Lib.hid (HB.out.trans (hb.mono (by simp; omega)))
  clear hb
  go_wp2_with fail
  go_ret
  exact ⟨rfl, HB1.out⟩

set_option maxRecDepth 100000 in
set_option maxHeartbeats 1000000 in
theorem sDk_any (L : List MapN) (hl : L.length ≤ 1048576) (a : Option Addr) (c : Nat) (p : Int) (t : Nat → Int) (w : World) (h1 : InRowM w a L) :
    Calls Try.prog 64 #[.agg (dkc a L.length c p t)] w fun e w' => e = .returned (.bool (dkB L p t)) ∧ Below w.heap.size w w' := by
  have hb1 : Below w.heap.size w (w.alloc (.cells (dkc a L.length c p t) 57)) := (Below.refl _ _).alloc (Nat.le_refl _) _
  have hb2 : Below w.heap.size w ((w.alloc (.cells (dkc a L.length c p t) 57)).alloc (.cells (mcells p t) 39)) := hb1.alloc (by simp) _
  have hone := one_rowM (w.alloc (.cells (dkc a L.length c p t) 57)) p t
  simp only [World.size_alloc] at hone
  have HC := Lib.hid (given_any a (some ⟨w.heap.size + 1, 0, none⟩) c 1 L [(p, t)] hl (by simp) _ (h1.below hb2) hone)
  have HB := Lib.hid hb2
  have HD : Hid (dkB L p t = (chkC L [(p, t)] == 0)) := Lib.hid rfl
  rw [HD.out]
  generalize chkC L [(p, t)] = C at *
  clear h1 hb1 hb2 hone HD
  simp only [mcells] at HC HB
  unfold dkc at *
  go_enter Try.func64, Try.ntmps64
  go_wp2_with fail
  refine HC.out.mono ?_
  rintro e w1 ⟨rfl, hb⟩
  have HB1 := Lib.hid (HB.out.trans (hb.mono (by simp; omega)))
  clear hb
  go_wp2_with fail
  go_ret
  exact ⟨rfl, HB1.out⟩

/-! ### the new desk -/

def nwL : List MapN := [(2, tOf 1 0 0 0 0), (2, fun _ => 0)]

/-- The cells of the new desk's maps. -/
def nwC : Array Value := #[.int .i64 2, .int .i64 1, .int .i64 0, .int .i64 0, .int .i64 0, .int .i64 0, .int .i64 2, .int .i64 0, .int .i64 0, .int .i64 0, .int .i64 0, .int .i64 0]

theorem nw_rd {w : World} {B g : Nat} (hB : B ≤ g) (h : w.heap[g]? = some (.cells nwC 39 (0, 0))) : RdM w B (some ⟨g, 0, none⟩) nwL := by
  refine ⟨by decide, Or.inr ⟨g, rfl, hB, (Array.getElem?_eq_some_iff.1 h).1, fun j hj => ?_, fun x _ => Joins.unfrozen_of_block h x⟩⟩
  have : j = 0 ∨ j = 1 := by simp [nwL] at hj; omega
  rcases this with rfl | rfl
  · exact ⟨Joins.cell_of_block h 0, Joins.cell_of_block h 1, Joins.cell_of_block h 2, Joins.cell_of_block h 3, Joins.cell_of_block h 4, Joins.cell_of_block h 5⟩
  · exact ⟨Joins.cell_of_block h 6, Joins.cell_of_block h 7, Joins.cell_of_block h 8, Joins.cell_of_block h 9, Joins.cell_of_block h 10, Joins.cell_of_block h 11⟩

set_option maxRecDepth 100000 in
set_option maxHeartbeats 1000000 in
theorem ifr_any (g : Nat) (w : World) (h : w.heap[g]? = some (.cells nwC 39 (0, 0))) :
    Calls Try.prog 102 #[.slice (some ⟨g, 0, none⟩) 2 2] w fun e w' => e = .returned (.agg (dkc (some ⟨g, 0, none⟩) 2 2 2 (tOf 1 0 0 0 0))) ∧ Below w.heap.size w w' := by
  have x0 := Joins.cell_of_block h 0
  have x1 := Joins.cell_of_block h 1
  have x2 := Joins.cell_of_block h 2
  have x3 := Joins.cell_of_block h 3
  have x4 := Joins.cell_of_block h 4
  have x5 := Joins.cell_of_block h 5
  have hl := (Array.getElem?_eq_some_iff.1 h).1
  simp [nwC] at x0 x1 x2 x3 x4 x5
  have hz01 : (0 : Int) < 2 := by decide
  clear h
  go_enter Try.func102, Try.ntmps102
  go_wp2_with fail
  refine bodyPost_ret (v := .agg (dkc (some ⟨g, 0, none⟩) 2 2 2 (tOf 1 0 0 0 0))) (by simp [results, Try.results102, go_sem, dkc, tOf]) rfl ⟨rfl, ?_⟩
  (repeat' (first | (with_reducible exact Below.refl _ _) | (with_reducible refine Below.alloc ?_ ?_ _) | (with_reducible refine Below.setCell ?_ ?_ _) | (with_reducible refine Below.drew ?_) | (with_reducible refine below_drewN ?_ _) | (with_reducible refine Below.trans ?_ (Below.mono (Hid.out (by assumption)) ?_)) | omega | (simp; done) | (simp; omega)))

set_option maxRecDepth 100000 in
set_option maxHeartbeats 1000000 in
theorem sfr_any (g : Nat) (w : World) (h : w.heap[g]? = some (.cells nwC 39 (0, 0))) :
    Calls Try.prog 120 #[.slice (some ⟨g, 0, none⟩) 2 2] w fun e w' => e = .returned (.agg (dkc (some ⟨g, 0, none⟩) 2 2 2 (tOf 1 0 0 0 0))) ∧ Below w.heap.size w w' := by
  have x0 := Joins.cell_of_block h 0
  have x1 := Joins.cell_of_block h 1
  have x2 := Joins.cell_of_block h 2
  have x3 := Joins.cell_of_block h 3
  have x4 := Joins.cell_of_block h 4
  have x5 := Joins.cell_of_block h 5
  have hl := (Array.getElem?_eq_some_iff.1 h).1
  simp [nwC] at x0 x1 x2 x3 x4 x5
  have hz01 : (0 : Int) < 2 := by decide
  clear h
  go_enter Try.func120, Try.ntmps120
  go_wp2_with fail
  refine bodyPost_ret (v := .agg (dkc (some ⟨g, 0, none⟩) 2 2 2 (tOf 1 0 0 0 0))) (by simp [results, Try.results120, go_sem, dkc, tOf]) rfl ⟨rfl, ?_⟩
  (repeat' (first | (with_reducible exact Below.refl _ _) | (with_reducible refine Below.alloc ?_ ?_ _) | (with_reducible refine Below.setCell ?_ ?_ _) | (with_reducible refine Below.drew ?_) | (with_reducible refine below_drewN ?_ _) | (with_reducible refine Below.trans ?_ (Below.mono (Hid.out (by assumption)) ?_)) | omega | (simp; done) | (simp; omega)))

set_option maxRecDepth 100000 in
set_option maxHeartbeats 2000000 in
theorem iNew_any (w : World) : Calls Try.prog 59 #[] w (RetDk nwL 2 (tOf 1 0 0 0 0) w) := by
  have HF := Lib.hid fun wx h => ifr_any (w.heap.size + 1 + 1 + 1) wx h
  simp only [dkc] at HF
  go_enter Try.func59, Try.ntmps59
  go_wp2_with fail
  refine (HF.out _ (halloc_at _ _ _ (by simp))).mono ?_
  rintro e w1 ⟨rfl, hb⟩
  have hg := (hb.block (w.heap.size + 1 + 1 + 1) (by simp)).trans (halloc_at _ _ _ (by simp))
  have h0 : w.heap.size < w1.heap.size := by have := hb.size; simp at this; omega
  have hgl := (Array.getElem?_eq_some_iff.1 hg).1
  have HG := Lib.hid hg
  obtain ⟨hc, hf⟩ := bcell hb
  obtain ⟨x0, x1, x2, x3, x4, x5, x6⟩ := blk7 (a := none) (n := 0) (c := 0) (p := 0) (t := fun _ => 0) (T := 57) (fr := (0, 0)) ((hb.block w.heap.size (by simp; omega)).trans ((halloc_lt _ _ _ (by simp; omega)).trans ((halloc_lt _ _ _ (by simp; omega)).trans ((halloc_lt _ _ _ (by simp)).trans (halloc_at _ _ _ rfl)))))
  have HB := Lib.hid hb
  (try simp at hc hf)
  clear hb hg
  go_wp2_with fail
  refine bodyPost_ret (v := .agg (dkc (some ⟨w.heap.size + 1 + 1 + 1, 0, none⟩) nwL.length 2 2 (tOf 1 0 0 0 0))) (by simp [results, Try.results59, go_sem, dkc, tOf, nwL, x0, x1, x2, x3, x4, x5, x6]) rfl (show RetDk _ _ _ _ _ _ from ⟨w.heap.size + 1 + 1 + 1, 2, rfl, ?_, ?_, ?_⟩)
  · refine nw_rd (by omega) ?_
    (repeat' (first | omega | (rw [hdrew]) | (with_reducible assumption) | (with_reducible exact Hid.out (by assumption)) | (with_reducible rfl) | ((with_reducible refine halloc_at _ _ _ ?_) <;> (first | (with_reducible rfl) | omega | (simp; done))) | (with_reducible refine chain6 ?_) | (with_reducible refine Eq.trans (hset_ne _ _ _ _ ?_) ?_) | (with_reducible refine Eq.trans (halloc_lt _ _ _ ?_) ?_) | (with_reducible refine Eq.trans (Below.block (Hid.out (by assumption)) _ ?_) ?_) | (simp; done) | (simp; omega)))
  · (repeat' (first | (with_reducible exact Below.refl _ _) | (with_reducible refine Below.alloc ?_ ?_ _) | (with_reducible refine Below.setCell ?_ ?_ _) | (with_reducible refine Below.drew ?_) | (with_reducible refine below_drewN ?_ _) | (with_reducible refine Below.trans ?_ (Below.mono (Hid.out (by assumption)) ?_)) | omega | (simp; done) | (simp; omega)))
  · simp; omega

set_option maxRecDepth 100000 in
set_option maxHeartbeats 2000000 in
theorem slNew_any (w : World) : Calls Try.prog 101 #[] w (RetDk nwL 2 (tOf 1 0 0 0 0) w) := by
  have HF := Lib.hid fun wx h => sfr_any (w.heap.size + 1) wx h
  simp only [dkc] at HF
  go_enter Try.func101, Try.ntmps101
  go_wp2_with fail
  refine (HF.out _ (halloc_at _ _ _ (by simp))).mono ?_
  rintro e w1 ⟨rfl, hb⟩
  have hg := (hb.block (w.heap.size + 1) (by simp)).trans (halloc_at _ _ _ (by simp))
  have h0 : w.heap.size < w1.heap.size := by have := hb.size; simp at this; omega
  have hgl := (Array.getElem?_eq_some_iff.1 hg).1
  have HG := Lib.hid hg
  obtain ⟨hc, hf⟩ := bcell hb
  obtain ⟨x0, x1, x2, x3, x4, x5, x6⟩ := blk7 (a := none) (n := 0) (c := 0) (p := 0) (t := fun _ => 0) (T := 57) (fr := (0, 0)) ((hb.block w.heap.size (by simp only [World.size_alloc]; omega)).trans ((halloc_lt _ _ _ (by simp)).trans (halloc_at _ _ _ rfl)))
  have HB := Lib.hid hb
  (try simp at hc hf)
  clear hb hg
  go_wp2_with fail
  refine bodyPost_ret (v := .agg (dkc (some ⟨w.heap.size + 1, 0, none⟩) nwL.length 2 2 (tOf 1 0 0 0 0))) (by simp [results, Try.results101, go_sem, dkc, tOf, nwL, x0, x1, x2, x3, x4, x5, x6]) rfl (show RetDk _ _ _ _ _ _ from ⟨w.heap.size + 1, 2, rfl, ?_, ?_, ?_⟩)
  · refine nw_rd (by omega) ?_
    (repeat' (first | omega | (rw [hdrew]) | (with_reducible assumption) | (with_reducible exact Hid.out (by assumption)) | (with_reducible rfl) | ((with_reducible refine halloc_at _ _ _ ?_) <;> (first | (with_reducible rfl) | omega | (simp; done))) | (with_reducible refine chain6 ?_) | (with_reducible refine Eq.trans (hset_ne _ _ _ _ ?_) ?_) | (with_reducible refine Eq.trans (halloc_lt _ _ _ ?_) ?_) | (with_reducible refine Eq.trans (Below.block (Hid.out (by assumption)) _ ?_) ?_) | (simp; done) | (simp; omega)))
  · (repeat' (first | (with_reducible exact Below.refl _ _) | (with_reducible refine Below.alloc ?_ ?_ _) | (with_reducible refine Below.setCell ?_ ?_ _) | (with_reducible refine Below.drew ?_) | (with_reducible refine below_drewN ?_ _) | (with_reducible refine Below.trans ?_ (Below.mono (Hid.out (by assumption)) ?_)) | omega | (simp; done) | (simp; omega)))
  · simp; omega

set_option maxRecDepth 100000 in
set_option maxHeartbeats 2000000 in
theorem sNew_any (w : World) : Calls Try.prog 58 #[] w (RetDk nwL 2 (tOf 1 0 0 0 0) w) := by
  have HF := Lib.hid fun wx => slNew_any wx
  unfold RetDk dkc at HF
  go_enter Try.func58, Try.ntmps58
  go_wp2_with fail
  refine (HF.out _).mono ?_
  rintro e w1 ⟨g, c, rfl, hr, hb, hg⟩
  have hgB : w.heap.size < g := by
    rcases hr.2 with h1 | ⟨k, ha, hB, _⟩
    · cases h1
    · injection ha with ha
      injection ha with ha
      simp at hB
      omega
  have h0 : w.heap.size < w1.heap.size := by have := hb.size; simp at this; omega
  obtain ⟨x0, x1, x2, x3, x4, x5, x6⟩ := blk7 (a := none) (n := 0) (c := 0) (p := 0) (t := fun _ => 0) (T := 57) (fr := (0, 0)) ((hb.block w.heap.size (by simp only [World.size_alloc]; omega)).trans (halloc_at _ _ _ rfl))
  obtain ⟨hc, hf⟩ := bcell hb
  have HB := Lib.hid hb
  have HR := Lib.hid hr
  (try simp at hc hf)
  clear hb hr
  go_wp2_with fail
  refine bodyPost_ret (v := .agg (dkc (some ⟨g, 0, none⟩) nwL.length c 2 (tOf 1 0 0 0 0))) (by simp [results, Try.results58, go_sem, dkc, tOf, nwL, x0, x1, x2, x3, x4, x5, x6]) rfl (show RetDk _ _ _ _ _ _ from ⟨g, c, rfl, ?_, ?_, ?_⟩)
  · refine (rdM_eq HR.out ?_ ?_).mono ?_
    · ((repeat' (first | omega | (rw [hdrew]) | (with_reducible assumption) | (with_reducible exact Hid.out (by assumption)) | (with_reducible rfl) | ((with_reducible refine halloc_at _ _ _ ?_) <;> (first | (with_reducible rfl) | omega | (simp; done))) | (with_reducible refine chain6 ?_) | (with_reducible refine Eq.trans (hset_ne _ _ _ _ ?_) ?_) | (with_reducible refine Eq.trans (halloc_lt _ _ _ ?_) ?_) | (with_reducible refine Eq.trans (Below.block (Hid.out (by assumption)) _ ?_) ?_) | (simp; done) | (simp; omega)))) <;> (show g ≠ w.heap.size; omega)
    · simp
    · simp
  · (repeat' (first | (with_reducible exact Below.refl _ _) | (with_reducible refine Below.alloc ?_ ?_ _) | (with_reducible refine Below.setCell ?_ ?_ _) | (with_reducible refine Below.drew ?_) | (with_reducible refine below_drewN ?_ _) | (with_reducible refine Below.trans ?_ (Below.mono (Hid.out (by assumption)) ?_)) | omega | (simp; done) | (simp; omega)))
  · simp; omega

set_option maxRecDepth 100000 in
set_option maxHeartbeats 1000000 in
theorem markDk_any (L : List MapN) (a : Option Addr) (c B : Nat) (k0 : Int) (hk0 : 0 ≤ k0) (hk1 : k0 ≤ 20000000) (p : Int) (t : Nat → Int) (w : World) (hB : B ≤ w.heap.size) (h : RdM w B a L) :
    Calls Try.prog 61 #[.agg (dkc a L.length c p t), .int .i64 k0] w fun e w' => e = .returned (.int .i64 (k0 + 6 * L.length)) ∧ RdM w' B a (mkM L.length k0) ∧ Below B w w' ∧ ∀ b, b < w.heap.size → a ≠ some ⟨b, 0, none⟩ → w'.heap[b]? = w.heap[b]? := by
  have HM := Lib.hid fun wx (hb : Below w.heap.size w wx) => markM_any L a c B k0 hk0 hk1 wx (h.below hb)
  clear h
  unfold dkc
  go_enter Try.func61, Try.ntmps61
  go_wp2_with fail
  refine (HM.out _ (by (repeat' (first | (with_reducible exact Below.refl _ _) | (with_reducible refine Below.alloc ?_ ?_ _) | (with_reducible refine Below.setCell ?_ ?_ _) | (with_reducible refine Below.drew ?_) | (with_reducible refine below_drewN ?_ _) | (with_reducible refine Below.trans ?_ (Below.mono (Hid.out (by assumption)) ?_)) | omega | (simp; done) | (simp; omega))))).mono ?_
  rintro e w1 ⟨rfl, hr, hbut, hb⟩
  have HU := Lib.hid hbut
  have HB := Lib.hid hb
  have HR := Lib.hid hr
  clear hb hr hbut
  go_wp2_with fail
  go_ret
  exact ⟨rfl, HR.out, (((Below.refl _ _).alloc hB _).trans HB.out), fun b hb ha => (HU.out.block b ha).trans (halloc_lt _ _ _ hb)⟩

set_option maxRecDepth 100000 in
set_option maxHeartbeats 1000000 in
theorem heldDk_any (n : Nat) (hn : n ≤ 1000000) (a : Option Addr) (c B : Nat) (k0 : Int) (hk0 : 0 ≤ k0) (hk1 : k0 ≤ 20000000) (p : Int) (t : Nat → Int) (w : World) (h : RdM w B a (mkM n k0)) :
    Calls Try.prog 62 #[.agg (dkc a n c p t), .int .i64 k0] w fun e w' => e = .returned (.int .i64 (k0 + 6 * n)) ∧ Below w.heap.size w w' := by
  have HM := Lib.hid fun wx (hb : Below w.heap.size w wx) => heldM_any n a c B k0 hk0 hk1 wx (h.below hb)
  have hng : ¬ (k0 + 6 * (n : Int) < 0) := by omega
  clear h
  unfold dkc
  go_enter Try.func62, Try.ntmps62
  go_wp2_with fail
  refine (HM.out _ (by (repeat' (first | (with_reducible exact Below.refl _ _) | (with_reducible refine Below.alloc ?_ ?_ _) | (with_reducible refine Below.setCell ?_ ?_ _) | (with_reducible refine Below.drew ?_) | (with_reducible refine below_drewN ?_ _) | (with_reducible refine Below.trans ?_ (Below.mono (Hid.out (by assumption)) ?_)) | omega | (simp; done) | (simp; omega))))).mono ?_
  rintro e w1 ⟨rfl, hb⟩
  have HB := Lib.hid hb
  clear hb
  go_wp2_with fail
  go_ret
  exact ⟨rfl, by (repeat' (first | (with_reducible exact Below.refl _ _) | (with_reducible refine Below.alloc ?_ ?_ _) | (with_reducible refine Below.setCell ?_ ?_ _) | (with_reducible refine Below.drew ?_) | (with_reducible refine below_drewN ?_ _) | (with_reducible refine Below.trans ?_ (Below.mono (Hid.out (by assumption)) ?_)) | omega | (simp; done) | (simp; omega)))⟩

end Go.Proofs.Ytpkapgidpgmdoaa
