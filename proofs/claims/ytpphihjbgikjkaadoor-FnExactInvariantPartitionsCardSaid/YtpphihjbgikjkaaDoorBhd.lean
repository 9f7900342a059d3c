/- The contracts of impl.behindDoor and of the closure that it defers, at work that returns classes or panics with an error. -/
import Derived.Test.YtpphihjbgikjkaaDoorCla
import Derived.Test.YtpphihjbgikjkaaDoorErd
import Derived.Defers
import Derived.Recover
import Derived.Deep.DeepCutAuto
namespace Go.Proofs.YtpphihjbgikjkaaDoor
open Go Go.RowKit

theorem is_err (E : Addr) (w : World) : (Instr.typeAssert (.iface 96 (.pointer (some E))) 20 79 true).run Tryd.prog w = .ok (.tuple #[.iface 96 (.pointer (some E)), .bool true]) w := by kernel_rfl

theorem is_nil (w : World) : (Instr.typeAssert .nilIface 20 79 true).run Tryd.prog w = .ok (.tuple #[.nilIface, .bool false]) w := by kernel_rfl

theorem bcatch_err (p : Addr) (x : Int) (E : Addr) (w : World) (hc : w.cell? p = some (.int .i64 x)) (hz : w.frozen? p = false) :
    CallsD Tryd.prog 62 #[.pointer (some p)] (.panicking [{ v := .iface 96 (.pointer (some E)), recovered := false }]) w fun e u' w' =>
      e = .returned (.tuple #[]) ∧ u' = .panicking [{ v := .iface 96 (.pointer (some E)), recovered := true }] ∧ w' = w.setCell p (.int .i64 2) := by
  have hta := fun w => is_err E w
  refine callsD_of_wpS Tryd.func62 rfl fun c₀ cs hu => ?_
  apply wpS_seq
  apply wpS_region
  simp [wpOpsS, go_sem, recoverD, hu, Tryd.ntmps62, Exit.thenS, hta]
  apply wpS_seq
  apply wpS_region
  simp [wpOpsS, go_sem, Exit.thenS]
  refine wpS_cond (t := true) (by simp [Act.eval, Array.replicate]) ?_
  simp only [if_true]
  apply wpS_region
  simp [wpOpsS, go_sem, hc, hz, bodyPostS, results, Tryd.results62]

theorem bcatch_idle (p : Addr) (w : World) :
    CallsD Tryd.prog 62 #[.pointer (some p)] .returning w fun e u' w' => e = .returned (.tuple #[]) ∧ u' = .returning ∧ w' = w := by
  have hta := fun w => is_nil w
  refine callsD_of_wpS Tryd.func62 rfl fun c₀ cs hu => ?_
  apply wpS_seq
  apply wpS_region
  simp [wpOpsS, go_sem, recoverD, hu, Tryd.ntmps62, Exit.thenS, hta]
  apply wpS_seq
  apply wpS_region
  simp [wpOpsS, go_sem, Exit.thenS]
  refine wpS_cond (t := false) (by simp [Act.eval, Array.replicate]) ?_
  simp only [Bool.false_eq_true, if_false]
  refine wpS_of_wp (wp_skip ?_)
  cases c₀
  simp_all [bodyPostS, results, Tryd.results62]

theorem Trw.setLow {w : World} {B b o : Nat} {v u : Value} {us : List Value} {W : List (List Int)} (h : Trw w B v us W) (hb : b < B) : Trw (w.setCell ⟨b, o, none⟩ u) B v us W :=
  ⟨((Turn.of_below (S := fun r => r = b) (Below.refl _ _)).setCell rfl).own h.own (fun r e => by have := (h.own.lt r e).1; omega), fun j hj => ((Turn.of_below (S := fun r => r = b) (Below.refl _ _)).setCell rfl).own (h.row j hj) (fun r e => by have := ((h.row j hj).lt r e).1; omega), h.full, h.ne⟩

theorem Trw.low {w : World} {B B2 : Nat} {v : Value} {us : List Value} {W : List (List Int)} (h : Trw w B v us W) (hb : B2 ≤ B) : Trw w B2 v us W :=
  ⟨Joins.ownsRow_le h.own hb, fun j hj => Joins.ownsRow_le (h.row j hj) hb, h.full, h.ne⟩

set_option maxRecDepth 1000000 in
set_option maxHeartbeats 4000000 in
theorem bhd_good (W : List (List Int)) (p1 p2 : Addr) (w : World) (HW : ∀ wx, Below w.heap.size w wx → Calls Tryd.prog 49 #[.pointer (some p1), .pointer (some p2)] wx fun e w' => ∃ v us, e = .returned v ∧ Trw w' wx.heap.size v us W ∧ Below wx.heap.size wx w') :
    Calls Tryd.prog 48 #[.func (.func 49) #[] #[.pointer (some p1), .pointer (some p2)]] w fun e w' => ∃ v us, e = .returned (.tuple #[v, .int .i64 0]) ∧ Trw w' w.heap.size v us W ∧ Below w.heap.size w w' := by
  have hmf : ∀ (fn : Fn) (first cap : Array Value) (w : World), (Instr.makeFunc fn first cap).run Tryd.prog w = .ok (.func fn first cap) w := fun _ _ _ _ => rfl
  have HW := Lib.hid HW
  go_enter_defers Tryd.func48, Tryd.ntmps48
  go_wp2_with fail
  refine (HW.out _ (by (repeat' (first | (with_reducible exact Below.refl _ _) | (with_reducible refine Below.alloc ?_ ?_ _) | (with_reducible refine Below.setCell ?_ ?_ _) | (with_reducible refine Below.drew ?_) | (with_reducible refine below_drewN ?_ _) | (with_reducible refine Below.trans ?_ (Below.mono (Hid.out (by assumption)) ?_)) | omega | (simp; done) | (simp; omega))))).mono ?_
  rintro e w1 ⟨v, us, rfl, ht, hb⟩
  have HT := Lib.hid ht
  have hbk := (hb.block w.heap.size (by simp)).trans (halloc_at w _ _ rfl)
  have hc0 := Joins.cell_of_block hbk 0
  have hfr := Joins.unfrozen_of_block hbk 0
  simp at hc0
  have HBK := Lib.hid hbk
  have hsz := hb.size
  simp at hsz
  have HB0 : Hid (Below w.heap.size w w1) := Lib.hid (((Below.refl _ _).alloc (Nat.le_refl _) _).trans (hb.mono (by simp)))
  clear hb hbk ht
  go_wp2_with fail
  refine leaves_cons (f := 62) (args := #[.pointer (some ⟨w.heap.size, 0, none⟩)]) (by simp) (by simp [go_sem]) ?_
  refine (bcatch_idle ⟨w.heap.size, 0, none⟩ _).mono ?_
  rintro e u' w'' ⟨rfl, rfl, rfl⟩
  have hkx := Joins.cell_of_block (Joins.block_setCell (i := 0) HBK.out (.int .i64 0)) 0
  simp at hkx
  have ht2 : Trw (w1.setCell ⟨w.heap.size, 0, none⟩ (.int .i64 0)) w.heap.size v us W := (HT.out.setLow (by simp)).low (by simp)
  have hbel2 := Below.setCell (p := ⟨w.heap.size, 0, none⟩) HB0.out (Nat.le_refl _) (.int .i64 0)
  simp [Leaves, settle, results, Tryd.results48, go_sem, hkx]
  exact ⟨⟨us, ht2⟩, hbel2⟩

set_option maxRecDepth 1000000 in
set_option maxHeartbeats 4000000 in
theorem bhd_bad (E p1 p2 : Addr) (w : World) (HW : ∀ wx, Below w.heap.size w wx → Calls Tryd.prog 49 #[.pointer (some p1), .pointer (some p2)] wx fun e w' => e = .panicked [{ v := .iface 96 (.pointer (some E)), recovered := false }] ∧ Below wx.heap.size wx w') :
    Calls Tryd.prog 48 #[.func (.func 49) #[] #[.pointer (some p1), .pointer (some p2)]] w fun e w' => e = .returned (.tuple #[.slice none 0 0, .int .i64 2]) ∧ Below w.heap.size w w' := by
  have hmf : ∀ (fn : Fn) (first cap : Array Value) (w : World), (Instr.makeFunc fn first cap).run Tryd.prog w = .ok (.func fn first cap) w := fun _ _ _ _ => rfl
  have HW := Lib.hid HW
  go_enter_defers Tryd.func48, Tryd.ntmps48
  go_wp2_with fail
  refine (HW.out _ (by (repeat' (first | (with_reducible exact Below.refl _ _) | (with_reducible refine Below.alloc ?_ ?_ _) | (with_reducible refine Below.setCell ?_ ?_ _) | (with_reducible refine Below.drew ?_) | (with_reducible refine below_drewN ?_ _) | (with_reducible refine Below.trans ?_ (Below.mono (Hid.out (by assumption)) ?_)) | omega | (simp; done) | (simp; omega))))).mono ?_
  rintro e w1 ⟨rfl, hb⟩
  have hbk := (hb.block w.heap.size (by simp)).trans (halloc_at w _ _ rfl)
  have hc0 := Joins.cell_of_block hbk 0
  have hfr := Joins.unfrozen_of_block hbk 0
  simp at hc0
  have HBK := Lib.hid hbk
  have HB0 : Hid (Below w.heap.size w w1) := Lib.hid (((Below.refl _ _).alloc (Nat.le_refl _) _).trans (hb.mono (by simp)))
  clear hb hbk
  go_wp2_with fail
  refine leaves_cons (f := 62) (args := #[.pointer (some ⟨w.heap.size, 0, none⟩)]) (by simp) (by simp [go_sem]) ?_
  refine (bcatch_err ⟨w.heap.size, 0, none⟩ 0 E _ hc0 hfr).mono ?_
  rintro e u' w'' ⟨rfl, rfl, rfl⟩
  have hkx := Joins.cell_of_block (Joins.block_setCell (i := 0) HBK.out (.int .i64 2)) 0
  simp at hkx
  have hbel2 := Below.setCell (p := ⟨w.heap.size, 0, none⟩) HB0.out (Nat.le_refl _) (.int .i64 2)
  simp [Leaves, settle, results, Tryd.results48, go_sem, hkx]
  exact hbel2

end Go.Proofs.YtpphihjbgikjkaaDoor
