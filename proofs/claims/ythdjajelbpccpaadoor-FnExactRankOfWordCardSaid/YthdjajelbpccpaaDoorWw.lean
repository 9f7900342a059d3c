/- The contracts of impl.behindDoor and of the closure that it defers, at work that returns maps or panics with an error; the contract of impl.walkWord. -/
import Derived.Test.YthdjajelbpccpaaDoorMob
import Derived.Test.YthdjajelbpccpaaDoorTurn
import Derived.Defers
import Derived.Recover
import Derived.Deep.DeepCutAuto
namespace Go.Proofs.YthdjajelbpccpaaDoor
open Go Go.RowKit

theorem is_err (E : Addr) (w : World) : (Instr.typeAssert (.iface 100 (.pointer (some E))) 20 96 true).run Tryd.prog w = .ok (.tuple #[.iface 100 (.pointer (some E)), .bool true]) w := by kernel_rfl

theorem is_nil (w : World) : (Instr.typeAssert .nilIface 20 96 true).run Tryd.prog w = .ok (.tuple #[.nilIface, .bool false]) w := by kernel_rfl

theorem catch_err (p : Addr) (x : Int) (E : Addr) (w : World) (hc : w.cell? p = some (.int .i64 x)) (hz : w.frozen? p = false) :
    CallsD Tryd.prog 74 #[.pointer (some p)] (.panicking [{ v := .iface 100 (.pointer (some E)), recovered := false }]) w fun e u' w' =>
      e = .returned (.tuple #[]) ∧ u' = .panicking [{ v := .iface 100 (.pointer (some E)), recovered := true }] ∧ w' = w.setCell p (.int .i64 2) := by
  have hta := fun w => is_err E w
  refine callsD_of_wpS Tryd.func74 rfl fun c₀ cs hu => ?_
  apply wpS_seq
  apply wpS_region
  simp [wpOpsS, go_sem, recoverD, hu, Tryd.ntmps74, Exit.thenS, hta]
  apply wpS_seq
  apply wpS_region
  simp [wpOpsS, go_sem, Exit.thenS]
  refine wpS_cond (t := true) (by simp [Act.eval, Array.replicate]) ?_
  simp only [if_true]
  apply wpS_region
  simp [wpOpsS, go_sem, hc, hz, bodyPostS, results, Tryd.results74]

theorem catch_idle (p : Addr) (w : World) :
    CallsD Tryd.prog 74 #[.pointer (some p)] .returning w fun e u' w' => e = .returned (.tuple #[]) ∧ u' = .returning ∧ w' = w := by
  have hta := fun w => is_nil w
  refine callsD_of_wpS Tryd.func74 rfl fun c₀ cs hu => ?_
  apply wpS_seq
  apply wpS_region
  simp [wpOpsS, go_sem, recoverD, hu, Tryd.ntmps74, Exit.thenS, hta]
  apply wpS_seq
  apply wpS_region
  simp [wpOpsS, go_sem, Exit.thenS]
  refine wpS_cond (t := false) (by simp [Act.eval, Array.replicate]) ?_
  simp only [Bool.false_eq_true, if_false]
  refine wpS_of_wp (wp_skip ?_)
  cases c₀
  simp_all [bodyPostS, results, Tryd.results74]

/-- What impl.walkWord returns at a word. -/
def RetWalk (L : List MapN) (W : List Int) (w : World) (e : Ending) (w' : World) : Prop :=
  ∃ v, e = .returned (.tuple #[v, .int .i64 0]) ∧ OwnM w' w.heap.size v (begL L W W.length) ∧ Below w.heap.size w w'

theorem OwnM.setLow {w : World} {B b o : Nat} {v u : Value} {M : List MapN} (h : OwnM w B v M) (hb : b < B) : OwnM (w.setCell ⟨b, o, none⟩ u) B v M :=
  ((Turn.of_below (S := fun r => r = b) (Below.refl _ _)).setCell rfl).own h (fun r e => by have := (World.ownsRow.lt h r e).1; omega)

set_option maxRecDepth 1000000 in
set_option maxHeartbeats 4000000 in
theorem bhm_good (M : List MapN) (p1 p2 : Addr) (w : World) (HW : ∀ wx, Below w.heap.size w wx → Calls Tryd.prog 54 #[.pointer (some p1), .pointer (some p2)] wx fun e w' => ∃ v, e = .returned v ∧ OwnM w' wx.heap.size v M ∧ Below wx.heap.size wx w') :
    Calls Tryd.prog 53 #[.func (.func 54) #[] #[.pointer (some p1), .pointer (some p2)]] w fun e w' => ∃ v, e = .returned (.tuple #[v, .int .i64 0]) ∧ OwnM w' w.heap.size v M ∧ Below w.heap.size w w' := by
  have hmf : ∀ (fn : Fn) (first cap : Array Value) (w : World), (Instr.makeFunc fn first cap).run Tryd.prog w = .ok (.func fn first cap) w := fun _ _ _ _ => rfl
  have HW := Lib.hid HW
  go_enter_defers Tryd.func53, Tryd.ntmps53
  go_wp2_with fail
  refine (HW.out _ (by (repeat' (first | (with_reducible exact Below.refl _ _) | (with_reducible refine Below.alloc ?_ ?_ _) | (with_reducible refine Below.setCell ?_ ?_ _) | (with_reducible refine Below.drew ?_) | (with_reducible refine below_drewN ?_ _) | (with_reducible refine Below.trans ?_ (Below.mono (Hid.out (by assumption)) ?_)) | omega | (simp; done) | (simp; omega))))).mono ?_
  rintro e w1 ⟨v, rfl, ht, hb⟩
  have HT := Lib.hid ht
  have hbk := (hb.block w.heap.size (by simp)).trans (halloc_at w _ _ rfl)
  have hc0 := Joins.cell_of_block hbk 0
  have hfr := Joins.unfrozen_of_block hbk 0
  simp at hc0
  have HBK := Lib.hid hbk
  have hsz := hb.size
  simp at hsz
  have HB0 : Hid (Below w.heap.size w w1) := Lib.hid (((Below.refl _ _).alloc (Nat.le_refl _) _).trans (hb.mono (by simp)))
  clear hb hbk ht
  go_wp2_with fail
  refine leaves_cons (f := 74) (args := #[.pointer (some ⟨w.heap.size, 0, none⟩)]) (by simp) (by simp [go_sem]) ?_
  refine (catch_idle ⟨w.heap.size, 0, none⟩ _).mono ?_
  rintro e u' w'' ⟨rfl, rfl, rfl⟩
  have hkx := Joins.cell_of_block (Joins.block_setCell (i := 0) HBK.out (.int .i64 0)) 0
  simp at hkx
  have ht2 : OwnM (w1.setCell ⟨w.heap.size, 0, none⟩ (.int .i64 0)) w.heap.size v M := Joins.ownsRow_le (HT.out.setLow (by simp)) (by simp)
  have hbel2 := Below.setCell (p := ⟨w.heap.size, 0, none⟩) HB0.out (Nat.le_refl _) (.int .i64 0)
  simp [Leaves, settle, results, Tryd.results53, go_sem, hkx]
  exact ⟨ht2, hbel2⟩

set_option maxRecDepth 1000000 in
set_option maxHeartbeats 4000000 in
theorem bhm_bad (E p1 p2 : Addr) (w : World) (HW : ∀ wx, Below w.heap.size w wx → Calls Tryd.prog 54 #[.pointer (some p1), .pointer (some p2)] wx fun e w' => e = .panicked [{ v := .iface 100 (.pointer (some E)), recovered := false }] ∧ Below wx.heap.size wx w') :
    Calls Tryd.prog 53 #[.func (.func 54) #[] #[.pointer (some p1), .pointer (some p2)]] w fun e w' => e = .returned (.tuple #[.slice none 0 0, .int .i64 2]) ∧ Below w.heap.size w w' := by
  have hmf : ∀ (fn : Fn) (first cap : Array Value) (w : World), (Instr.makeFunc fn first cap).run Tryd.prog w = .ok (.func fn first cap) w := fun _ _ _ _ => rfl
  have HW := Lib.hid HW
  go_enter_defers Tryd.func53, Tryd.ntmps53
  go_wp2_with fail
  refine (HW.out _ (by (repeat' (first | (with_reducible exact Below.refl _ _) | (with_reducible refine Below.alloc ?_ ?_ _) | (with_reducible refine Below.setCell ?_ ?_ _) | (with_reducible refine Below.drew ?_) | (with_reducible refine below_drewN ?_ _) | (with_reducible refine Below.trans ?_ (Below.mono (Hid.out (by assumption)) ?_)) | omega | (simp; done) | (simp; omega))))).mono ?_
  rintro e w1 ⟨rfl, hb⟩
  have hbk := (hb.block w.heap.size (by simp)).trans (halloc_at w _ _ rfl)
  have hc0 := Joins.cell_of_block hbk 0
  have hfr := Joins.unfrozen_of_block hbk 0
  simp at hc0
  have HBK := Lib.hid hbk
  have HB0 : Hid (Below w.heap.size w w1) := Lib.hid (((Below.refl _ _).alloc (Nat.le_refl _) _).trans (hb.mono (by simp)))
  clear hb hbk
  go_wp2_with fail
  refine leaves_cons (f := 74) (args := #[.pointer (some ⟨w.heap.size, 0, none⟩)]) (by simp) (by simp [go_sem]) ?_
  refine (catch_err ⟨w.heap.size, 0, none⟩ 0 E _ hc0 hfr).mono ?_
  rintro e u' w'' ⟨rfl, rfl, rfl⟩
  have hkx := Joins.cell_of_block (Joins.block_setCell (i := 0) HBK.out (.int .i64 2)) 0
  simp at hkx
  have hbel2 := Below.setCell (p := ⟨w.heap.size, 0, none⟩) HB0.out (Nat.le_refl _) (.int .i64 2)
  simp [Leaves, settle, results, Tryd.results53, go_sem, hkx]
  exact hbel2

set_option maxRecDepth 1000000 in
set_option maxHeartbeats 4000000 in
theorem ww1_good (L : List MapN) (W : List Int) (hl2 : W.length ≤ 1048576) (hC : w5C L W = 0) (a1 : Option Addr) (c1 : Nat) (a2 : Option Addr) (c2 p1 p2 : Nat) (w : World) (hr1 : InRowM w a1 L) (hr2 : InRow w a2 W) (e1 : w.cell? ⟨p1, 0, none⟩ = some (.slice a1 L.length c1)) (e2 : w.cell? ⟨p2, 0, none⟩ = some (.slice a2 W.length c2)) :
    Calls Tryd.prog 54 #[.pointer (some ⟨p1, 0, none⟩), .pointer (some ⟨p2, 0, none⟩)] w fun e w' => ∃ v, e = .returned v ∧ OwnM w' w.heap.size v (begL L W W.length) ∧ Below w.heap.size w w' := by
  have HMO := Lib.hid (mob_good L W hl2 hC a1 c1 a2 c2 w hr1 hr2)
  clear hr1 hr2 hC
  go_enter Tryd.func54, Tryd.ntmps54
  go_wp2_with fail
  refine HMO.out.mono ?_
  rintro e w1 ⟨v, rfl, hown, hb⟩
  have HO := Lib.hid hown
  have HB := Lib.hid hb
  clear hown hb e1 e2
  go_wp2_with fail
  go_ret
  exact ⟨_, rfl, HO.out, HB.out⟩

set_option maxRecDepth 1000000 in
set_option maxHeartbeats 4000000 in
theorem ww1_bad (L : List MapN) (W : List Int) (hl2 : W.length ≤ 1048576) (hB : w5B L W = false) (a1 : Option Addr) (c1 : Nat) (a2 : Option Addr) (c2 p1 p2 : Nat) (w : World) (hr2 : InRow w a2 W) (e1 : w.cell? ⟨p1, 0, none⟩ = some (.slice a1 L.length c1)) (e2 : w.cell? ⟨p2, 0, none⟩ = some (.slice a2 W.length c2)) (E : Addr) (hE : w.cell? ⟨0, 0, none⟩ = some (.iface 100 (.pointer (some E)))) :
    Calls Tryd.prog 54 #[.pointer (some ⟨p1, 0, none⟩), .pointer (some ⟨p2, 0, none⟩)] w fun e w' => e = .panicked [{ v := .iface 100 (.pointer (some E)), recovered := false }] ∧ Below w.heap.size w w' := by
  have HMO := Lib.hid (mob_bad L W hl2 hB a1 c1 a2 c2 w hr2 E hE)
  clear hr2 hB hE
  go_enter Tryd.func54, Tryd.ntmps54
  go_wp2_with fail
  refine HMO.out.mono ?_
  rintro e w1 ⟨rfl, rfl⟩
  go_wp2_with fail
  first
    | exact ⟨rfl, rfl, Below.refl _ _⟩
    | exact ⟨rfl, Below.refl _ _⟩
    | trace_state

set_option maxRecDepth 1000000 in
set_option maxHeartbeats 4000000 in
theorem walk_good (L : List MapN) (hl1 : L.length ≤ 1048576) (W : List Int) (hl2 : W.length ≤ 1048576) (hC : w5C L W = 0) (a1 : Option Addr) (c1 : Nat) (hc1 : a1 = none → c1 = 0) (a2 : Option Addr) (c2 : Nat) (w : World) (hr1 : InRowM w a1 L) (hr2 : InRow w a2 W) :
    Calls Tryd.prog 31 #[.slice a1 L.length c1, .slice a2 W.length c2] w (RetWalk L W w) := by
  have hmf : ∀ (fn : Fn) (first cap : Array Value) (w : World), (Instr.makeFunc fn first cap).run Tryd.prog w = .ok (.func fn first cap) w := fun _ _ _ _ => rfl
  have HCK := fun wx (hb : Below w.heap.size w wx) => check_any a1 none c1 0 L [] hc1 (fun _ => rfl) hl1 (by simp) wx (hr1.below hb) (Or.inl rfl)
  rw [(w5C_zero hC).1] at HCK
  have HCK := Lib.hid HCK
  have HMO := Lib.hid fun p1 p2 wx (hb : Below w.heap.size w wx) h1 h2 => ww1_good L W hl2 hC a1 c1 a2 c2 p1 p2 wx (hr1.below hb) (hr2.below hb) h1 h2
  clear hr1 hr2 hC
  obtain ⟨wb, hwb⟩ : ∃ wb, wb = (w.alloc (.cells #[.slice a1 L.length c1] 27)).alloc (.cells #[.slice a2 W.length c2] 23) := ⟨_, rfl⟩
  have HWB : Hid (Below w.heap.size w wb) := Lib.hid (by rw [hwb]; exact ((Below.refl _ _).alloc (Nat.le_refl _) _).alloc (by simp) _)
  have hbx : wb.heap[w.heap.size]? = some (.cells #[.slice a1 L.length c1] 27 (0, 0)) := by rw [hwb]; exact (halloc_lt _ _ _ (by simp)).trans (halloc_at _ _ _ rfl)
  have hby : wb.heap[w.heap.size + 1]? = some (.cells #[.slice a2 W.length c2] 23 (0, 0)) := by rw [hwb]; exact halloc_at _ _ _ (by simp)
  have hwz : w.heap.size + 1 < wb.heap.size := (Array.getElem?_eq_some_iff.1 hby).1
  have f0 := Joins.cell_of_block hbx 0
  simp only [List.getElem?_toArray, List.getElem?_cons_zero] at f0
  have HBX := Lib.hid hbx
  have HBY := Lib.hid hby
  clear hbx hby
  go_enter Tryd.func31, Tryd.ntmps31
  go_wp2_with fail
  rw [← hwb]
  clear hwb
  refine (HCK.out _ HWB.out).mono ?_
  rintro e w1 ⟨rfl, hb⟩
  have hx1 := Joins.cell_of_block ((hb.block w.heap.size (by omega)).trans HBX.out) 0
  have hy1 := Joins.cell_of_block ((hb.block (w.heap.size + 1) (by omega)).trans HBY.out) 0
  simp only [List.getElem?_toArray, List.getElem?_cons_zero] at hx1 hy1
  have HB1 : Hid (Below w.heap.size w w1) := Lib.hid (HWB.out.trans (hb.mono (by omega)))
  have hl1' : w.heap.size + 1 < w1.heap.size := Nat.lt_of_lt_of_le hwz hb.size
  have HBH := Lib.hid (bhm_good (begL L W W.length) ⟨w.heap.size, 0, none⟩ ⟨w.heap.size + 1, 0, none⟩ w1 fun wx hx => HMO.out _ _ wx (HB1.out.trans (hx.mono (by omega))) ((hx.cell (p := ⟨w.heap.size, 0, none⟩) (show w.heap.size < _ by omega)).trans hx1) ((hx.cell (p := ⟨w.heap.size + 1, 0, none⟩) hl1').trans hy1))
  clear hb f0 hx1 hy1
  go_wp2_with fail
  refine HBH.out.mono ?_
  rintro e w2 ⟨v, rfl, hown, hb⟩
  have HO : Hid (OwnM w2 w.heap.size v (begL L W W.length)) := Lib.hid (Joins.ownsRow_le hown (by omega))
  have HB2 : Hid (Below w.heap.size w w2) := Lib.hid (HB1.out.trans (hb.mono (by omega)))
  clear hown hb
  go_wp2_with fail
  go_ret2
  exact ⟨v, rfl, HO.out, HB2.out⟩

set_option maxRecDepth 1000000 in
set_option maxHeartbeats 4000000 in
theorem walk_word (L : List MapN) (hl1 : L.length ≤ 1048576) (W : List Int) (hl2 : W.length ≤ 1048576) (hC : chkC L [] = 0) (hB : w5B L W = false) (a1 : Option Addr) (c1 : Nat) (hc1 : a1 = none → c1 = 0) (a2 : Option Addr) (c2 : Nat) (w : World) (hr1 : InRowM w a1 L) (hr2 : InRow w a2 W)
    (E : Addr) (hE : w.cell? ⟨0, 0, none⟩ = some (.iface 100 (.pointer (some E)))) :
    Calls Tryd.prog 31 #[.slice a1 L.length c1, .slice a2 W.length c2] w fun e w' => e = .returned (.tuple #[.slice none 0 0, .int .i64 2]) ∧ Below w.heap.size w w' := by
  have hmf : ∀ (fn : Fn) (first cap : Array Value) (w : World), (Instr.makeFunc fn first cap).run Tryd.prog w = .ok (.func fn first cap) w := fun _ _ _ _ => rfl
  have HCK := fun wx (hb : Below w.heap.size w wx) => check_any a1 none c1 0 L [] hc1 (fun _ => rfl) hl1 (by simp) wx (hr1.below hb) (Or.inl rfl)
  rw [hC] at HCK
  have HCK := Lib.hid HCK
  have h0 := World.block_lt_of_cell? w _ hE
  have HMO := Lib.hid fun p1 p2 wx (hb : Below w.heap.size w wx) h1 h2 => ww1_bad L W hl2 hB a1 c1 a2 c2 p1 p2 wx (hr2.below hb) h1 h2 E ((hb.cell (p := ⟨0, 0, none⟩) h0).trans hE)
  clear hr1 hr2 hC hB hE
  obtain ⟨wb, hwb⟩ : ∃ wb, wb = (w.alloc (.cells #[.slice a1 L.length c1] 27)).alloc (.cells #[.slice a2 W.length c2] 23) := ⟨_, rfl⟩
  have HWB : Hid (Below w.heap.size w wb) := Lib.hid (by rw [hwb]; exact ((Below.refl _ _).alloc (Nat.le_refl _) _).alloc (by simp) _)
  have hbx : wb.heap[w.heap.size]? = some (.cells #[.slice a1 L.length c1] 27 (0, 0)) := by rw [hwb]; exact (halloc_lt _ _ _ (by simp)).trans (halloc_at _ _ _ rfl)
  have hby : wb.heap[w.heap.size + 1]? = some (.cells #[.slice a2 W.length c2] 23 (0, 0)) := by rw [hwb]; exact halloc_at _ _ _ (by simp)
  have hwz : w.heap.size + 1 < wb.heap.size := (Array.getElem?_eq_some_iff.1 hby).1
  have f0 := Joins.cell_of_block hbx 0
  simp only [List.getElem?_toArray, List.getElem?_cons_zero] at f0
  have HBX := Lib.hid hbx
  have HBY := Lib.hid hby
  clear hbx hby
  go_enter Tryd.func31, Tryd.ntmps31
  go_wp2_with fail
  rw [← hwb]
  clear hwb
  refine (HCK.out _ HWB.out).mono ?_
  rintro e w1 ⟨rfl, hb⟩
  have hx1 := Joins.cell_of_block ((hb.block w.heap.size (by omega)).trans HBX.out) 0
  have hy1 := Joins.cell_of_block ((hb.block (w.heap.size + 1) (by omega)).trans HBY.out) 0
  simp only [List.getElem?_toArray, List.getElem?_cons_zero] at hx1 hy1
  have HB1 : Hid (Below w.heap.size w w1) := Lib.hid (HWB.out.trans (hb.mono (by omega)))
  have hl1' : w.heap.size + 1 < w1.heap.size := Nat.lt_of_lt_of_le hwz hb.size
  have HBH := Lib.hid (bhm_bad E ⟨w.heap.size, 0, none⟩ ⟨w.heap.size + 1, 0, none⟩ w1 fun wx hx => HMO.out _ _ wx (HB1.out.trans (hx.mono (by omega))) ((hx.cell (p := ⟨w.heap.size, 0, none⟩) (show w.heap.size < _ by omega)).trans hx1) ((hx.cell (p := ⟨w.heap.size + 1, 0, none⟩) hl1').trans hy1))
  clear hb f0 hx1 hy1
  go_wp2_with fail
  refine HBH.out.mono ?_
  rintro e w2 ⟨rfl, hb⟩
  have HB2 : Hid (Below w.heap.size w w2) := Lib.hid (HB1.out.trans (hb.mono (by omega)))
  clear hb
  go_wp2_with fail
  go_ret2
  exact ⟨rfl, HB2.out⟩

set_option maxRecDepth 1000000 in
set_option maxHeartbeats 4000000 in
theorem walk_bad (L : List MapN) (hl1 : L.length ≤ 1048576) (W : List Int) (hC : chkC L [] ≠ 0) (a1 : Option Addr) (c1 : Nat) (hc1 : a1 = none → c1 = 0) (a2 : Option Addr) (c2 : Nat) (w : World) (hr1 : InRowM w a1 L) :
    Calls Tryd.prog 31 #[.slice a1 L.length c1, .slice a2 W.length c2] w fun e w' => e = .returned (.tuple #[.slice none 0 0, .int .i64 (chkC L [])]) ∧ Below w.heap.size w w' := by
  have HCK := Lib.hid fun wx (hb : Below w.heap.size w wx) => check_any a1 none c1 0 L [] hc1 (fun _ => rfl) hl1 (by simp) wx (hr1.below hb) (Or.inl rfl)
  have hne : (chkC L [] != 0) = true := by simpa using hC
  clear hr1 hC
  generalize chkC L [] = C at *
  go_enter Tryd.func31, Tryd.ntmps31
  go_wp2_with fail
  refine (HCK.out _ (by (repeat' (first | (with_reducible exact Below.refl _ _) | (with_reducible refine Below.alloc ?_ ?_ _) | (with_reducible refine Below.setCell ?_ ?_ _) | (with_reducible refine Below.drew ?_) | (with_reducible refine below_drewN ?_ _) | (with_reducible refine Below.trans ?_ (Below.mono (Hid.out (by assumption)) ?_)) | omega | (simp; done) | (simp; omega))))).mono ?_
  rintro e w1 ⟨rfl, hb⟩
  have HB1 : Hid (Below w.heap.size w w1) := Lib.hid ((((Below.refl _ _).alloc (Nat.le_refl _) _).alloc (by simp) _).trans (hb.mono (by simp; omega)))
  clear hb
  go_wp2_with fail
  go_ret2
  exact ⟨rfl, HB1.out⟩

end Go.Proofs.YthdjajelbpccpaaDoor
