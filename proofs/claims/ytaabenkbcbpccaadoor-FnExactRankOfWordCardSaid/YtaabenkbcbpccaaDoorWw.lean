/- The contracts of impl.walkWord and of the closure that it defers. -/
import Derived.Test.YtaabenkbcbpccaaDoorMob
import Derived.Defers
import Derived.Recover
import Derived.Deep.DeepCutAuto
namespace Go.Proofs.YtaabenkbcbpccaaDoor
open Go Go.RowKit

theorem is_err (E : Addr) (w : World) : (Instr.typeAssert (.iface 85 (.pointer (some E))) 20 65 true).run Tryd.prog w = .ok (.tuple #[.iface 85 (.pointer (some E)), .bool true]) w := by kernel_rfl

theorem is_nil (w : World) : (Instr.typeAssert .nilIface 20 65 true).run Tryd.prog w = .ok (.tuple #[.nilIface, .bool false]) w := by kernel_rfl

theorem catch_err (p : Addr) (x : Int) (E : Addr) (w : World) (hc : w.cell? p = some (.int .i64 x)) (hz : w.frozen? p = false) :
    CallsD Tryd.prog 42 #[.pointer (some p)] (.panicking [{ v := .iface 85 (.pointer (some E)), recovered := false }]) w fun e u' w' =>
      e = .returned (.tuple #[]) ∧ u' = .panicking [{ v := .iface 85 (.pointer (some E)), recovered := true }] ∧ w' = w.setCell p (.int .i64 2) := by
  have hta := fun w => is_err E w
  refine callsD_of_wpS Tryd.func42 rfl fun c₀ cs hu => ?_
  apply wpS_seq
  apply wpS_region
  simp [wpOpsS, go_sem, recoverD, hu, Tryd.ntmps42, Exit.thenS, hta]
  apply wpS_seq
  apply wpS_region
  simp [wpOpsS, go_sem, Exit.thenS]
  refine wpS_cond (t := true) (by simp [Act.eval, Array.replicate]) ?_
  simp only [if_true]
  apply wpS_region
  simp [wpOpsS, go_sem, hc, hz, bodyPostS, results, Tryd.results42]

theorem catch_idle (p : Addr) (w : World) :
    CallsD Tryd.prog 42 #[.pointer (some p)] .returning w fun e u' w' => e = .returned (.tuple #[]) ∧ u' = .returning ∧ w' = w := by
  have hta := fun w => is_nil w
  refine callsD_of_wpS Tryd.func42 rfl fun c₀ cs hu => ?_
  apply wpS_seq
  apply wpS_region
  simp [wpOpsS, go_sem, recoverD, hu, Tryd.ntmps42, Exit.thenS, hta]
  apply wpS_seq
  apply wpS_region
  simp [wpOpsS, go_sem, Exit.thenS]
  refine wpS_cond (t := false) (by simp [Act.eval, Array.replicate]) ?_
  simp only [Bool.false_eq_true, if_false]
  refine wpS_of_wp (wp_skip ?_)
  cases c₀
  simp_all [bodyPostS, results, Tryd.results42]

/-- What impl.walkWord returns at a word. -/
def RetWalk (L : List MapN) (W : List Int) (w : World) (e : Ending) (w' : World) : Prop :=
  ∃ v, e = .returned (.tuple #[v, .int .i64 0]) ∧ OwnM w' w.heap.size v (begL L W W.length) ∧ Below w.heap.size w w'

set_option maxRecDepth 1000000 in
set_option maxHeartbeats 4000000 in
theorem walk_good (L : List MapN) (hl1 : L.length ≤ 1048576) (W : List Int) (hl2 : W.length ≤ 1048576) (hC : w5C L W = 0) (a1 : Option Addr) (c1 : Nat) (hc1 : a1 = none → c1 = 0) (a2 : Option Addr) (c2 : Nat) (w : World) (hr1 : InRowM w a1 L) (hr2 : InRow w a2 W) :
    Calls Tryd.prog 25 #[.slice a1 L.length c1, .slice a2 W.length c2] w (RetWalk L W w) := by
  have hmf : ∀ (fn : Fn) (first cap : Array Value) (w : World), (Instr.makeFunc fn first cap).run Tryd.prog w = .ok (.func fn first cap) w := fun _ _ _ _ => rfl
  have HCK := fun wx (hb : Below w.heap.size w wx) => check_any a1 none c1 0 L [] hc1 (fun _ => rfl) hl1 (by simp) wx (hr1.below hb) (Or.inl rfl)
  rw [(w5C_zero hC).1] at HCK
  have HCK := Lib.hid HCK
  have HMO := Lib.hid fun wx (hb : Below w.heap.size w wx) => mob_good L W hl2 hC a1 c1 a2 c2 wx (hr1.below hb) (hr2.below hb)
  clear hr1 hr2 hC
  go_enter_defers Tryd.func25, Tryd.ntmps25
  go_wp2_with fail
  refine (HCK.out _ (by (repeat' (first | (with_reducible exact Below.refl _ _) | (with_reducible refine Below.alloc ?_ ?_ _) | (with_reducible refine Below.setCell ?_ ?_ _) | (with_reducible refine Below.drew ?_) | (with_reducible refine below_drewN ?_ _) | (with_reducible refine Below.trans ?_ (Below.mono (Hid.out (by assumption)) ?_)) | omega | (simp; done) | (simp; omega))))).mono ?_
  rintro e w1 ⟨rfl, hb⟩
  have hz := hb.size
  have HB := Lib.hid hb
  have hbk := (hb.block w.heap.size (by simp)).trans (halloc_at w _ _ rfl)
  have hc0 := Joins.cell_of_block hbk 0
  have hfr := Joins.unfrozen_of_block hbk 0
  simp at hc0 hz
  have HBK := Lib.hid hbk
  have HB0 : Hid (Below w.heap.size w w1) := Lib.hid (((Below.refl _ _).alloc (Nat.le_refl _) _).trans (hb.mono (by simp)))
  clear hb hbk HB
  obtain ⟨wv, hwv⟩ : ∃ wv, wv = w1.setCell ⟨w.heap.size, 0, none⟩ (.int .i64 0) := ⟨_, rfl⟩
  have hbv : Below w.heap.size w wv := by rw [hwv]; exact Below.setCell HB0.out (Nat.le_refl _) _
  have hkv : wv.heap[w.heap.size]? = some (.cells #[.int .i64 0] 2 (0, 0)) := by rw [hwv]; exact Joins.block_setCell HBK.out _
  have hcv := Joins.cell_of_block hkv 0
  have hfv := Joins.unfrozen_of_block hkv 0
  simp at hcv
  have hlv : w.heap.size < wv.heap.size := (Array.getElem?_eq_some_iff.1 hkv).1
  have HBV := Lib.hid hbv
  have HKV := Lib.hid hkv
  clear hbv hkv
  go_upto_region 2 with fail
  rw [← hwv]
  clear hwv hc0 hfr HBK HB0 hz
  go_wp2_with fail
  refine (HMO.out _ HBV.out).mono ?_
  rintro e w2 ⟨v, rfl, hown, hb2⟩
  have hkw := (hb2.block w.heap.size hlv).trans HKV.out
  have hcw := Joins.cell_of_block hkw 0
  have hfw := Joins.unfrozen_of_block hkw 0
  simp at hcw
  have HKW := Lib.hid hkw
  have HB2 := Lib.hid hb2
  have HOW := Lib.hid hown
  have hz2 := hb2.size
  clear hb2 hown hkw hcv hfv
  go_wp2_with fail
  refine leaves_cons (f := 42) (args := #[.pointer (some ⟨w.heap.size, 0, none⟩)]) (by simp) (by simp [go_sem]) ?_
  refine (catch_idle ⟨w.heap.size, 0, none⟩ _).mono ?_
  rintro e u' w'' ⟨rfl, rfl, rfl⟩
  have hkx := Joins.cell_of_block (Joins.block_setCell (i := 0) HKW.out (.int .i64 0)) 0
  simp at hkx
  have hown2 : OwnM (w2.setCell ⟨w.heap.size, 0, none⟩ (.int .i64 0)) w.heap.size v (begL L W W.length) :=
    Joins.ownsRow_le (((Turn.of_below (S := fun r => r = w.heap.size) (Below.refl _ _)).setCell rfl).own HOW.out (fun r e => by have := (HOW.out.lt r e).1; omega)) (by omega)
  have hbel2 : Below w.heap.size w (w2.setCell ⟨w.heap.size, 0, none⟩ (.int .i64 0)) := Below.setCell (HBV.out.trans (HB2.out.mono (by omega))) (Nat.le_refl _) _
  simp [Leaves, settle, results, Tryd.results25, go_sem, hkx]
  exact ⟨_, rfl, hown2, hbel2⟩

set_option maxRecDepth 1000000 in
set_option maxHeartbeats 4000000 in
theorem walk_word (L : List MapN) (hl1 : L.length ≤ 1048576) (W : List Int) (hl2 : W.length ≤ 1048576) (hC : chkC L [] = 0) (hB : w5B L W = false) (a1 : Option Addr) (c1 : Nat) (hc1 : a1 = none → c1 = 0) (a2 : Option Addr) (c2 : Nat) (w : World) (hr1 : InRowM w a1 L) (hr2 : InRow w a2 W)
    (E : Addr) (hE : w.cell? ⟨0, 0, none⟩ = some (.iface 85 (.pointer (some E)))) :
    Calls Tryd.prog 25 #[.slice a1 L.length c1, .slice a2 W.length c2] w fun e w' => e = .returned (.tuple #[.slice none 0 0, .int .i64 2]) ∧ Below w.heap.size w w' := by
  have hmf : ∀ (fn : Fn) (first cap : Array Value) (w : World), (Instr.makeFunc fn first cap).run Tryd.prog w = .ok (.func fn first cap) w := fun _ _ _ _ => rfl
  have HCK := fun wx (hb : Below w.heap.size w wx) => check_any a1 none c1 0 L [] hc1 (fun _ => rfl) hl1 (by simp) wx (hr1.below hb) (Or.inl rfl)
  rw [hC] at HCK
  have HCK := Lib.hid HCK
  have h0 := World.block_lt_of_cell? w _ hE
  have HMO := Lib.hid fun wx (hb : Below w.heap.size w wx) => mob_bad L W hl2 hB a1 c1 a2 c2 wx (hr2.below hb) E ((hb.cell (p := ⟨0, 0, none⟩) h0).trans hE)
  clear hr1 hr2 hC hB hE
  go_enter_defers Tryd.func25, Tryd.ntmps25
  go_wp2_with fail
  refine (HCK.out _ (by (repeat' (first | (with_reducible exact Below.refl _ _) | (with_reducible refine Below.alloc ?_ ?_ _) | (with_reducible refine Below.setCell ?_ ?_ _) | (with_reducible refine Below.drew ?_) | (with_reducible refine below_drewN ?_ _) | (with_reducible refine Below.trans ?_ (Below.mono (Hid.out (by assumption)) ?_)) | omega | (simp; done) | (simp; omega))))).mono ?_
  rintro e w1 ⟨rfl, hb⟩
  have hz := hb.size
  have HB := Lib.hid hb
  have hbk := (hb.block w.heap.size (by simp)).trans (halloc_at w _ _ rfl)
  have hc0 := Joins.cell_of_block hbk 0
  have hfr := Joins.unfrozen_of_block hbk 0
  simp at hc0 hz
  have HBK := Lib.hid hbk
  have HB0 : Hid (Below w.heap.size w w1) := Lib.hid (((Below.refl _ _).alloc (Nat.le_refl _) _).trans (hb.mono (by simp)))
  clear hb hbk HB
  obtain ⟨wv, hwv⟩ : ∃ wv, wv = w1.setCell ⟨w.heap.size, 0, none⟩ (.int .i64 0) := ⟨_, rfl⟩
  have hbv : Below w.heap.size w wv := by rw [hwv]; exact Below.setCell HB0.out (Nat.le_refl _) _
  have hkv : wv.heap[w.heap.size]? = some (.cells #[.int .i64 0] 2 (0, 0)) := by rw [hwv]; exact Joins.block_setCell HBK.out _
  have hcv := Joins.cell_of_block hkv 0
  have hfv := Joins.unfrozen_of_block hkv 0
  simp at hcv
  have hlv : w.heap.size < wv.heap.size := (Array.getElem?_eq_some_iff.1 hkv).1
  have HBV := Lib.hid hbv
  have HKV := Lib.hid hkv
  clear hbv hkv
  go_upto_region 2 with fail
  rw [← hwv]
  clear hwv hc0 hfr HBK HB0 hz
  go_wp2_with fail
  refine (HMO.out _ HBV.out).mono ?_
  rintro e w2 ⟨rfl, rfl⟩
  go_wp2_with fail
  refine leaves_cons (f := 42) (args := #[.pointer (some ⟨w.heap.size, 0, none⟩)]) (by simp) (by simp [go_sem]) ?_
  refine (catch_err ⟨w.heap.size, 0, none⟩ 0 E _ hcv hfv).mono ?_
  rintro e u' w'' ⟨rfl, rfl, rfl⟩
  have hkx := Joins.cell_of_block (Joins.block_setCell (i := 0) HKV.out (.int .i64 2)) 0
  simp at hkx
  have hbel2 := Below.setCell (p := ⟨w.heap.size, 0, none⟩) HBV.out (Nat.le_refl _) (.int .i64 2)
  simp [Leaves, settle, results, Tryd.results25, go_sem, hkx]
  exact hbel2

set_option maxRecDepth 1000000 in
set_option maxHeartbeats 4000000 in
theorem walk_bad (L : List MapN) (hl1 : L.length ≤ 1048576) (W : List Int) (hC : chkC L [] ≠ 0) (a1 : Option Addr) (c1 : Nat) (hc1 : a1 = none → c1 = 0) (a2 : Option Addr) (c2 : Nat) (w : World) (hr1 : InRowM w a1 L) :
    Calls Tryd.prog 25 #[.slice a1 L.length c1, .slice a2 W.length c2] w fun e w' => e = .returned (.tuple #[.slice none 0 0, .int .i64 (chkC L [])]) ∧ Below w.heap.size w w' := by
  have HCK := Lib.hid fun wx (hb : Below w.heap.size w wx) => check_any a1 none c1 0 L [] hc1 (fun _ => rfl) hl1 (by simp) wx (hr1.below hb) (Or.inl rfl)
  have hne : (chkC L [] != 0) = true := by simpa using hC
  clear hr1 hC
  generalize chkC L [] = C at *
  go_enter_defers Tryd.func25, Tryd.ntmps25
  go_wp2_with fail
  refine (HCK.out _ (by (repeat' (first | (with_reducible exact Below.refl _ _) | (with_reducible refine Below.alloc ?_ ?_ _) | (with_reducible refine Below.setCell ?_ ?_ _) | (with_reducible refine Below.drew ?_) | (with_reducible refine below_drewN ?_ _) | (with_reducible refine Below.trans ?_ (Below.mono (Hid.out (by assumption)) ?_)) | omega | (simp; done) | (simp; omega))))).mono ?_
  rintro e w1 ⟨rfl, hb⟩
  have hz := hb.size
  have HB := Lib.hid hb
  have hbk := (hb.block w.heap.size (by simp)).trans (halloc_at w _ _ rfl)
  have hc0 := Joins.cell_of_block hbk 0
  have hfr := Joins.unfrozen_of_block hbk 0
  simp at hc0 hz
  have HBK := Lib.hid hbk
  have HB0 : Hid (Below w.heap.size w w1) := Lib.hid (((Below.refl _ _).alloc (Nat.le_refl _) _).trans (hb.mono (by simp)))
  clear hb hbk HB
  obtain ⟨wv, hwv⟩ : ∃ wv, wv = w1.setCell ⟨w.heap.size, 0, none⟩ (.int .i64 C) := ⟨_, rfl⟩
  have hbv : Below w.heap.size w wv := by rw [hwv]; exact Below.setCell HB0.out (Nat.le_refl _) _
  have hkv : wv.heap[w.heap.size]? = some (.cells #[.int .i64 C] 2 (0, 0)) := by rw [hwv]; exact Joins.block_setCell HBK.out _
  have hcv := Joins.cell_of_block hkv 0
  have hfv := Joins.unfrozen_of_block hkv 0
  simp at hcv
  have hlv : w.heap.size < wv.heap.size := (Array.getElem?_eq_some_iff.1 hkv).1
  have HBV := Lib.hid hbv
  have HKV := Lib.hid hkv
  clear hbv hkv
  go_upto_region 2 with fail
  rw [← hwv]
  clear hwv hc0 hfr HBK HB0 hz
  go_wp2_with fail
  go_region
  all_goals (go_wp2_with fail)
  have hkx := Joins.cell_of_block (Joins.block_setCell (i := 0) HKV.out (.int .i64 C)) 0
  simp at hkx
  have hbel2 := Below.drew (Below.setCell (p := ⟨w.heap.size, 0, none⟩) HBV.out (Nat.le_refl _) (.int .i64 C))
  simp [bodyPostD, Leaves, results, Tryd.results25, go_sem, hkx]
  exact hbel2

end Go.Proofs.YtaabenkbcbpccaaDoor
