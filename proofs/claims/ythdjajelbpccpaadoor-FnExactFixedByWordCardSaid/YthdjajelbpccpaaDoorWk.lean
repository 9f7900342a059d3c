/- The contracts of impl.mapOfWalk and impl.LeadPoint. -/
import Derived.Test.YthdjajelbpccpaaDoorWw
import Derived.Test.YthdjajelbpccpaaDoorSl
namespace Go.Proofs.YthdjajelbpccpaaDoor
open Go Go.RowKit

/-- The package's error lies in its variable. -/
def Er (w : World) : Prop := ∃ E : Addr, w.cell? ⟨0, 0, none⟩ = some (.iface 100 (.pointer (some E)))

theorem Er.below {w w' : World} {B : Nat} (h : Er w) (hb : Below B w w') (hB : w.heap.size ≤ B) : Er w' := by
  obtain ⟨E, hE⟩ := h
  have h0 := World.block_lt_of_cell? w _ hE
  exact ⟨E, ((hb.mono hB).cell (p := ⟨0, 0, none⟩) h0).trans hE⟩

theorem Er.bel {w w' : World} (h : Er w) (hb : Below w.heap.size w w') : Er w' := h.below hb (Nat.le_refl _)

/-- impl.walkWord where it returns an error. -/
theorem walk_err (L : List MapN) (hl1 : L.length ≤ 1048576) (W : List Int) (hl2 : W.length ≤ 1048576) (hC : w5C L W ≠ 0) (a1 : Option Addr) (c1 : Nat) (hc1 : a1 = none → c1 = 0) (a2 : Option Addr) (c2 : Nat) (w : World) (hr1 : InRowM w a1 L) (hr2 : InRow w a2 W) (hE : Er w) :
    Calls Tryd.prog 31 #[.slice a1 L.length c1, .slice a2 W.length c2] w fun e w' => e = .returned (.tuple #[.slice none 0 0, .int .i64 (w5C L W)]) ∧ Below w.heap.size w w' := by
  by_cases h0 : chkC L [] = 0
  · have hB : w5B L W = false := by
      rw [Bool.eq_false_iff]
      intro h
      apply hC
      unfold w5C
      rw [if_pos h0, if_pos h]
    have hv : w5C L W = 2 := by unfold w5C; rw [if_pos h0, hB]; rfl
    rw [hv]
    obtain ⟨E, hE⟩ := hE
    exact walk_word L hl1 W hl2 h0 hB a1 c1 hc1 a2 c2 w hr1 hr2 E hE
  · have hv : w5C L W = chkC L [] := by unfold w5C; rw [if_neg h0]
    rw [hv]
    exact walk_bad L hl1 W h0 a1 c1 hc1 a2 c2 w hr1

def mow5V (L : List MapN) (W : List Int) : Value := .tuple #[mv (resP (w5C L W) (fst0 L)) (resT (w5C L W) (wrdK L W W.length)), .int .i64 (w5C L W)]

set_option maxRecDepth 1000000 in
set_option maxHeartbeats 4000000 in
theorem imow5_any (L : List MapN) (hl1 : L.length ≤ 1048576) (W : List Int) (hl2 : W.length ≤ 1048576) (a1 : Option Addr) (c1 : Nat) (hc1 : a1 = none → c1 = 0) (a2 : Option Addr) (c2 : Nat) (w : World) (hr1 : InRowM w a1 L) (hr2 : InRow w a2 W) (hE : Er w) :
    Calls Tryd.prog 35 #[.slice a1 L.length c1, .slice a2 W.length c2] w fun e w' => e = .returned (mow5V L W) ∧ Below w.heap.size w w' := by
  by_cases hC : w5C L W = 0
  · have hV : mow5V L W = .tuple #[mv (fst0 L) (wrdK L W W.length), .int .i64 0] := by unfold mow5V resP resT; rw [hC]; rfl
    rw [hV]
    have HW := Lib.hid fun wx (hb : Below w.heap.size w wx) => walk_good L hl1 W hl2 hC a1 c1 hc1 a2 c2 wx (hr1.below hb) (hr2.below hb)
    have hw40 := (w5C_zero hC).2.2
    clear hr1 hr2 hE hC hV
    go_enter Tryd.func35, Tryd.ntmps35
    go_wp2_with fail
    refine (HW.out _ (by (repeat' (first | (with_reducible exact Below.refl _ _) | (with_reducible refine Below.alloc ?_ ?_ _) | (with_reducible refine Below.setCell ?_ ?_ _) | (with_reducible refine Below.drew ?_) | (with_reducible refine below_drewN ?_ _) | (with_reducible refine Below.trans ?_ (Below.mono (Hid.out (by assumption)) ?_)) | omega | (simp; done) | (simp; omega))))).mono ?_
    rintro e w1 ⟨v, rfl, hown, hb⟩
    obtain ⟨a, cap, rfl, hrd⟩ := ownM_rd hown (by rw [begL_len]; omega)
    obtain ⟨g, rfl, hat⟩ := hrd.at6 W.length (by rw [begL_len]; omega)
    rw [begL_at L W W.length W.length (by omega)] at hat
    rw [begL_len]
    obtain ⟨N, hN⟩ : ∃ N, N = W.length + 1 := ⟨_, rfl⟩
    have hsub : IntKind.i64.wrap ((N : Int) - 1) = (W.length : Int) := by rw [show (N : Int) - 1 = (W.length : Int) by omega]; exact IntWalk.i64_in _ (by omega)
    have hnn : (0 : Int) ≤ (W.length : Int) := by omega
    have hlt : (W.length : Int) < (N : Int) := by omega
    have hlt2 : W.length < N := by omega
    rw [← hN]
    clear hN
    obtain ⟨x0, x1, x2, x3, x4, x5⟩ := hat
    have hbk := (hb.block w.heap.size (by simp)).trans (halloc_at w _ _ rfl)
    have HB : Hid (Below w.heap.size w w1) := Lib.hid (((Below.refl _ _).alloc (Nat.le_refl _) _).trans (hb.mono (by simp)))
    obtain ⟨r0, r1, r2, r3, r4, r5⟩ := blk6 (p := 0) (t := fun _ => 0) hbk
    have hfr := blk_free hbk
    clear hown hrd hbk hb HW
    simp only []
    go_wp2_with fail
    refine bodyPost_ret (v := .tuple #[mv (fst0 L) (wrdK L W W.length), .int .i64 0]) (by simp [results, Tryd.results35, go_sem, r0, r1, r2, r3, r4, r5]) rfl ⟨rfl, ?_⟩
    (repeat' (first | (with_reducible exact Below.refl _ _) | (with_reducible refine Below.alloc ?_ ?_ _) | (with_reducible refine Below.setCell ?_ ?_ _) | (with_reducible refine Below.drew ?_) | (with_reducible refine below_drewN ?_ _) | (with_reducible refine Below.trans ?_ (Below.mono (Hid.out (by assumption)) ?_)) | omega | (simp; done) | (simp; omega)))
  · have hV : mow5V L W = .tuple #[mv 0 fun _ => 0, .int .i64 (w5C L W)] := by unfold mow5V resP resT; rw [if_neg hC]; simp only [if_neg hC]
    rw [hV]
    have HW := Lib.hid fun wx (hb : Below w.heap.size w wx) => walk_err L hl1 W hl2 hC a1 c1 hc1 a2 c2 wx (hr1.below hb) (hr2.below hb) (hE.bel hb)
    have hne : (w5C L W != 0) = true := by simpa using hC
    clear hr1 hr2 hE hC hV
    generalize w5C L W = C at *
    go_enter Tryd.func35, Tryd.ntmps35
    go_wp2_with fail
    refine (HW.out _ (by (repeat' (first | (with_reducible exact Below.refl _ _) | (with_reducible refine Below.alloc ?_ ?_ _) | (with_reducible refine Below.setCell ?_ ?_ _) | (with_reducible refine Below.drew ?_) | (with_reducible refine below_drewN ?_ _) | (with_reducible refine Below.trans ?_ (Below.mono (Hid.out (by assumption)) ?_)) | omega | (simp; done) | (simp; omega))))).mono ?_
    rintro e w1 ⟨rfl, hb⟩
    have hbk := (hb.block w.heap.size (by simp)).trans (halloc_at w _ _ rfl)
    have HB : Hid (Below w.heap.size w w1) := Lib.hid (((Below.refl _ _).alloc (Nat.le_refl _) _).trans (hb.mono (by simp)))
    obtain ⟨r0, r1, r2, r3, r4, r5⟩ := blk6 (p := 0) (t := fun _ => 0) hbk
    have hfr := blk_free hbk
    clear hbk hb HW
    go_wp2_with fail
    refine bodyPost_ret (v := .tuple #[mv 0 fun _ => 0, .int .i64 C]) (by simp [results, Tryd.results35, go_sem, r0, r1, r2, r3, r4, r5]) rfl ⟨rfl, ?_⟩
    (repeat' (first | (with_reducible exact Below.refl _ _) | (with_reducible refine Below.alloc ?_ ?_ _) | (with_reducible refine Below.setCell ?_ ?_ _) | (with_reducible refine Below.drew ?_) | (with_reducible refine below_drewN ?_ _) | (with_reducible refine Below.trans ?_ (Below.mono (Hid.out (by assumption)) ?_)) | omega | (simp; done) | (simp; omega)))

end Go.Proofs.YthdjajelbpccpaaDoor
