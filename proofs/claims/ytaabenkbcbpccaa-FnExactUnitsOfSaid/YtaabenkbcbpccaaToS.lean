/- The contract of laws.toInt64S: a copy of a list that came in. -/
import Derived.Test.YtaabenkbcbpccaaSl
namespace Go.Proofs.Ytaabenkbcbpccaa
open Go.RowKit

/-- A list that came in: empty, or its cells lie at an address. -/
def InRow (w : World) (a : Option Addr) (L : List Int) : Prop :=
  L = [] ∨ ∃ b off, a = some ⟨b, off, none⟩ ∧ b < w.heap.size ∧ ∀ i, i < L.length → w.cell? ⟨b, off + i, none⟩ = some (.int .i64 (L.getD i 0))

theorem InRow.below {w w' : World} {a : Option Addr} {L : List Int} (h : InRow w a L) (hb : Below w.heap.size w w') : InRow w' a L := by
  rcases h with h0 | ⟨b, off, ha, hlt, hc⟩
  · exact Or.inl h0
  · exact Or.inr ⟨b, off, ha, by have := hb.size; omega, fun i hi => by rw [hb.cell (p := ⟨b, off + i, none⟩) hlt]; exact hc i hi⟩

/-- The call returns a copy of its own. -/
def RetCopy (L : List Int) (w : World) (e : Ending) (w' : World) : Prop :=
  ∃ a, e = .returned (.slice a L.length L.length) ∧ Rd w' w.heap.size a L ∧ Below w.heap.size w w' ∧ a = some ⟨w.heap.size, 0, none⟩ ∧ w.heap.size < w'.heap.size

set_option maxHeartbeats 1000000 in
theorem toS_any (L : List Int) (hn : L.length ≤ 1048576) (a : Option Addr) (c : Nat) (w : World) (h : InRow w a L) :
    Calls Try.prog 13 #[.slice a L.length c] w (RetCopy L w) := by
  obtain ⟨i0, hi, hz0, hz1, hz2⟩ := info_parts info_int
  have HN : Hid (InRow w a L) := Lib.hid h
  clear h
  go_enter Try.func13, Try.ntmps13
  go_wp2_with (at_make; refine wpList_make_full _ rfl _ _ 30 rfl w.heap.size 2 i0 (.int .i64 0) 1 Try.underlying30 hi hz0 hz1 .i64 .i64 (L.length : Int) (L.length : Int) L.length rfl rfl rfl rfl ?c1 ?c2 ?c3 ?_)
  case c1 => rw [hz2]; omega
  case c2 => unfold maxLen; omega
  case c3 => exact Nat.le_refl _
  intro w1 hown hgrow
  have hcell : Hid (∀ j, j < L.length → (∃ v, w1.cell? ⟨w.heap.size, j, none⟩ = some v) ∧ w1.frozen? ⟨w.heap.size, j, none⟩ = false) := Lib.hid fun j hj => by
    refine ⟨?_, hown.frozenAt j⟩
    have h1 := hown.cellAt j (by omega)
    have h2 := hown.1
    rw [List.getElem?_eq_getElem (by omega)] at h1
    exact ⟨_, h1⟩
  have Hb : Hid (Below w.heap.size w w1) := Lib.hid ((Below.refl _ _).grown hgrow (Nat.le_refl _) (fun k hk => by cases hk))
  have hg : w.heap.size < w1.heap.size := by
    rcases hown.2 with ⟨h', _⟩ | ⟨g', cap', cur, h', _, hg, _⟩
    · simp at h'
    · simp only [Value.slice.injEq, Option.some.injEq, Addr.mk.injEq, and_true, true_and] at h'
      obtain ⟨rfl, rfl⟩ := h'
      exact (Array.getElem?_eq_some_iff.1 hg).1
  clear hown hgrow
  go_wp2_with fail
  go_loopw [4] (fun i wr => ∃ k : Nat, k ≤ L.length ∧ i = .int .i64 k ∧ Below w.heap.size w wr ∧ w.heap.size < wr.heap.size ∧
      (∀ j, j < L.length → (j < k → wr.cell? ⟨w.heap.size, j, none⟩ = some (.int .i64 (L.getD j 0))) ∧ (∃ v, wr.cell? ⟨w.heap.size, j, none⟩ = some v) ∧ wr.frozen? ⟨w.heap.size, j, none⟩ = false)) (fun i _ => L.length - (intOf i).toNat)
  case atStart => exact ⟨0, by omega, rfl, Hb.out, hg, fun j hj => ⟨fun c => by omega, (hcell.out j hj).1, (hcell.out j hj).2⟩⟩
  case round =>
    obtain ⟨k, hk, rfl, hb, hsz, hcs⟩ := hrel
    have HB := Lib.hid hb
    have HCS := Lib.hid hcs
    clear hb hcs hcell Hb
    by_cases hkl : k < L.length
    · have hkl' : (k : Int) < (L.length : Int) := by omega
      obtain ⟨b, off, rfl, hlt, hin⟩ := HN.out.resolve_left (fun e => by rw [e] at hkl; exact absurd hkl (by simp))
      have e1 := hin k hkl
      rw [← HB.out.cell (p := ⟨b, off + k, none⟩) hlt] at e1
      obtain ⟨v, e2⟩ := (HCS.out k hkl).2.1
      have e3 := (HCS.out k hkl).2.2
      have HX : Hid (∃ X, X = L.getD k 0) := Lib.hid ⟨_, rfl⟩
      generalize hX : L.getD k 0 = X at *
      have HXX := Lib.hid hX
      clear hX hin HX
      go_wp2_with fail
      go_roundw
      case rel =>
        refine ⟨k + 1, by omega, by go_num, HB.out.setCell (Nat.le_refl _) _, by simpa using hsz, fun j hj => ?_⟩
        have hj' := HCS.out j hj
        by_cases hjk : j = k
        · subst hjk
          have e4 := World.cell?_setCell_same wr ⟨w.heap.size, j, none⟩ (.int .i64 X) e2
          exact ⟨fun _ => by rw [e4, HXX.out], ⟨_, e4⟩, by rw [World.frozen?_setCell]; exact hj'.2.2⟩
        · rw [World.cell?_setCell_other _ _ _ _ (by intro e; injection e with _ e; exact hjk e.symm), World.frozen?_setCell]
          exact ⟨fun c => hj'.1 (by omega), hj'.2⟩
      case measure => simp [intOf]; omega
    · obtain rfl : k = L.length := by omega
      go_wp2_with fail
      go_ret
      exact ⟨_, rfl, ⟨by omega, Or.inr ⟨w.heap.size, rfl, Nat.le_refl _, hsz, fun i hi => ⟨(HCS.out i hi).1 hi, (HCS.out i hi).2.2⟩⟩⟩, HB.out, rfl, hsz⟩

end Go.Proofs.Ytaabenkbcbpccaa
