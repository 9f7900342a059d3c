/- The contracts of spec.l01Made and spec.MapOf. -/
import Derived.Test.YtadljicbegemlaaToS
import Derived.Test.YtadljicbegemlaaBase
namespace Go.Proofs.Ytadljicbegemlaa
open Go.RowKit

/-- The images of a list, 0 behind its end. -/
def tL (L : List Int) : Nat → Int := fun i => L.getD i 0

def tLk (L : List Int) (k : Nat) : Nat → Int := fun i => if i < k then L.getD i 0 else 0

theorem tLk_succ (L : List Int) (k : Nat) : upd (tLk L k) k (L.getD k 0) = tLk L (k + 1) := by
  funext i
  unfold upd tLk
  by_cases h : i = k
  · subst h; simp
  · by_cases h' : i < k
    · rw [if_neg h, if_pos h', if_pos (by omega)]
    · rw [if_neg h, if_neg h', if_neg (by omega)]

theorem tLk_all (L : List Int) : tLk L L.length = tL L := by
  funext i
  unfold tLk tL
  by_cases h : i < L.length
  · rw [if_pos h]
  · rw [if_neg h]; simp [List.getElem?_eq_none (Nat.le_of_not_lt h)]

theorem Rd.inRow {w : World} {B : Nat} {a : Option Addr} {L : List Int} (h : Rd w B a L) : InRow w a L := by
  rcases h.2 with h0 | ⟨g, ha, _, hg, hc⟩
  · exact Or.inl h0
  · exact Or.inr ⟨g, 0, ha, hg, fun i hi => by rw [Nat.zero_add]; exact (hc i hi).1⟩

set_option maxHeartbeats 1000000 in
theorem made_any (L : List Int) (h1 : 1 ≤ L.length) (h5 : L.length ≤ 5) (a : Option Addr) (c : Nat) (w : World) (h : InRow w a L) :
    Calls Try.prog 52 #[.slice a L.length c] w fun e w' => e = .returned (mv L.length (tL L)) ∧ Below w.heap.size w w' := by
  obtain ⟨b, off, rfl, hlt, hin⟩ := h.resolve_left (fun e => by rw [e] at h1; simp at h1)
  have HIN := Lib.hid hin
  have HT := Lib.hid (tLk_all L)
  clear h hin
  go_enter Try.func52, Try.ntmps52
  go_wp2_with fail
  go_loopw [4] (fun i wr => ∃ k : Nat, k ≤ L.length ∧ i = .int .i64 k ∧ Below w.heap.size w wr ∧ w.heap.size + 1 < wr.heap.size ∧
      wr.heap[w.heap.size]? = some (.cells (mcells 0 fun _ => 0) 26 (0, 0)) ∧ wr.heap[w.heap.size + 1]? = some (.cells (mcells L.length (tLk L k)) 26 (0, 0))) (fun i _ => L.length - (intOf i).toNat)
  case atStart =>
    refine ⟨0, by omega, rfl, ?_, by simp, ?_, ?_⟩
    · (repeat' (first | (with_reducible exact Below.refl _ _) | (with_reducible refine Below.alloc ?_ ?_ _) | (with_reducible refine Below.setCell ?_ ?_ _) | (with_reducible refine Below.drew ?_) | (with_reducible refine below_drewN ?_ _) | (with_reducible refine Below.trans ?_ (Below.mono (Hid.out (by assumption)) ?_)) | omega | (simp; done) | (simp; omega)))
    · ((try rw [hdrew]); simp only [halloc, Array.getElem?_push, Array.size_push]; (repeat (first | rw [if_pos (by omega)] | rw [if_neg (by omega)])); try rfl)
    · ((try rw [hdrew]); simp only [halloc, Array.getElem?_push, Array.size_push]; (repeat (first | rw [if_pos (by omega)] | rw [if_neg (by omega)])); try rfl)
  case round =>
    obtain ⟨k, hk, rfl, hb, hsz, b0, b1⟩ := hrel
    have HB := Lib.hid hb
    have B0 := Lib.hid b0
    have B1 := Lib.hid b1
    clear hb b0 b1
    by_cases hkl : k < L.length
    · have hkl' : (k : Int) < (L.length : Int) := by omega
      have k5' : (k : Int) < 5 := by omega
      have e1 := HIN.out k hkl
      rw [← HB.out.cell (p := ⟨b, off + k, none⟩) hlt] at e1
      have hok := blk_at B1.out k (by omega)
      have hfr := blk_free B1.out (1 + k)
      have hset := blk_set B1.out k (by omega) (L.getD k 0)
      rw [tLk_succ] at hset
      have HSET := Lib.hid hset
      clear hset
      generalize L.getD k 0 = X at *
      go_wp2_with fail
      go_roundw
      case rel =>
        refine ⟨k + 1, by omega, by go_num, HB.out.setCell (by simp) _, by simpa using hsz, ?_, HSET.out⟩
        rw [hset_ne _ _ _ _ (by simp)]; exact B0.out
      case measure => simp [intOf]; omega
    · obtain rfl : k = L.length := by omega
      obtain ⟨e0, e1, e2, e3, e4, e5⟩ := blk6 B1.out
      obtain ⟨r0, r1, r2, r3, r4, r5⟩ := blk6 B0.out
      have hfr := blk_free B0.out
      go_wp2_with fail
      refine bodyPost_ret (v := mv L.length (tLk L L.length)) (by simp [results, Try.results52, go_sem, r0, r1, r2, r3, r4, r5]) rfl ⟨by rw [HT.out], ?_⟩
      (repeat' (first | (with_reducible exact Below.refl _ _) | (with_reducible refine Below.alloc ?_ ?_ _) | (with_reducible refine Below.setCell ?_ ?_ _) | (with_reducible refine Below.drew ?_) | (with_reducible refine below_drewN ?_ _) | (with_reducible refine Below.trans ?_ (Below.mono (Hid.out (by assumption)) ?_)) | omega | (simp; done) | (simp; omega)))

def mapC (L : List Int) : Int := if isB L.length (tL L) = true then 0 else 2

def mapV (L : List Int) : Value := .tuple #[mv (resP (mapC L) L.length) (resT (mapC L) (tL L)), .int .i64 (mapC L)]

theorem mapV_0 {L : List Int} (h : isB L.length (tL L) = true) : mapV L = .tuple #[mv L.length (tL L), .int .i64 0] := by
  have e : mapC L = 0 := by unfold mapC; rw [if_pos h]
  unfold mapV; rw [e]; rfl

theorem mapV_2 {L : List Int} (h : isB L.length (tL L) = false) : mapV L = .tuple #[mv 0 fun _ => 0, .int .i64 2] := by
  have e : mapC L = 2 := by unfold mapC; rw [if_neg (by rw [h]; exact Bool.false_ne_true)]
  unfold mapV; rw [e]; rfl

theorem isB_list {L : List Int} (h1 : 1 ≤ L.length) (h5 : L.length ≤ 5) (h : ∀ j, j < L.length → 0 ≤ L.getD j 0 ∧ L.getD j 0 ≤ (L.length : Int) - 1) : isB L.length (tL L) = true := by
  rw [isB_true]
  refine ⟨by omega, by omega, fun i _ => ⟨fun c => h i (by omega), fun c => ?_⟩⟩
  unfold tL
  simp [List.getElem?_eq_none (show L.length ≤ i by omega)]



end Go.Proofs.Ytadljicbegemlaa
