/- The contracts of spec.l01Made and spec.MapOf. -/
import Derived.Test.YtaabenkbcbpccaaToS
import Derived.Test.YtaabenkbcbpccaaBase
namespace Go.Proofs.Ytaabenkbcbpccaa
open Go.RowKit

/-- The images of a list, 0 behind its end. -/
def tL (L : List Int) : Nat → Int := fun i => L.getD i 0

def tLk (L : List Int) (k : Nat) : Nat → Int := fun i => if i < k then L.getD i 0 else 0

theorem tLk_succ (L : List Int) (k : Nat) : upd (tLk L k) k (L.getD k 0) = tLk L (k + 1) := by
  funext i
  unfold upd tLk
  by_cases h : i = k
  · subst h; simp
  · by_cases h' : i < k
    · rw [if_neg h, if_pos h', if_pos (by omega)]
    · rw [if_neg h, if_neg h', if_neg (by omega)]

theorem tLk_all (L : List Int) : tLk L L.length = tL L := by
  funext i
  unfold tLk tL
  by_cases h : i < L.length
  · rw [if_pos h]
  · rw [if_neg h]; simp [List.getElem?_eq_none (Nat.le_of_not_lt h)]

theorem Rd.inRow {w : World} {B : Nat} {a : Option Addr} {L : List Int} (h : Rd w B a L) : InRow w a L := by
  rcases h.2 with h0 | ⟨g, ha, _, hg, hc⟩
  · exact Or.inl h0
  · exact Or.inr ⟨g, 0, ha, hg, fun i hi => by rw [Nat.zero_add]; exact (hc i hi).1⟩



def mapC (L : List Int) : Int := if isB L.length (tL L) = true then 0 else 2

def mapV (L : List Int) : Value := .tuple #[mv (resP (mapC L) L.length) (resT (mapC L) (tL L)), .int .i64 (mapC L)]

theorem mapV_0 {L : List Int} (h : isB L.length (tL L) = true) : mapV L = .tuple #[mv L.length (tL L), .int .i64 0] := by
  have e : mapC L = 0 := by unfold mapC; rw [if_pos h]
  unfold mapV; rw [e]; rfl

theorem mapV_2 {L : List Int} (h : isB L.length (tL L) = false) : mapV L = .tuple #[mv 0 fun _ => 0, .int .i64 2] := by
  have e : mapC L = 2 := by unfold mapC; rw [if_neg (by rw [h]; exact Bool.false_ne_true)]
  unfold mapV; rw [e]; rfl

theorem isB_list {L : List Int} (h1 : 1 ≤ L.length) (h5 : L.length ≤ 5) (h : ∀ j, j < L.length → 0 ≤ L.getD j 0 ∧ L.getD j 0 ≤ (L.length : Int) - 1) : isB L.length (tL L) = true := by
  rw [isB_true]
  refine ⟨by omega, by omega, fun i _ => ⟨fun c => h i (by omega), fun c => ?_⟩⟩
  unfold tL
  simp [List.getElem?_eq_none (show L.length ≤ i by omega)]



end Go.Proofs.Ytaabenkbcbpccaa
