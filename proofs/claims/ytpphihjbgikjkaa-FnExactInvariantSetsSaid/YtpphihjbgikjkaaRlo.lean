/- Lists of lists of the program's own as results. -/
import Derived.Test.YtpphihjbgikjkaaRdt
namespace Go.Proofs.Ytpphihjbgikjkaa
open Go Go.RowKit

theorem RdT.low {w : World} {B B2 C : Nat} {a : Option Addr} {LL : List (List Int)} (h : RdT w B2 C a LL) (hB : B ≤ B2) : RdT w B C a LL := by
  refine ⟨h.len, h.rlen, h.top, ?_⟩
  rcases h.rows with h0 | ⟨g, gr, ro, h1, h2, h3, h4, h5⟩
  · exact Or.inl h0
  · refine Or.inr ⟨g, gr, ro, h1, by omega, h3, h4, fun j hj => ?_⟩
    obtain ⟨⟨ar, c, q1, q2⟩, q3, q4⟩ := h5 j hj
    refine ⟨⟨ar, c, q1, ?_⟩, q3, q4⟩
    rcases q2 with q2 | ⟨q2, q5, q6, q7⟩
    · exact Or.inl q2
    · exact Or.inr ⟨q2, q5, by omega, q7⟩

theorem retT_of {w w' : World} {B B2 n : Nat} {a : Option Addr} {cap : Nat} {LL : List (List Int)} {C : Int} (hl : LL.length = n) (hr : RdT w' B2 w'.heap.size a LL) (hB : B ≤ B2) (hm : mkF LL 1 ≤ 20000000) (hb : Below w.heap.size w w') : RetT B LL C w (.returned (.tuple #[.slice a n cap, .int .i64 C])) w' := by
  subst hl
  exact ⟨a, cap, rfl, hr.low hB, hm, hb⟩

theorem retT_nil {w w' : World} {B : Nat} (hb : Below w.heap.size w w') (C : Int) : RetT B [] C w (.returned (.tuple #[.slice none 0 0, .int .i64 C])) w' :=
  ⟨none, 0, rfl, ⟨by simp, fun j hj => by simp at hj, Nat.le_refl _, Or.inl rfl⟩, by simp [mkF], hb⟩

theorem mkF_le (m : Nat) : ∀ (LL : List (List Int)) (k : Int), (∀ X ∈ LL, X.length ≤ m) → mkF LL k ≤ k + (m : Int) * (LL.length : Int)
  | [], k, _ => by simp [mkF]
  | X :: r, k, h => by
    have h1 := mkF_le m r (k + (X.length : Int)) (fun Y hY => h Y (List.mem_cons_of_mem _ hY))
    have h2 := h X (List.mem_cons_self)
    show mkF r (k + (X.length : Int)) ≤ _
    rw [List.length_cons, show ((r.length + 1 : Nat) : Int) = (r.length : Int) + 1 by omega, Int.mul_add, Int.mul_one]
    omega
theorem getD_mem {LL : List (List Int)} {X : List Int} (h : X ∈ LL) : ∃ j, j < LL.length ∧ LL.getD j [] = X := by
  obtain ⟨j, hj, e⟩ := List.getElem_of_mem h
  exact ⟨j, hj, by rw [List.getD_eq_getElem?_getD, List.getElem?_eq_getElem hj]; exact e⟩
end Go.Proofs.Ytpphihjbgikjkaa
