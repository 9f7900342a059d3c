/- spec.l01Own at any slice of its own, nil too. -/
import Derived.Test.YtiakoplfknkhmaaSaq
namespace Go.Proofs.Ytiakoplfknkhmaa
open Go Go.RowKit Go.Maps

set_option maxHeartbeats 1000000 in
theorem own_nil (w : World) : Calls Try.prog 71 #[.slice none 0 0] w (RetOwn w.heap.size [] w) := by
  go_enter Try.func71, Try.ntmps71
  go_wp2_with fail
  go_ret
  exact ⟨_, rfl, own_empty w _ (Nat.le_refl _), (Below.refl _ _).alloc (Nat.le_refl _) _⟩

theorem own_cells7 {w : World} {B g n cap : Nat} {L : List Int} (h : Own w B (.slice (some ⟨g, 0, none⟩) n cap) L) (hL : L.length ≤ 2000000) : g < w.heap.size ∧ ∀ i, i < L.length → w.cell? ⟨g, 0 + i, none⟩ = some (.int .i64 (L.getD i 0)) := by
  obtain ⟨a, cap2, e, hr⟩ := own_rd h hL
  injection e with e _ _
  refine ⟨(h.lt g rfl).2, fun i hi => ?_⟩
  obtain ⟨g2, ea, _, _, hc⟩ := hr.2.resolve_left (fun e0 => by rw [e0] at hi; simp at hi)
  rw [ea] at e
  injection e with e
  injection e with e
  subst e
  rw [Nat.zero_add]
  exact (hc i hi).1

theorem own_own {w : World} {B : Nat} {v : Value} {L : List Int} (h : Own w B v L) (hn : L.length ≤ 2000000) : Calls Try.prog 71 #[v] w (RetOwn w.heap.size L w) := by
  obtain ⟨a, cap, rfl, hr⟩ := own_rd h hn
  rcases own_shape h with ⟨e, hl⟩ | ⟨g, c2, e, _, _⟩
  · injection e with e1 e2 e3
    subst e1
    have : L = [] := List.length_eq_zero_iff.1 e2
    subst this
    subst e3
    exact own_nil w
  · injection e with e1 e2 e3
    subst e1
    exact own_any g 0 L.length cap L rfl hn w (own_cells7 h hn).1 (own_cells7 h hn).2

end Go.Proofs.Ytiakoplfknkhmaa
