/- All that steps lead to from a first number, each once, in the order of a search; told without Go. -/
import Derived.Test.YtpphihjbgikjkaaBase
namespace Go.Proofs.Ytpphihjbgikjkaa
structure Obw (act : Nat → Nat → Nat) (m : Nat) (P : Nat → Prop) (c pos i : Nat) (E : List Nat) : Prop where
  first : c ∈ E
  nd : E.Nodup
  vl : ∀ x, x ∈ E → P x
  done : ∀ k, k < pos → ∀ j, j < m → act j (E.getD k 0) ∈ E
  part : ∀ j, j < i → act j (E.getD pos 0) ∈ E
  least : ∀ Q : Nat → Prop, Q c → (∀ x, Q x → P x → ∀ j, j < m → Q (act j x)) → ∀ x, x ∈ E → Q x
  pos : pos ≤ E.length

theorem Obw.start (act : Nat → Nat → Nat) (m : Nat) {P : Nat → Prop} {c : Nat} (hc : P c) : Obw act m P c 0 0 [c] :=
  ⟨by simp, by simp, fun x hx => by rw [List.mem_singleton.1 hx]; exact hc, fun k hk => by omega, fun j hj => by omega, fun Q h0 _ x hx => by rw [List.mem_singleton.1 hx]; exact h0, by simp⟩

theorem Obw.old {act : Nat → Nat → Nat} {m : Nat} {P : Nat → Prop} {c pos i : Nat} {E : List Nat} (h : Obw act m P c pos i E) (hy : act i (E.getD pos 0) ∈ E) : Obw act m P c pos (i + 1) E :=
  ⟨h.first, h.nd, h.vl, h.done, fun j hj => by
    by_cases e : j = i
    · rw [e]; exact hy
    · exact h.part j (by omega), h.least, h.pos⟩

theorem getD_app {E : List Nat} (k y : Nat) (hk : k < E.length) : (E ++ [y]).getD k 0 = E.getD k 0 := by
  rw [List.getD_eq_getElem?_getD, List.getElem?_append_left hk, ← List.getD_eq_getElem?_getD]

theorem getD_in {E : List Nat} (k : Nat) (hk : k < E.length) : E.getD k 0 ∈ E := by
  rw [List.getD_eq_getElem?_getD, List.getElem?_eq_getElem hk]
  exact List.getElem_mem hk

theorem Obw.new {act : Nat → Nat → Nat} {m : Nat} {P : Nat → Prop} {c pos i : Nat} {E : List Nat} (h : Obw act m P c pos i E) (hi : i < m) (hp : pos < E.length) (hv : P (act i (E.getD pos 0))) (hy : act i (E.getD pos 0) ∉ E) : Obw act m P c pos (i + 1) (E ++ [act i (E.getD pos 0)]) := by
  refine ⟨by simp [h.first], ?_, fun x hx => ?_, fun k hk j hj => ?_, fun j hj => ?_, fun Q h0 hc x hx => ?_, by simp; omega⟩
  · rw [List.nodup_append]
    exact ⟨h.nd, by simp, fun a ha b hb e => hy (by rw [List.mem_singleton] at hb; rw [← hb, ← e]; exact ha)⟩
  · rcases List.mem_append.1 hx with hx | hx
    · exact h.vl x hx
    · rw [List.mem_singleton.1 hx]; exact hv
  · rw [getD_app k _ (by omega)]
    exact List.mem_append_left _ (h.done k hk j hj)
  · rw [getD_app pos _ hp]
    by_cases e : j = i
    · rw [e]; simp
    · exact List.mem_append_left _ (h.part j (by omega))
  · rcases List.mem_append.1 hx with hx | hx
    · exact h.least Q h0 hc x hx
    · rw [List.mem_singleton.1 hx]
      exact hc _ (h.least Q h0 hc _ (getD_in pos hp)) (h.vl _ (getD_in pos hp)) i hi

theorem Obw.next {act : Nat → Nat → Nat} {m : Nat} {P : Nat → Prop} {c pos : Nat} {E : List Nat} (h : Obw act m P c pos m E) (hp : pos < E.length) : Obw act m P c (pos + 1) 0 E :=
  ⟨h.first, h.nd, h.vl, fun k hk j hj => by
    by_cases e : k = pos
    · rw [e]; exact h.part j hj
    · exact h.done k (by omega) j hj, fun j hj => by omega, h.least, by omega⟩

/-- All that the steps lead to, each once. -/
structure Orbt (act : Nat → Nat → Nat) (m : Nat) (P : Nat → Prop) (c : Nat) (E : List Nat) : Prop where
  first : c ∈ E
  nd : E.Nodup
  vl : ∀ x, x ∈ E → P x
  closed : ∀ x, x ∈ E → ∀ j, j < m → act j x ∈ E
  least : ∀ Q : Nat → Prop, Q c → (∀ x, Q x → P x → ∀ j, j < m → Q (act j x)) → ∀ x, x ∈ E → Q x

theorem Obw.fin {act : Nat → Nat → Nat} {m : Nat} {P : Nat → Prop} {c : Nat} {E : List Nat} (h : Obw act m P c E.length 0 E) : Orbt act m P c E :=
  ⟨h.first, h.nd, h.vl, fun x hx j hj => by
    obtain ⟨k, hk, rfl⟩ := List.getElem_of_mem hx
    have := h.done k hk j hj
    rw [List.getD_eq_getElem?_getD, List.getElem?_eq_getElem hk] at this
    exact this, h.least⟩

theorem nodup_bound : ∀ (B : Nat) (E : List Nat), E.Nodup → (∀ x, x ∈ E → x < B) → E.length ≤ B
  | 0, E, _, h => by
    cases E with
    | nil => simp
    | cons x E => exact absurd (h x (by simp)) (by omega)
  | B + 1, E, hn, h => by
    have h1 := nodup_bound B (E.filter fun x => x != B) (hn.filter _) (fun x hx => by
      rw [List.mem_filter] at hx
      have := h x hx.1
      have h2 : x ≠ B := by simpa using hx.2
      omega)
    have h2 : E.length ≤ (E.filter fun x => x != B).length + 1 := by
      have e : E.filter (fun x => x != B) = E.erase B := by
        rw [hn.erase_eq_filter]
      rw [e]
      by_cases hm : B ∈ E
      · rw [List.length_erase_of_mem hm]; omega
      · rw [List.erase_of_not_mem hm]; omega
    omega

theorem nodup_sub : ∀ (E F : List Nat), E.Nodup → (∀ x, x ∈ E → x ∈ F) → E.length ≤ F.length
  | [], F, _, _ => by simp
  | x :: E, F, hn, h => by
    rw [List.nodup_cons] at hn
    have h1 := nodup_sub E (F.erase x) hn.2 (fun y hy => by
      have hne : y ≠ x := fun e => hn.1 (by rw [← e]; exact hy)
      exact (List.mem_erase_of_ne hne).2 (h y (by simp [hy])))
    have hx := h x (by simp)
    rw [List.length_erase_of_mem hx] at h1
    have := List.length_pos_of_mem hx
    simp
    omega
end Go.Proofs.Ytpphihjbgikjkaa
