/- The map from elements to words that a search of impl keeps, told as a datum: each value stands for itself. -/
import Derived.Test.YtiogagaclhjdaaaKey
import Derived.Test.YtiogagaclhjdaaaClo
import Derived.Maps.OwnSet
import Derived.Maps.OwnOps
namespace Go.Proofs.Ytiogagaclhjdaaa
open Go.RowKit Go.Maps

/-- A value read as itself. -/
def valR (v : Value) : Option (DataW Value × List MemPlace) := some (.held v, [])

/-- The datum of the map that holds these elements with these values. -/
def wD (p : Int) : List (Nat × Value) → DataW Value
  | [] => .map []
  | (c, u) :: l => (wD p l).put (kyL p (dcd c)) (.held u)

theorem ky_num {p : Int} {a b : Nat} (ha : vld p a) (hb : vld p b) (h : a ≠ b) : kyL p (dcd a) ≠ kyL p (dcd b) := fun e =>
  h (dcd_inj ha.1 hb.1 (kyL_inj ha.2 hb.2 e))

theorem wD_tidy {p : Int} : ∀ {l : List (Nat × Value)}, (∀ x ∈ l, vld p x.1) → Tidy (wD p l)
  | [], _ => tidy_empty
  | (c, u) :: l, h => (wD_tidy fun x hx => h x (List.mem_cons_of_mem _ hx)).put (kyL_key (h (c, u) (by simp)).2) _

theorem wD_has {p : Int} {c : Nat} (hc : vld p c) : ∀ {l : List (Nat × Value)}, (∀ x ∈ l, vld p x.1) → Maps.has (wD p l) (kyL p (dcd c)) = decide (c ∈ l.map Prod.fst)
  | [], _ => by simp [wD]; rfl
  | (a, u) :: l, h => by
    show Maps.has ((wD p l).put _ _) _ = _
    have hl := fun x hx => h x (List.mem_cons_of_mem (a, u) hx)
    have ha := h (a, u) (by simp)
    by_cases e : c = a
    · subst e
      rw [has_put_same (wD_tidy hl).isMap (kyL_key ha.2)]
      simp
    · rw [has_put_other (ky_num hc ha e), wD_has hc hl]
      simp [e]

theorem wD_at {p : Int} {c : Nat} {u : Value} (hc : vld p c) (z : DataW Value) : ∀ {l : List (Nat × Value)}, (∀ x ∈ l, vld p x.1) → (l.map Prod.fst).Nodup → (c, u) ∈ l → (wD p l).atKey (kyL p (dcd c)) z = .held u
  | [], _, _, hm => by cases hm
  | (a, v) :: l, h, hn, hm => by
    show ((wD p l).put _ _).atKey _ _ = _
    have hl := fun x hx => h x (List.mem_cons_of_mem (a, v) hx)
    have ha := h (a, v) (by simp)
    rw [List.map_cons, List.nodup_cons] at hn
    rcases List.mem_cons.1 hm with e | hm
    · injection e with e1 e2
      subst e1 e2
      rw [atKey_put_same (wD_tidy hl).isMap (kyL_key ha.2)]
    · have e : c ≠ a := fun e => hn.1 (by rw [← e]; exact List.mem_map.2 ⟨(c, u), hm, rfl⟩)
      rw [atKey_put_other (ky_num hc ha e)]
      exact wD_at hc z hl hn.2 hm

end Go.Proofs.Ytiogagaclhjdaaa
