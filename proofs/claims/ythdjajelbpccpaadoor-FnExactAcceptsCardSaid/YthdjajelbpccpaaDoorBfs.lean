/- A search in the order of words, told without Go: the places that are met, each with the first word that leads to it. -/
import Derived.WalkKit
namespace Go.Proofs.YthdjajelbpccpaaDoor

section
variable {α β : Type}

/-- Q goes on in R. -/
def Goes (Q R : List (α × List Int)) : Prop := ∃ T, R = Q ++ T

theorem Goes.refl (Q : List (α × List Int)) : Goes Q Q := ⟨[], by simp⟩

theorem Goes.trans {Q R S : List (α × List Int)} (h : Goes Q R) (h2 : Goes R S) : Goes Q S := by
  obtain ⟨T, rfl⟩ := h
  obtain ⟨U, rfl⟩ := h2
  exact ⟨T ++ U, by simp⟩

theorem Goes.at {Q R : List (α × List Int)} (h : Goes Q R) {i : Nat} {y : α × List Int} (hy : Q[i]? = some y) : R[i]? = some y := by
  obtain ⟨T, rfl⟩ := h
  rw [List.getElem?_append_left (List.getElem?_eq_some_iff.1 hy).1]; exact hy

theorem Goes.len {Q R : List (α × List Int)} (h : Goes Q R) : Q.length ≤ R.length := by
  obtain ⟨T, rfl⟩ := h; simp

/-- What holds of all that is met. -/
structure Bok (P : α → Prop) (n : Nat) (Q : List (α × List Int)) : Prop where
  all : ∀ y ∈ Q, P y.1
  wl : ∀ y ∈ Q, y.2.length ≤ n
  nd : (Q.map Prod.fst).Nodup

/-- Places told by numbers below N are at most N. -/
theorem Bok.len {P : α → Prop} {n N : Nat} {Q : List (α × List Int)} (h : Bok P n Q) (c : α → Nat) (hc : ∀ x, P x → c x < N) (hi : ∀ x y, P x → P y → c x = c y → x = y) : Q.length ≤ N := by
  have h1 : ((Q.map Prod.fst).map c).Nodup := by
    have hnd := h.nd
    have hall : ∀ x ∈ Q.map Prod.fst, P x := fun x hx => by
      obtain ⟨y, hy, rfl⟩ := List.mem_map.1 hx
      exact h.all y hy
    generalize Q.map Prod.fst = X at *
    induction X with
    | nil => simp
    | cons a X ih =>
      rw [List.nodup_cons] at hnd
      rw [List.map_cons, List.nodup_cons]
      refine ⟨fun hm => ?_, ih hnd.2 (fun x hx => hall x (List.mem_cons_of_mem _ hx))⟩
      obtain ⟨b, hb, e⟩ := List.mem_map.1 hm
      have := hi b a (hall b (List.mem_cons_of_mem _ hb)) (hall a List.mem_cons_self) e
      subst this
      exact hnd.1 hb
  have h2 := List.Nodup.length_le_of_subset (l₂ := List.range N) h1 (fun x hx => by
    obtain ⟨z, hz, rfl⟩ := List.mem_map.1 hx
    obtain ⟨y, hy, rfl⟩ := List.mem_map.1 hz
    exact List.mem_range.2 (hc _ (h.all y hy)))
  simpa using h2

def pmap (f : α → β) (Q : List (α × List Int)) : List (β × List Int) := Q.map fun y => (f y.1, y.2)

/-- The word of the first place that is accepted. -/
def bfirst (acc : α → Bool) (Q : List (α × List Int)) : Option (List Int) := (Q.find? fun y => acc y.1).map Prod.snd

theorem bfirst_at {acc : α → Bool} {y : α × List Int} : ∀ {Q : List (α × List Int)} {i : Nat}, Q[i]? = some y → acc y.1 = true → (∀ (j : Nat) (z : α × List Int), j < i → Q[j]? = some z → acc z.1 = false) → bfirst acc Q = some y.2
  | [], i, h, _, _ => by simp at h
  | x :: Q, 0, h, ha, _ => by
    simp at h; subst h
    unfold bfirst
    rw [List.find?_cons_of_pos (by show acc x.1 = true; exact ha)]; rfl
  | x :: Q, i + 1, h, ha, hb => by
    have hx := hb 0 x (by omega) rfl
    have ih := bfirst_at (Q := Q) (i := i) (by simpa using h) ha (fun j (z : α × List Int) hj hz => hb (j + 1) z (by omega) (by simpa using hz))
    unfold bfirst at *
    rw [List.find?_cons_of_neg (by rw [hx]; exact Bool.false_ne_true)]
    exact ih

theorem bfirst_none {acc : α → Bool} {Q : List (α × List Int)} (h : ∀ (j : Nat) (z : α × List Int), Q[j]? = some z → acc z.1 = false) : bfirst acc Q = none := by
  unfold bfirst
  rw [Option.map_eq_none_iff, List.find?_eq_none]
  intro x hx
  obtain ⟨j, hj, e⟩ := List.mem_iff_getElem.1 hx
  rw [h j x (by rw [List.getElem?_eq_getElem hj, e])]
  exact Bool.false_ne_true

theorem bfirst_map {acc : α → Bool} {acc' : β → Bool} {f : α → β} : ∀ {Q : List (α × List Int)}, (∀ y ∈ Q, acc' (f y.1) = acc y.1) → bfirst acc' (pmap f Q) = bfirst acc Q
  | [], _ => rfl
  | x :: Q, h => by
    have hx := h x List.mem_cons_self
    have ih := bfirst_map (Q := Q) fun y hy => h y (List.mem_cons_of_mem _ hy)
    unfold bfirst pmap at *
    rw [List.map_cons]
    cases ha : acc x.1
    · rw [ha] at hx
      rw [List.find?_cons_of_neg (by show ¬ acc' (f x.1) = true; rw [hx]; exact Bool.false_ne_true), List.find?_cons_of_neg (by show ¬ acc x.1 = true; rw [ha]; exact Bool.false_ne_true)]
      exact ih
    · rw [ha] at hx
      rw [List.find?_cons_of_pos (by show acc' (f x.1) = true; exact hx), List.find?_cons_of_pos (by show acc x.1 = true; exact ha)]
      rfl

end

section
variable {α β : Type} [DecidableEq α] [DecidableEq β]

/-- Whether a place has been met. -/
def metB (Q : List (α × List Int)) (x : α) : Bool := Q.any fun y => decide (y.1 = x)

theorem metB_true {Q : List (α × List Int)} {x : α} : metB Q x = true ↔ ∃ y ∈ Q, y.1 = x := by
  unfold metB; rw [List.any_eq_true]; simp

theorem metB_app (Q : List (α × List Int)) (x z : α) (wd : List Int) : metB (Q ++ [(x, wd)]) z = (metB Q z || decide (x = z)) := by simp [metB]

/-- One look from a place. -/
def bput (nx : α → Nat → α) (p : α) (wd : List Int) (Q : List (α × List Int)) (i : Nat) : List (α × List Int) :=
  if metB Q (nx p i) = true then Q else Q ++ [(nx p i, wd ++ [(i : Int)])]

/-- The first i looks from a place. -/
def bpart (nx : α → Nat → α) (p : α) (wd : List Int) (Q : List (α × List Int)) : Nat → List (α × List Int)
  | 0 => Q
  | i + 1 => bput nx p wd (bpart nx p wd Q i) i

def bstep (nx : α → Nat → α) (k : Nat) (Q : List (α × List Int)) (j : Nat) : List (α × List Int) :=
  match Q[j]? with
  | none => Q
  | some y => bpart nx y.1 y.2 Q k

/-- What has been met after j rounds. -/
def brun (nx : α → Nat → α) (k : Nat) (s : α) : Nat → List (α × List Int)
  | 0 => [(s, [])]
  | j + 1 => bstep nx k (brun nx k s j) j

theorem brun_succ (nx : α → Nat → α) (k : Nat) (s : α) (j : Nat) : brun nx k s (j + 1) = bstep nx k (brun nx k s j) j := rfl

theorem bstep_some {nx : α → Nat → α} {k : Nat} {Q : List (α × List Int)} {j : Nat} {y : α × List Int} (h : Q[j]? = some y) : bstep nx k Q j = bpart nx y.1 y.2 Q k := by
  unfold bstep; rw [h]

theorem bstep_stop {nx : α → Nat → α} {k : Nat} {Q : List (α × List Int)} {j : Nat} (h : Q.length ≤ j) : bstep nx k Q j = Q := by
  unfold bstep; rw [List.getElem?_eq_none h]

theorem Goes.met {Q R : List (α × List Int)} (h : Goes Q R) {x : α} (hx : metB Q x = true) : metB R x = true := by
  obtain ⟨T, rfl⟩ := h
  rw [metB_true] at *
  obtain ⟨y, h1, h2⟩ := hx
  exact ⟨y, List.mem_append_left _ h1, h2⟩

theorem bput_goes (nx : α → Nat → α) (p : α) (wd : List Int) (Q : List (α × List Int)) (i : Nat) : Goes Q (bput nx p wd Q i) := by
  unfold bput; split
  · exact Goes.refl _
  · exact ⟨_, rfl⟩

theorem bpart_goes (nx : α → Nat → α) (p : α) (wd : List Int) (Q : List (α × List Int)) : ∀ i, Goes Q (bpart nx p wd Q i)
  | 0 => Goes.refl _
  | i + 1 => (bpart_goes nx p wd Q i).trans (bput_goes _ _ _ _ _)

theorem bpart_more (nx : α → Nat → α) (p : α) (wd : List Int) (Q : List (α × List Int)) (i : Nat) : ∀ m, Goes (bpart nx p wd Q i) (bpart nx p wd Q (i + m))
  | 0 => Goes.refl _
  | m + 1 => (bpart_more nx p wd Q i m).trans (bput_goes _ _ _ _ _)

theorem bstep_goes (nx : α → Nat → α) (k : Nat) (Q : List (α × List Int)) (j : Nat) : Goes Q (bstep nx k Q j) := by
  unfold bstep; split
  · exact Goes.refl _
  · exact bpart_goes _ _ _ _ _

theorem brun_goes (nx : α → Nat → α) (k : Nat) (s : α) (j : Nat) : ∀ m, Goes (brun nx k s j) (brun nx k s (j + m))
  | 0 => Goes.refl _
  | m + 1 => (brun_goes nx k s j m).trans (bstep_goes _ _ _ _)

theorem brun_le (nx : α → Nat → α) (k : Nat) (s : α) {j m : Nat} (h : j ≤ m) : Goes (brun nx k s j) (brun nx k s m) := by
  obtain ⟨d, rfl⟩ := Nat.exists_eq_add_of_le h
  exact brun_goes _ _ _ _ _

theorem brun_stop {nx : α → Nat → α} {k : Nat} {s : α} {j : Nat} (h : (brun nx k s j).length ≤ j) : ∀ m, brun nx k s (j + m) = brun nx k s j
  | 0 => rfl
  | m + 1 => by
    rw [← Nat.add_assoc, brun_succ, brun_stop h m]
    exact bstep_stop (by omega)

theorem brun_stops {nx : α → Nat → α} {k : Nat} {s : α} {j m : Nat} (h : (brun nx k s j).length ≤ j) (hm : j ≤ m) : brun nx k s m = brun nx k s j := by
  obtain ⟨d, rfl⟩ := Nat.exists_eq_add_of_le hm
  exact brun_stop h d

theorem bput_met (nx : α → Nat → α) (p : α) (wd : List Int) (Q : List (α × List Int)) (i : Nat) : metB (bput nx p wd Q i) (nx p i) = true := by
  unfold bput; split
  · assumption
  · rw [metB_app]; simp

theorem Bok.put {P : α → Prop} {n : Nat} {Q : List (α × List Int)} (h : Bok P (n + 1) Q) {nx : α → Nat → α} {p : α} {wd : List Int} {i : Nat} (hp : P (nx p i)) (hw : wd.length ≤ n) : Bok P (n + 1) (bput nx p wd Q i) := by
  unfold bput
  split
  · exact h
  · rename_i hm
    refine ⟨fun y hy => ?_, fun y hy => ?_, ?_⟩
    · rw [List.mem_append, List.mem_singleton] at hy
      rcases hy with hy | rfl
      · exact h.all y hy
      · exact hp
    · rw [List.mem_append, List.mem_singleton] at hy
      rcases hy with hy | rfl
      · exact h.wl y hy
      · simp; omega
    · rw [List.map_append, List.nodup_append]
      refine ⟨h.nd, by simp, fun a ha b hb => ?_⟩
      simp at hb
      subst hb
      intro e
      subst e
      apply hm
      rw [metB_true]
      obtain ⟨y, h1, h2⟩ := List.mem_map.1 ha
      exact ⟨y, h1, h2⟩

theorem Bok.part {P : α → Prop} {n k : Nat} {Q : List (α × List Int)} (h : Bok P (n + 1) Q) {nx : α → Nat → α} {p : α} {wd : List Int} (hp : ∀ i, i < k → P (nx p i)) (hw : wd.length ≤ n) : ∀ i, i ≤ k → Bok P (n + 1) (bpart nx p wd Q i)
  | 0, _ => h
  | i + 1, hi => (Bok.part h hp hw i (by omega)).put (hp i (by omega)) hw

theorem brun_ok {P : α → Prop} {nx : α → Nat → α} {k : Nat} {s : α} (hs : P s) (hc : ∀ x i, i < k → P x → P (nx x i)) : ∀ j, Bok P j (brun nx k s j)
  | 0 => ⟨fun y hy => by rw [show y = (s, []) by simpa [brun] using hy]; exact hs, fun y hy => by rw [show y = (s, []) by simpa [brun] using hy]; simp, by simp [brun]⟩
  | j + 1 => by
    have h := brun_ok hs hc j
    have h' : Bok P (j + 1) (brun nx k s j) := ⟨h.all, fun y hy => Nat.le_succ_of_le (h.wl y hy), h.nd⟩
    rw [brun_succ]
    by_cases hj : j < (brun nx k s j).length
    · have hg := List.getElem?_eq_getElem hj
      have hm := List.getElem_mem hj
      rw [bstep_some hg]
      exact Bok.part h' (fun i hi => hc _ i hi (h.all _ hm)) (h.wl _ hm) k (Nat.le_refl _)
    · rw [bstep_stop (by omega)]
      exact h'

/-- What is met goes on to what is met. -/
theorem brun_closed {nx : α → Nat → α} {k N : Nat} {s : α} (hN : ∀ j, (brun nx k s j).length ≤ N) {i : Nat} {y : α × List Int} (hy : (brun nx k s N)[i]? = some y) {c : Nat} (hc : c < k) : metB (brun nx k s N) (nx y.1 c) = true := by
  have hi := (List.getElem?_eq_some_iff.1 hy).1
  have hiN := hN N
  have hlt : i < (brun nx k s i).length := by
    apply Classical.byContradiction
    intro hge
    have := brun_stops (m := N) (by omega : (brun nx k s i).length ≤ i) (by omega)
    rw [this] at hi
    exact hge hi
  have hg := List.getElem?_eq_getElem hlt
  have he := (brun_le nx k s (by omega : i ≤ N)).at hg
  rw [hy] at he
  injection he with he
  rw [← he] at hg
  have h1 : metB (brun nx k s (i + 1)) (nx y.1 c) = true := by
    rw [brun_succ, bstep_some hg]
    obtain ⟨d, rfl⟩ := Nat.exists_eq_add_of_le hc
    exact (bpart_more nx y.1 y.2 _ (c + 1) d).met (bput_met _ _ _ _ _)
  exact (brun_le nx k s (by omega : i + 1 ≤ N)).met h1

theorem metB_pmap {P : α → Prop} {f : α → β} {Q : List (α × List Int)} (hQ : ∀ y ∈ Q, P y.1) (hi : ∀ x y, P x → P y → f x = f y → x = y) {x : α} (hx : P x) : metB (pmap f Q) (f x) = metB Q x := by
  rw [Bool.eq_iff_iff, metB_true, metB_true]
  constructor
  · rintro ⟨y, h1, h2⟩
    obtain ⟨z, hz, rfl⟩ := List.mem_map.1 h1
    exact ⟨z, hz, hi _ _ (hQ z hz) hx h2⟩
  · rintro ⟨y, h1, rfl⟩
    exact ⟨_, List.mem_map.2 ⟨y, h1, rfl⟩, rfl⟩

theorem bpart_map {P : α → Prop} {nx : α → Nat → α} {nx' : β → Nat → β} {f : α → β} {k n : Nat} (hc : ∀ x i, i < k → P x → P (nx x i)) (hi : ∀ x y, P x → P y → f x = f y → x = y) (hs : ∀ x i, i < k → P x → f (nx x i) = nx' (f x) i)
    {Q : List (α × List Int)} (hQ : Bok P (n + 1) Q) {p : α} (hp : P p) {wd : List Int} (hw : wd.length ≤ n) : ∀ i, i ≤ k → bpart nx' (f p) wd (pmap f Q) i = pmap f (bpart nx p wd Q i)
  | 0, _ => rfl
  | i + 1, hik => by
    have ih := bpart_map hc hi hs hQ hp hw i (by omega)
    have ho := Bok.part hQ (k := k) (fun i hi => hc p i hi hp) hw i (by omega)
    show bput nx' (f p) wd (bpart nx' (f p) wd (pmap f Q) i) i = pmap f (bput nx p wd (bpart nx p wd Q i) i)
    rw [ih]
    unfold bput
    rw [← hs p i (by omega) hp, metB_pmap ho.all hi (hc p i (by omega) hp)]
    split
    · rfl
    · simp [pmap]

theorem brun_map {P : α → Prop} {nx : α → Nat → α} {nx' : β → Nat → β} {f : α → β} {k : Nat} {s : α} (h0 : P s) (hc : ∀ x i, i < k → P x → P (nx x i)) (hi : ∀ x y, P x → P y → f x = f y → x = y) (hs : ∀ x i, i < k → P x → f (nx x i) = nx' (f x) i) :
    ∀ j, brun nx' k (f s) j = pmap f (brun nx k s j)
  | 0 => rfl
  | j + 1 => by
    have ih := brun_map h0 hc hi hs j
    have ho := brun_ok h0 hc j
    have h' : Bok P (j + 1) (brun nx k s j) := ⟨ho.all, fun y hy => Nat.le_succ_of_le (ho.wl y hy), ho.nd⟩
    rw [brun_succ, brun_succ, ih]
    by_cases hj : j < (brun nx k s j).length
    · have hg := List.getElem?_eq_getElem hj
      have hm := List.getElem_mem hj
      rw [bstep_some hg]
      have hg' : (pmap f (brun nx k s j))[j]? = some (f (brun nx k s j)[j].1, (brun nx k s j)[j].2) := by
        unfold pmap; rw [List.getElem?_map, hg]; rfl
      rw [bstep_some hg']
      exact bpart_map hc hi hs h' (ho.all _ hm) (ho.wl _ hm) k (Nat.le_refl _)
    · have hl : (pmap f (brun nx k s j)).length = (brun nx k s j).length := by unfold pmap; simp
      rw [bstep_stop (by omega), bstep_stop (by omega)]

end

end Go.Proofs.YthdjajelbpccpaaDoor
