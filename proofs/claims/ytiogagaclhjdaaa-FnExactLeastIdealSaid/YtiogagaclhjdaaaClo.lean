/- The closure of a list of maps, told by numbers: how both searches go on, step by step, and what they have when they stop. -/
import Derived.Test.YtiogagaclhjdaaaCode
namespace Go.Proofs.Ytiogagaclhjdaaa

/-- Where a search stands: the element that it multiplies, the next map of the list, the elements that it has met, their words. -/
structure Cs where
  pos : Nat
  k : Nat
  E : List Nat
  W : List (List Int)

/-- The search stands still. -/
def cterm (s : Cs) : Prop := s.E.length ≤ s.pos ∨ 300 < s.E.length

def cstep (p : Int) (gs : List Nat) (s : Cs) : Cs :=
  if s.E.length ≤ s.pos ∨ 300 < s.E.length then s
  else if gs.length ≤ s.k then ⟨s.pos + 1, 0, s.E, s.W⟩
  else if mulC p (s.E.getD s.pos 0) (gs.getD s.k 0) ∈ s.E then ⟨s.pos, s.k + 1, s.E, s.W⟩
  else ⟨s.pos, s.k + 1, s.E ++ [mulC p (s.E.getD s.pos 0) (gs.getD s.k 0)], s.W ++ [s.W.getD s.pos [] ++ [(s.k : Int)]]⟩

def cstart (p : Int) : Cs := ⟨0, 0, [idC p], [[]]⟩

def citer (p : Int) (gs : List Nat) : Nat → Cs
  | 0 => cstart p
  | n + 1 => cstep p gs (citer p gs n)

def Rch (p : Int) (gs : List Nat) (s : Cs) : Prop := ∃ n, s = citer p gs n

theorem rch_start (p : Int) (gs : List Nat) : Rch p gs (cstart p) := ⟨0, rfl⟩

theorem Rch.step {p : Int} {gs : List Nat} {s : Cs} (h : Rch p gs s) : Rch p gs (cstep p gs s) := by
  obtain ⟨n, rfl⟩ := h; exact ⟨n + 1, rfl⟩

theorem Rch.row {p : Int} {gs : List Nat} {pos k : Nat} {E : List Nat} {W : List (List Int)} (h : Rch p gs ⟨pos, k, E, W⟩) (h1 : pos < E.length) (h2 : E.length ≤ 300) (h3 : gs.length ≤ k) : Rch p gs ⟨pos + 1, 0, E, W⟩ := by
  have := h.step
  simp only [cstep] at this
  rw [if_neg (by omega), if_pos h3] at this
  exact this

theorem Rch.old {p : Int} {gs : List Nat} {pos k : Nat} {E : List Nat} {W : List (List Int)} (h : Rch p gs ⟨pos, k, E, W⟩) (h1 : pos < E.length) (h2 : E.length ≤ 300) (h3 : k < gs.length) (h4 : mulC p (E.getD pos 0) (gs.getD k 0) ∈ E) :
    Rch p gs ⟨pos, k + 1, E, W⟩ := by
  have := h.step
  simp only [cstep] at this
  rw [if_neg (by omega), if_neg (by omega), if_pos h4] at this
  exact this

theorem Rch.new {p : Int} {gs : List Nat} {pos k : Nat} {E : List Nat} {W : List (List Int)} (h : Rch p gs ⟨pos, k, E, W⟩) (h1 : pos < E.length) (h2 : E.length ≤ 300) (h3 : k < gs.length) (h4 : mulC p (E.getD pos 0) (gs.getD k 0) ∉ E) :
    Rch p gs ⟨pos, k + 1, E ++ [mulC p (E.getD pos 0) (gs.getD k 0)], W ++ [W.getD pos [] ++ [(k : Int)]]⟩ := by
  have := h.step
  simp only [cstep] at this
  rw [if_neg (by omega), if_neg (by omega), if_neg h4] at this
  exact this

theorem citer_stay (p : Int) (gs : List Nat) (n : Nat) (h : cterm (citer p gs n)) : ∀ m, citer p gs (n + m) = citer p gs n
  | 0 => rfl
  | m + 1 => by
    show cstep p gs (citer p gs (n + m)) = _
    rw [citer_stay p gs n h m]
    unfold cstep
    unfold cterm at h
    rw [if_pos h]

open Classical in
/-- Where the search stops. -/
noncomputable def cfin (p : Int) (gs : List Nat) : Cs := if h : ∃ n, cterm (citer p gs n) then citer p gs (Classical.choose h) else cstart p

theorem Rch.fin {p : Int} {gs : List Nat} {s : Cs} (h : Rch p gs s) (ht : cterm s) : cfin p gs = s := by
  obtain ⟨n, rfl⟩ := h
  have hx : ∃ n, cterm (citer p gs n) := ⟨n, ht⟩
  unfold cfin
  rw [dif_pos hx]
  have hm := Classical.choose_spec hx
  generalize Classical.choose hx = m at hm ⊢
  by_cases e : n ≤ m
  · have := citer_stay p gs n ht (m - n)
    rwa [show n + (m - n) = m by omega] at this
  · have := citer_stay p gs m hm (n - m)
    rw [show m + (n - m) = n by omega] at this
    exact this.symm

/-- What holds wherever the search stands. -/
structure Cinv (p : Int) (gs : List Nat) (s : Cs) : Prop where
  vl : ∀ c ∈ s.E, vld p c
  nd : s.E.Nodup
  len : s.W.length = s.E.length
  one : 0 < s.E.length
  top : s.E.length ≤ 301
  pos : s.pos ≤ s.E.length
  k : s.k ≤ gs.length
  wl : ∀ j, (s.W.getD j []).length ≤ j
  hd : s.E.getD 0 0 = idC p

theorem rch_inv {p : Int} {gs : List Nat} (h1 : 1 ≤ p) (h5 : p ≤ 5) (hg : ∀ c ∈ gs, vld p c) : ∀ n, Cinv p gs (citer p gs n)
  | 0 => by
    refine ⟨?_, ?_, rfl, ?_, ?_, ?_, ?_, ?_, rfl⟩
    · intro c hc
      have : c = idC p := by simpa [citer, cstart] using hc
      rw [this]; exact idC_vld h1 h5
    all_goals simp [citer, cstart]
    intro j
    cases j <;> simp
  | n + 1 => by
    have ih := rch_inv h1 h5 hg n
    show Cinv p gs (cstep p gs (citer p gs n))
    generalize citer p gs n = s at ih
    obtain ⟨a1, a2, a3, a4, a5, a6, a7, a8, a9⟩ := ih
    unfold cstep
    by_cases ht : s.E.length ≤ s.pos ∨ 300 < s.E.length
    · rw [if_pos ht]; exact ⟨a1, a2, a3, a4, a5, a6, a7, a8, a9⟩
    · rw [if_neg ht]
      by_cases hk : gs.length ≤ s.k
      · rw [if_pos hk]
        exact ⟨a1, a2, a3, a4, a5, (show s.pos + 1 ≤ s.E.length by omega), Nat.zero_le _, a8, a9⟩
      · rw [if_neg hk]
        by_cases hm : mulC p (s.E.getD s.pos 0) (gs.getD s.k 0) ∈ s.E
        · rw [if_pos hm]
          exact ⟨a1, a2, a3, a4, a5, a6, (show s.k + 1 ≤ gs.length by omega), a8, a9⟩
        · rw [if_neg hm]
          have hv : vld p (mulC p (s.E.getD s.pos 0) (gs.getD s.k 0)) := by
            refine mulC_vld (a1 _ ?_) (hg _ ?_)
            · rw [List.getD_eq_getElem?_getD, List.getElem?_eq_getElem (by omega)]; exact List.getElem_mem _
            · rw [List.getD_eq_getElem?_getD, List.getElem?_eq_getElem (by omega)]; exact List.getElem_mem _
          refine ⟨?_, ?_, ?_, ?_, ?_, ?_, ?_, ?_, ?_⟩
          · intro c hc
            rcases List.mem_append.1 hc with hc | hc
            · exact a1 c hc
            · rw [List.mem_singleton.1 hc]; exact hv
          · refine List.nodup_append.2 ⟨a2, by simp, ?_⟩
            intro a ha b hb e
            rw [List.mem_singleton.1 hb] at e
            exact hm (e ▸ ha)
          · simp [a3]
          · simp
          · simp; omega
          · simp; omega
          · show s.k + 1 ≤ gs.length
            omega
          · intro j
            by_cases hj : j < s.W.length
            · have : (s.W ++ [s.W.getD s.pos [] ++ [(s.k : Int)]]).getD j [] = s.W.getD j [] := by
                rw [List.getD_eq_getElem?_getD, List.getElem?_append_left hj, ← List.getD_eq_getElem?_getD]
              show (List.getD (s.W ++ _) j []).length ≤ j
              rw [this]; exact a8 j
            · by_cases hj2 : j = s.W.length
              · have : (s.W ++ [s.W.getD s.pos [] ++ [(s.k : Int)]]).getD j [] = s.W.getD s.pos [] ++ [(s.k : Int)] := by
                  rw [hj2, List.getD_eq_getElem?_getD]; simp
                show (List.getD (s.W ++ _) j []).length ≤ j
                rw [this, List.length_append]
                have := a8 s.pos
                simp only [List.length_cons, List.length_nil]
                omega
              · have : (s.W ++ [s.W.getD s.pos [] ++ [(s.k : Int)]]).getD j [] = [] := by
                  rw [List.getD_eq_getElem?_getD, List.getElem?_eq_none (by simp; omega)]; rfl
                show (List.getD (s.W ++ _) j []).length ≤ j
                rw [this]; simp
          · show List.getD (s.E ++ _) 0 0 = _
            rw [List.getD_eq_getElem?_getD, List.getElem?_append_left a4, ← List.getD_eq_getElem?_getD]; exact a9

theorem Rch.inv {p : Int} {gs : List Nat} {s : Cs} (h : Rch p gs s) (h1 : 1 ≤ p) (h5 : p ≤ 5) (hg : ∀ c ∈ gs, vld p c) : Cinv p gs s := by
  obtain ⟨n, rfl⟩ := h; exact rch_inv h1 h5 hg n

/-! Ascending lists of numbers. -/

def srtd (K : List Nat) : Prop := K.Pairwise (· < ·)

/-- How many numbers of the list are less. -/
def lowN (K : List Nat) (c : Nat) : Nat := (K.filter fun x => decide (x < c)).length

theorem lowN_le (K : List Nat) (c : Nat) : lowN K c ≤ K.length := List.length_filter_le _ _

theorem low_lt : ∀ {K : List Nat} (_ : srtd K) (c i : Nat) (_ : i < K.length), K.getD i 0 < c ↔ i < lowN K c
  | [], _, c, i, hi => by simp at hi
  | x :: K, h, c, i, hi => by
    have h' := List.pairwise_cons.1 h
    by_cases hx : x < c
    · have e : lowN (x :: K) c = lowN K c + 1 := by unfold lowN; rw [List.filter_cons_of_pos (by simpa using hx)]; rfl
      rw [e]
      cases i with
      | zero => simp [hx]
      | succ i =>
        have := low_lt h'.2 c i (by simpa using hi)
        simp only [List.getD_cons_succ]
        omega
    · have e : lowN (x :: K) c = 0 := by
        unfold lowN
        rw [List.filter_cons_of_neg (by simpa using hx), List.filter_eq_nil_iff.2 (fun y hy => by have := h'.1 y hy; simp; omega)]; rfl
      rw [e]
      cases i with
      | zero => simp; omega
      | succ i =>
        have hm : K.getD i 0 ∈ K := by
          have hi' : i < K.length := by simpa using hi
          rw [List.getD_eq_getElem?_getD, List.getElem?_eq_getElem hi']; exact List.getElem_mem _
        have := h'.1 _ hm
        simp only [List.getD_cons_succ]
        omega

theorem low_found {K : List Nat} (h : srtd K) (c : Nat) : c ∈ K ↔ lowN K c < K.length ∧ K.getD (lowN K c) 0 = c := by
  constructor
  · intro hc
    obtain ⟨i, hi, e⟩ := List.mem_iff_getElem.1 hc
    have hg : K.getD i 0 = c := by rw [List.getD_eq_getElem?_getD, List.getElem?_eq_getElem hi]; exact e
    have h1 : ¬ i < lowN K c := fun hl => by have := (low_lt h c i hi).2 hl; omega
    have hl : lowN K c < K.length := by omega
    have h2 : ¬ K.getD (lowN K c) 0 < c := fun hx => by have := (low_lt h c _ hl).1 hx; omega
    refine ⟨hl, ?_⟩
    by_cases e2 : lowN K c = i
    · rw [e2]; exact hg
    · have h3 : K.getD (lowN K c) 0 < K.getD i 0 := by
        have := List.pairwise_iff_getElem.1 h (lowN K c) i hl hi (by omega)
        rw [List.getD_eq_getElem?_getD, List.getElem?_eq_getElem hl, List.getD_eq_getElem?_getD, List.getElem?_eq_getElem hi]
        exact this
      omega
  · rintro ⟨hl, e⟩
    rw [← e, List.getD_eq_getElem?_getD, List.getElem?_eq_getElem hl]
    exact List.getElem_mem _

/-- An ascending list with a number more, if it is not there. -/
def putN (K : List Nat) (c : Nat) : List Nat := if c ∈ K then K else K.take (lowN K c) ++ c :: K.drop (lowN K c)

theorem put_mem (K : List Nat) (c x : Nat) : x ∈ putN K c ↔ x = c ∨ x ∈ K := by
  unfold putN
  split
  · rename_i h
    constructor
    · exact Or.inr
    · rintro (rfl | hx)
      · exact h
      · exact hx
  · have := List.take_append_drop (lowN K c) K
    constructor
    · intro hx
      rcases List.mem_append.1 hx with hx | hx
      · exact Or.inr (List.mem_of_mem_take hx)
      · rcases List.mem_cons.1 hx with rfl | hx
        · exact Or.inl rfl
        · exact Or.inr (List.mem_of_mem_drop hx)
    · rintro (rfl | hx)
      · simp
      · rw [← this] at hx
        rcases List.mem_append.1 hx with hx | hx
        · exact List.mem_append.2 (Or.inl hx)
        · exact List.mem_append.2 (Or.inr (List.mem_cons.2 (Or.inr hx)))

theorem put_srt {K : List Nat} (h : srtd K) (c : Nat) : srtd (putN K c) := by
  unfold putN
  split
  · exact h
  · rename_i hc
    have hlt : ∀ x ∈ K.take (lowN K c), x < c := fun x hx => by
      obtain ⟨i, hi, e⟩ := List.mem_iff_getElem.1 hx
      rw [List.length_take] at hi
      have := (low_lt h c i (by omega)).2 (by omega)
      rw [List.getElem_take] at e
      rw [List.getD_eq_getElem?_getD, List.getElem?_eq_getElem (by omega)] at this
      rw [← e]; exact this
    have hgt : ∀ x ∈ K.drop (lowN K c), c < x := fun x hx => by
      obtain ⟨i, hi, e⟩ := List.mem_iff_getElem.1 hx
      rw [List.length_drop] at hi
      rw [List.getElem_drop] at e
      have h1 : ¬ K.getD (lowN K c + i) 0 < c := fun hh => by have := (low_lt h c _ (by omega)).1 hh; omega
      rw [List.getD_eq_getElem?_getD, List.getElem?_eq_getElem (by omega)] at h1
      have h2 : x ≠ c := fun e2 => hc (e2 ▸ List.mem_of_mem_drop hx)
      have : K[lowN K c + i] = x := e
      simp only [Option.getD_some] at h1
      omega
    unfold srtd
    rw [List.pairwise_append]
    refine ⟨List.Pairwise.sublist (List.take_sublist _ _) h, ?_, ?_⟩
    · rw [List.pairwise_cons]
      exact ⟨hgt, List.Pairwise.sublist (List.drop_sublist _ _) h⟩
    · intro a ha b hb
      have := hlt a ha
      rcases List.mem_cons.1 hb with rfl | hb
      · exact this
      · have := hgt b hb; omega

theorem srt_unique : ∀ {K L : List Nat}, srtd K → srtd L → (∀ x, x ∈ K ↔ x ∈ L) → K = L
  | [], [], _, _, _ => rfl
  | [], y :: L, _, _, h => by have := (h y).2 (by simp); simp at this
  | x :: K, [], _, _, h => by have := (h x).1 (by simp); simp at this
  | x :: K, y :: L, hK, hL, h => by
    have hK' := List.pairwise_cons.1 hK
    have hL' := List.pairwise_cons.1 hL
    have e : x = y := by
      rcases List.mem_cons.1 ((h x).1 (by simp)) with e | hx
      · exact e
      · rcases List.mem_cons.1 ((h y).2 (by simp)) with e | hy
        · exact e.symm
        · have := hL'.1 x hx
          have := hK'.1 y hy
          omega
    subst e
    rw [srt_unique hK'.2 hL'.2 (fun z => ?_)]
    constructor
    · intro hz
      rcases List.mem_cons.1 ((h z).1 (List.mem_cons.2 (Or.inr hz))) with e | hz'
      · have := hK'.1 z hz; omega
      · exact hz'
    · intro hz
      rcases List.mem_cons.1 ((h z).2 (List.mem_cons.2 (Or.inr hz))) with e | hz'
      · have := hL'.1 z hz; omega
      · exact hz'

/-- A list put in order. -/
def srtE (E : List Nat) : List Nat := E.foldl putN []

theorem foldl_put (E : List Nat) : ∀ K, srtd K → srtd (E.foldl putN K) ∧ ∀ x, x ∈ E.foldl putN K ↔ x ∈ K ∨ x ∈ E := by
  induction E with
  | nil => intro K h; exact ⟨h, by simp⟩
  | cons c E ih =>
    intro K h
    have := ih _ (put_srt h c)
    refine ⟨this.1, fun x => ?_⟩
    rw [List.foldl_cons, this.2 x, put_mem, List.mem_cons]
    constructor
    · rintro ((h | h) | h)
      · exact Or.inr (Or.inl h)
      · exact Or.inl h
      · exact Or.inr (Or.inr h)
    · rintro (h | h | h)
      · exact Or.inl (Or.inr h)
      · exact Or.inl (Or.inl h)
      · exact Or.inr h

theorem srtE_srt (E : List Nat) : srtd (srtE E) := (foldl_put E [] (by unfold srtd; exact List.Pairwise.nil)).1
theorem srtE_mem (E : List Nat) (x : Nat) : x ∈ srtE E ↔ x ∈ E := by
  have := (foldl_put E [] (by unfold srtd; exact List.Pairwise.nil)).2 x
  unfold srtE; rw [this]; simp

theorem srtE_app (E : List Nat) (c : Nat) : srtE (E ++ [c]) = putN (srtE E) c := by unfold srtE; rw [List.foldl_append]; rfl

theorem put_len {K : List Nat} {c : Nat} (h : c ∉ K) : (putN K c).length = K.length + 1 := by
  unfold putN; rw [if_neg h]
  have := lowN_le K c
  simp only [List.length_append, List.length_take, List.length_cons, List.length_drop]
  omega

/-- Without twins the ordered list is as long. -/
theorem srtE_len : ∀ (E : List Nat), E.Nodup → (srtE E).length = E.length := by
  have key : ∀ (E K : List Nat), (∀ x ∈ E, x ∉ K) → E.Nodup → (E.foldl putN K).length = K.length + E.length := by
    intro E
    induction E with
    | nil => intro K _ _; simp
    | cons c E ih =>
      intro K h hn
      have hn' := List.nodup_cons.1 hn
      rw [List.foldl_cons, ih (putN K c) (fun x hx hxk => ?_) hn'.2, put_len (h c (by simp)), List.length_cons]
      · omega
      · rcases (put_mem K c x).1 hxk with e | hxk
        · exact hn'.1 (e ▸ hx)
        · exact h x (by simp [hx]) hxk
  intro E hn
  have := key E [] (by simp) hn
  simpa [srtE] using this

end Go.Proofs.Ytiogagaclhjdaaa
