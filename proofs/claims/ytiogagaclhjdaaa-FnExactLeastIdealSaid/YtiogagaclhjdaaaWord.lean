/- Every element is a product of maps of the list, and the elements are closed under products with them. -/
import Derived.Test.YtiogagaclhjdaaaNum
namespace Go.Proofs.Ytiogagaclhjdaaa
open Go.RowKit

theorem bel_at {w z : World} {b : Nat} {o : Obj} (h : Below w.heap.size w z) (hb : w.heap[b]? = some o) : z.heap[b]? = some o := (h.block _ (Array.getElem?_eq_some_iff.1 hb).1).trans hb

theorem ecd_congr {f g : Nat → Int} (h : ∀ i, i < 5 → f i = g i) : ecd f = ecd g := by
  unfold ecd; rw [h 0 (by omega), h 1 (by omega), h 2 (by omega), h 3 (by omega), h 4 (by omega)]

theorem mulC_left {p : Int} {m : Nat → Int} {c : Nat} (hm : isB p m = true) : mul p (dcd (ecd m)) (dcd c) = mul p m (dcd c) :=
  (mul_congr hm (fun i hi => (dcd_ecd hm i hi).symm) (fun _ _ => rfl)).symm

theorem mulC_right {p : Int} {m : Nat → Int} {c : Nat} (hc : isB p (dcd c) = true) (hm : isB p m = true) : mul p (dcd c) (dcd (ecd m)) = mul p (dcd c) m :=
  (mul_congr hc (fun _ _ => rfl) (fun i hi => (dcd_ecd hm i hi).symm)).symm

theorem mulC_assoc {p : Int} {a b c : Nat} (ha : vld p a) (hb : vld p b) (hc : vld p c) : mulC p (mulC p a b) c = mulC p a (mulC p b c) := by
  unfold mulC
  rw [mulC_left (mul_ok ha.2 hb.2), mulC_right ha.2 (mul_ok hb.2 hc.2), mul_assoc' ha.2]

theorem mulC_idl {p : Int} {c : Nat} (h1 : 1 ≤ p) (h5 : p ≤ 5) (hc : vld p c) : mulC p (idC p) c = c := by
  unfold mulC idC
  rw [mulC_left (idn_ok h1 h5), ← ecd_dcd hc.1]
  rw [ecd_dcd hc.1]
  conv => rhs; rw [← ecd_dcd hc.1]
  refine ecd_congr fun i hi => ?_
  by_cases h : (i : Int) < p
  · rw [mul_lt _ _ _ h]
    have e : idn p i = (i : Int) := by unfold idn; rw [if_pos h]
    rw [e]; rfl
  · rw [mul_ge _ _ _ (by omega)]
    exact (ok_past hc.2 i (by omega) hi).symm

theorem mulC_idr {p : Int} {c : Nat} (h1 : 1 ≤ p) (h5 : p ≤ 5) (hc : vld p c) : mulC p c (idC p) = c := by
  unfold mulC idC
  rw [mulC_right hc.2 (idn_ok h1 h5)]
  conv => rhs; rw [← ecd_dcd hc.1]
  refine ecd_congr fun i hi => ?_
  by_cases h : (i : Int) < p
  · have h2 := ok_at hc.2 i h
    rw [mul_lt _ _ _ h]
    have e : idn p (dcd c i).toNat = ((dcd c i).toNat : Int) := by unfold idn; rw [if_pos (by omega)]
    rw [e]; omega
  · rw [mul_ge _ _ _ (by omega)]
    exact (ok_past hc.2 i (by omega) hi).symm

/-! The search stops. -/

theorem cstep_go {p : Int} {gs : List Nat} {s : Cs} (hI : Cinv p gs s) (h : ¬ cterm s) : (301 - (cstep p gs s).E.length) * (gs.length + 2) + ((cstep p gs s).E.length - (cstep p gs s).pos) * (gs.length + 1) + (gs.length - (cstep p gs s).k) < (301 - s.E.length) * (gs.length + 2) + (s.E.length - s.pos) * (gs.length + 1) + (gs.length - s.k) := by
  have h2 : ¬ (s.E.length ≤ s.pos ∨ 300 < s.E.length) := h
  have hk := hI.k
  unfold cstep
  rw [if_neg h2]
  by_cases hg : gs.length ≤ s.k
  · rw [if_pos hg]
    obtain ⟨d, hd⟩ : ∃ d, s.E.length - s.pos = d + 1 := ⟨s.E.length - s.pos - 1, by omega⟩
    show (301 - s.E.length) * (gs.length + 2) + (s.E.length - (s.pos + 1)) * (gs.length + 1) + (gs.length - 0) < _
    have hd2 : s.E.length - (s.pos + 1) = d := by omega
    rw [hd, hd2, Nat.succ_mul]
    omega
  · rw [if_neg hg]
    by_cases hm : mulC p (s.E.getD s.pos 0) (gs.getD s.k 0) ∈ s.E
    · rw [if_pos hm]
      show (301 - s.E.length) * (gs.length + 2) + (s.E.length - s.pos) * (gs.length + 1) + (gs.length - (s.k + 1)) < _
      omega
    · rw [if_neg hm]
      show (301 - (s.E ++ [_]).length) * (gs.length + 2) + ((s.E ++ [_]).length - s.pos) * (gs.length + 1) + (gs.length - (s.k + 1)) < _
      rw [List.length_append, List.length_singleton]
      obtain ⟨d, hd⟩ : ∃ d, 301 - s.E.length = d + 1 := ⟨300 - s.E.length, by omega⟩
      have hd2 : 301 - (s.E.length + 1) = d := by omega
      have hd3 : s.E.length + 1 - s.pos = (s.E.length - s.pos) + 1 := by omega
      rw [hd, hd2, hd3, Nat.succ_mul, Nat.succ_mul]
      omega

theorem cterm_ex {p : Int} {gs : List Nat} (h1 : 1 ≤ p) (h5 : p ≤ 5) (hg : ∀ c ∈ gs, vld p c) : ∃ n, cterm (citer p gs n) := by
  have key : ∀ m n, (301 - (citer p gs n).E.length) * (gs.length + 2) + ((citer p gs n).E.length - (citer p gs n).pos) * (gs.length + 1) + (gs.length - (citer p gs n).k) ≤ m → ∃ n, cterm (citer p gs n) := by
    intro m
    induction m with
    | zero =>
      intro n hn
      by_cases ht : cterm (citer p gs n)
      · exact ⟨n, ht⟩
      · have := cstep_go (rch_inv h1 h5 hg n) ht; omega
    | succ m ih =>
      intro n hn
      by_cases ht : cterm (citer p gs n)
      · exact ⟨n, ht⟩
      · have := cstep_go (rch_inv h1 h5 hg n) ht
        exact ih (n + 1) (by show _ ≤ m; simp only [citer]; omega)
  exact key _ 0 (Nat.le_refl _)

theorem cfin_rch {p : Int} {gs : List Nat} (h1 : 1 ≤ p) (h5 : p ≤ 5) (hg : ∀ c ∈ gs, vld p c) : Rch p gs (cfin p gs) ∧ cterm (cfin p gs) := by
  have hx := cterm_ex h1 h5 hg
  unfold cfin
  rw [dif_pos hx]
  exact ⟨⟨_, rfl⟩, Classical.choose_spec hx⟩

/-- What holds of the identity and goes on by maps of the list holds of all elements. -/
theorem rch_ind {p : Int} {gs : List Nat} {P : Nat → Prop} (h1 : 1 ≤ p) (h5 : p ≤ 5) (hg : ∀ c ∈ gs, vld p c) (h0 : P (idC p)) (hs : ∀ c g, vld p c → g ∈ gs → P c → P (mulC p c g)) : ∀ n, ∀ c ∈ (citer p gs n).E, P c
  | 0 => fun c hc => by
    have : c = idC p := by simpa [citer, cstart] using hc
    rw [this]; exact h0
  | n + 1 => fun c hc => by
    have ih := rch_ind h1 h5 hg h0 hs n
    have hI := rch_inv h1 h5 hg n
    have hc' : c ∈ (cstep p gs (citer p gs n)).E := hc
    generalize citer p gs n = s at ih hI hc'
    unfold cstep at hc'
    by_cases ht : s.E.length ≤ s.pos ∨ 300 < s.E.length
    · rw [if_pos ht] at hc'; exact ih c hc'
    · rw [if_neg ht] at hc'
      by_cases hk : gs.length ≤ s.k
      · rw [if_pos hk] at hc'; exact ih c hc'
      · rw [if_neg hk] at hc'
        by_cases hm : mulC p (s.E.getD s.pos 0) (gs.getD s.k 0) ∈ s.E
        · rw [if_pos hm] at hc'; exact ih c hc'
        · rw [if_neg hm] at hc'
          rcases List.mem_append.1 hc' with h | h
          · exact ih c h
          · rw [List.mem_singleton.1 h]
            have hp : s.E.getD s.pos 0 ∈ s.E := getD_mem (by omega)
            exact hs _ _ (hI.vl _ hp) (getD_mem (by omega)) (ih _ hp)

/-- What has been multiplied is there. -/
def Cdone (p : Int) (gs : List Nat) (s : Cs) : Prop := (∀ j k, j < s.pos → k < gs.length → mulC p (s.E.getD j 0) (gs.getD k 0) ∈ s.E) ∧ (∀ k, k < s.k → k < gs.length → mulC p (s.E.getD s.pos 0) (gs.getD k 0) ∈ s.E)

theorem done_new {p : Int} {gs : List Nat} {pos k x : Nat} {E : List Nat} {W V : List (List Int)} (h : Cdone p gs ⟨pos, k, E, W⟩) (hp : pos < E.length) (hx : mulC p (E.getD pos 0) (gs.getD k 0) = x) : Cdone p gs ⟨pos, k + 1, E ++ [x], V⟩ := by
  obtain ⟨i1, i2⟩ := h
  simp only [] at i1 i2
  have hgd : ∀ j, j < E.length → (E ++ [x]).getD j 0 = E.getD j 0 := fun j hj => by
    rw [List.getD_eq_getElem?_getD, List.getElem?_append_left hj, ← List.getD_eq_getElem?_getD]
  refine ⟨fun j q hj hq => ?_, fun q hq hql => ?_⟩
  · simp only [] at hj ⊢
    have := i1 j q hj hq
    rw [hgd j (by omega)]
    exact List.mem_append_left _ this
  · simp only [] at hq ⊢
    rw [hgd pos hp]
    by_cases e : q = k
    · rw [e, hx]; exact List.mem_append_right _ (by simp)
    · exact List.mem_append_left _ (i2 q (by omega) hql)

theorem done_old {p : Int} {gs : List Nat} {pos k : Nat} {E : List Nat} {W V : List (List Int)} (h : Cdone p gs ⟨pos, k, E, W⟩) (hm : mulC p (E.getD pos 0) (gs.getD k 0) ∈ E) : Cdone p gs ⟨pos, k + 1, E, V⟩ := by
  obtain ⟨i1, i2⟩ := h
  simp only [] at i1 i2
  refine ⟨i1, fun q hq hql => ?_⟩
  simp only [] at hq ⊢
  by_cases e : q = k
  · rw [e]; exact hm
  · exact i2 q (by omega) hql

theorem done_row {p : Int} {gs : List Nat} {pos k : Nat} {E : List Nat} {W V : List (List Int)} (h : Cdone p gs ⟨pos, k, E, W⟩) (hk : gs.length ≤ k) : Cdone p gs ⟨pos + 1, 0, E, V⟩ := by
  obtain ⟨i1, i2⟩ := h
  simp only [] at i1 i2
  refine ⟨fun j q hj hq => ?_, fun q hq _ => absurd hq (Nat.not_lt_zero _)⟩
  simp only [] at hj ⊢
  by_cases e : j = pos
  · rw [e]; exact i2 q (by omega) hq
  · exact i1 j q (by omega) hq

theorem rch_done {p : Int} {gs : List Nat} : ∀ n, Cdone p gs (citer p gs n)
  | 0 => ⟨fun j k hj _ => by simp [citer, cstart] at hj, fun k hk _ => by simp [citer, cstart] at hk⟩
  | n + 1 => by
    have ih := rch_done (p := p) (gs := gs) n
    show Cdone p gs (cstep p gs (citer p gs n))
    generalize citer p gs n = s at ih
    obtain ⟨pos, k, E, W⟩ := s
    unfold cstep
    simp only []
    by_cases ht : E.length ≤ pos ∨ 300 < E.length
    · rw [if_pos ht]; exact ih
    · rw [if_neg ht]
      by_cases hk : gs.length ≤ k
      · rw [if_pos hk]; exact done_row ih hk
      · rw [if_neg hk]
        by_cases hm : mulC p (E.getD pos 0) (gs.getD k 0) ∈ E
        · rw [if_pos hm]; exact done_old ih hm
        · rw [if_neg hm]; exact done_new ih (by omega) rfl

theorem fin_closed {p : Int} {gs : List Nat} (h1 : 1 ≤ p) (h5 : p ≤ 5) (hg : ∀ c ∈ gs, vld p c) (h3 : (cfin p gs).E.length ≤ 300) {c g : Nat} (hc : c ∈ (cfin p gs).E) (hgm : g ∈ gs) : mulC p c g ∈ (cfin p gs).E := by
  obtain ⟨⟨n, hn⟩, ht⟩ := cfin_rch h1 h5 hg
  have hd := rch_done (p := p) (gs := gs) n
  rw [← hn] at hd
  have hp : (cfin p gs).E.length ≤ (cfin p gs).pos := by
    rcases ht with h | h
    · exact h
    · omega
  obtain ⟨j, hj, e⟩ := List.mem_iff_getElem.1 hc
  obtain ⟨k, hk, e2⟩ := List.mem_iff_getElem.1 hgm
  have := hd.1 j k (by omega) hk
  rw [List.getD_eq_getElem?_getD, List.getElem?_eq_getElem hj, List.getD_eq_getElem?_getD, List.getElem?_eq_getElem hk] at this
  simp only [Option.getD_some, e, e2] at this
  exact this

theorem fin_id {p : Int} {gs : List Nat} (h1 : 1 ≤ p) (h5 : p ≤ 5) (hg : ∀ c ∈ gs, vld p c) : idC p ∈ (cfin p gs).E := by
  obtain ⟨⟨n, hn⟩, _⟩ := cfin_rch h1 h5 hg
  have hI := rch_inv h1 h5 hg n
  rw [← hn] at hI
  rw [← hI.hd]
  exact getD_mem hI.one

theorem fin_gen {p : Int} {gs : List Nat} (h1 : 1 ≤ p) (h5 : p ≤ 5) (hg : ∀ c ∈ gs, vld p c) (h3 : (cfin p gs).E.length ≤ 300) {g : Nat} (hgm : g ∈ gs) : g ∈ (cfin p gs).E := by
  have := fin_closed h1 h5 hg h3 (fin_id h1 h5 hg) hgm
  rwa [mulC_idl h1 h5 (hg g hgm)] at this

theorem fin_vld {p : Int} {gs : List Nat} (h1 : 1 ≤ p) (h5 : p ≤ 5) (hg : ∀ c ∈ gs, vld p c) {c : Nat} (hc : c ∈ (cfin p gs).E) : vld p c := by
  obtain ⟨⟨n, hn⟩, _⟩ := cfin_rch h1 h5 hg
  rw [hn] at hc
  exact (rch_inv h1 h5 hg n).vl c hc

theorem fin_ind {p : Int} {gs : List Nat} {P : Nat → Prop} (h1 : 1 ≤ p) (h5 : p ≤ 5) (hg : ∀ c ∈ gs, vld p c) (h0 : P (idC p)) (hs : ∀ c g, vld p c → g ∈ gs → P c → P (mulC p c g)) : ∀ c ∈ (cfin p gs).E, P c := by
  obtain ⟨⟨n, hn⟩, _⟩ := cfin_rch h1 h5 hg
  rw [hn]
  exact rch_ind h1 h5 hg h0 hs n

/-- The elements are closed under products. -/
theorem fin_mul {p : Int} {gs : List Nat} (h1 : 1 ≤ p) (h5 : p ≤ 5) (hg : ∀ c ∈ gs, vld p c) (h3 : (cfin p gs).E.length ≤ 300) {a : Nat} (ha : a ∈ (cfin p gs).E) : ∀ c ∈ (cfin p gs).E, mulC p a c ∈ (cfin p gs).E := by
  have hav := fin_vld h1 h5 hg ha
  refine fin_ind h1 h5 hg (by rw [mulC_idr h1 h5 hav]; exact ha) (fun c g hc hgm hP => ?_)
  rw [← mulC_assoc hav hc (hg g hgm)]
  exact fin_closed h1 h5 hg h3 hP hgm

/-! Zeros and maps that commute: it is enough to look at the maps of the list. -/

theorem fin_lzero {p : Int} {gs : List Nat} (h1 : 1 ≤ p) (h5 : p ≤ 5) (hg : ∀ c ∈ gs, vld p c) (h3 : (cfin p gs).E.length ≤ 300) {z : Nat} (hz : vld p z) : (∀ c ∈ (cfin p gs).E, mulC p z c = z) ↔ ∀ g ∈ gs, mulC p z g = z := by
  refine ⟨fun h g hgm => h g (fin_gen h1 h5 hg h3 hgm), fun h => ?_⟩
  refine fin_ind h1 h5 hg (mulC_idr h1 h5 hz) (fun c g hc hgm hP => ?_)
  rw [← mulC_assoc hz hc (hg g hgm), hP, h g hgm]

theorem fin_rzero {p : Int} {gs : List Nat} (h1 : 1 ≤ p) (h5 : p ≤ 5) (hg : ∀ c ∈ gs, vld p c) (h3 : (cfin p gs).E.length ≤ 300) {z : Nat} (hz : vld p z) : (∀ c ∈ (cfin p gs).E, mulC p c z = z) ↔ ∀ g ∈ gs, mulC p g z = z := by
  refine ⟨fun h g hgm => h g (fin_gen h1 h5 hg h3 hgm), fun h => ?_⟩
  refine fin_ind h1 h5 hg (mulC_idl h1 h5 hz) (fun c g hc hgm hP => ?_)
  rw [mulC_assoc hc (hg g hgm) hz, h g hgm, hP]

theorem fin_comm {p : Int} {gs : List Nat} (h1 : 1 ≤ p) (h5 : p ≤ 5) (hg : ∀ c ∈ gs, vld p c) (h3 : (cfin p gs).E.length ≤ 300) : (∀ c ∈ (cfin p gs).E, ∀ g ∈ gs, mulC p c g = mulC p g c) ↔ ∀ c ∈ gs, ∀ g ∈ gs, mulC p c g = mulC p g c := by
  refine ⟨fun h c hc g hgm => h c (fin_gen h1 h5 hg h3 hc) g hgm, fun h => ?_⟩
  refine fin_ind h1 h5 hg (fun g hgm => ?_) (fun c g hc hgm hP x hx => ?_)
  · rw [mulC_idl h1 h5 (hg g hgm), mulC_idr h1 h5 (hg g hgm)]
  · have hgv := hg g hgm
    have hxv := hg x hx
    rw [mulC_assoc hc hgv hxv, h g hgm x hx, ← mulC_assoc hc hxv hgv, hP x hx, mulC_assoc hxv hc hgv]

end Go.Proofs.Ytiogagaclhjdaaa
