/- Orbits and stabilizers: as many permutations lead a map to each map of its orbit. -/
import Derived.Test.YtfghegjlilcafaaPrm
namespace Go.Proofs.Ytfghegjlilcafaa

/-- The permutations that lead c to y. -/
def fbL (n c y : Nat) : List Nat := (olN n).filter fun q => decide (rnC n c q = y)
theorem fbL_mem {n c y q : Nat} : q ∈ fbL n c y ↔ q ∈ olN n ∧ rnC n c q = y := by
  unfold fbL
  rw [List.mem_filter, decide_eq_true_iff]

theorem sum_ind (x : Nat) : ∀ E : List Nat, E.Nodup → x ∈ E → (E.map fun y => if x = y then 1 else 0).sum = 1
  | [], _, h => by cases h
  | y :: E, hn, h => by
    rw [List.nodup_cons] at hn
    rw [List.map_cons, List.sum_cons]
    by_cases e : x = y
    · subst e
      rw [if_pos rfl]
      have : ∀ F : List Nat, x ∉ F → (F.map fun y => if x = y then 1 else 0).sum = 0 := by
        intro F
        induction F with
        | nil => intro _; rfl
        | cons z F ih =>
          intro hx
          rw [List.map_cons, List.sum_cons, if_neg (fun e => hx (by rw [e]; exact List.mem_cons_self)), ih (fun h => hx (List.mem_cons_of_mem _ h))]
      rw [this E hn.1]
    · rw [if_neg e, sum_ind x E hn.2 (by rcases List.mem_cons.1 h with h | h; exact absurd h e; exact h)]
theorem sum_add (a b : Nat → Nat) : ∀ E : List Nat, (E.map fun y => a y + b y).sum = (E.map a).sum + (E.map b).sum
  | [] => rfl
  | y :: E => by
    simp only [List.map_cons, List.sum_cons]
    rw [sum_add a b E]
    omega
theorem sum_fib (g : Nat → Nat) (E : List Nat) (hn : E.Nodup) : ∀ O : List Nat, (∀ q, q ∈ O → g q ∈ E) → (E.map fun y => (O.filter fun q => decide (g q = y)).length).sum = O.length
  | [], _ => by
    have : ∀ F : List Nat, (F.map fun _ => 0).sum = 0 := by
      intro F
      induction F with
      | nil => rfl
      | cons z F ih => rw [List.map_cons, List.sum_cons, ih]
    simpa using this E
  | q :: O, h => by
    have ih := sum_fib g E hn O (fun x hx => h x (List.mem_cons_of_mem _ hx))
    have e : (fun y => ((q :: O).filter fun q => decide (g q = y)).length) = fun y => (O.filter fun q => decide (g q = y)).length + (if g q = y then 1 else 0) := by
      funext y
      by_cases e : g q = y
      · rw [List.filter_cons_of_pos (by simp [e]), if_pos e, List.length_cons]
      · rw [List.filter_cons_of_neg (by simp [e]), if_neg e, Nat.add_zero]
    rw [e, sum_add, ih, sum_ind (g q) E hn (h q List.mem_cons_self), List.length_cons]
theorem sum_const (k : Nat) (a : Nat → Nat) : ∀ E : List Nat, (∀ y, y ∈ E → a y = k) → (E.map a).sum = E.length * k
  | [], _ => by simp
  | y :: E, h => by
    rw [List.map_cons, List.sum_cons, sum_const k a E (fun x hx => h x (List.mem_cons_of_mem _ hx)), h y List.mem_cons_self, List.length_cons, Nat.succ_mul]
    omega
theorem nodup_mapI {g : Nat → Nat} : ∀ L : List Nat, L.Nodup → (∀ x, x ∈ L → ∀ y, y ∈ L → g x = g y → x = y) → (L.map g).Nodup
  | [], _, _ => List.nodup_nil
  | x :: L, hn, h => by
    rw [List.nodup_cons] at hn
    rw [List.map_cons, List.nodup_cons]
    refine ⟨fun hm => ?_, nodup_mapI L hn.2 (fun a ha b hb => h a (List.mem_cons_of_mem _ ha) b (List.mem_cons_of_mem _ hb))⟩
    obtain ⟨y, hy, e⟩ := List.mem_map.1 hm
    have := h y (List.mem_cons_of_mem _ hy) x List.mem_cons_self e
    rw [this] at hy
    exact hn.1 hy

def ddp : List Nat → List Nat
  | [] => []
  | x :: L => if x ∈ L then ddp L else x :: ddp L
theorem ddp_mem (y : Nat) : ∀ L : List Nat, y ∈ ddp L ↔ y ∈ L
  | [] => Iff.rfl
  | x :: L => by
    unfold ddp
    split
    · next h => rw [ddp_mem y L, List.mem_cons]; exact ⟨Or.inr, fun h' => h'.elim (fun e => e ▸ h) id⟩
    · rw [List.mem_cons, List.mem_cons, ddp_mem y L]
theorem ddp_nd : ∀ L : List Nat, (ddp L).Nodup
  | [] => List.nodup_nil
  | x :: L => by
    unfold ddp
    split
    · exact ddp_nd L
    · next h => rw [List.nodup_cons, ddp_mem]; exact ⟨h, ddp_nd L⟩

section ost
variable {n : Nat} (h1 : 1 ≤ n) (h5 : n ≤ 5)
include h1 h5
theorem ol_nodup : (olN n).Nodup := of_decide_eq_true (all5 (P := fun n => decide (olN n).Nodup) ol_nd h1 h5)
theorem fb_le {c z s : Nat} (hc : vld (n : Int) c) (hs : s ∈ olN n) : (fbL n c z).length ≤ (fbL n c (rnC n z s)).length := by
  have hnd : ((fbL n c z).map fun q => mulC (n : Int) q s).Nodup := by
    refine nodup_mapI _ ((ol_nodup h1 h5).filter _) fun x hx y hy e => ?_
    obtain ⟨r, hr, e1, _⟩ := ol_inv h1 h5 hs
    have hxv := (ol_vld h1 h5 (fbL_mem.1 hx).1).1
    have hyv := (ol_vld h1 h5 (fbL_mem.1 hy).1).1
    have hsv := (ol_vld h1 h5 hs).1
    have hrv := (ol_vld h1 h5 hr).1
    have e2 := congrArg (fun z => mulC (n : Int) z r) e
    rw [mulC_ass hxv hsv hrv, mulC_ass hyv hsv hrv, e1, (mulC_id hxv).1, (mulC_id hyv).1] at e2
    exact e2
  have := nodup_sub _ (fbL n c (rnC n z s)) hnd (fun x hx => by
    obtain ⟨q, hq, rfl⟩ := List.mem_map.1 hx
    obtain ⟨hq1, hq2⟩ := fbL_mem.1 hq
    refine fbL_mem.2 ⟨ol_mul h1 h5 hs hq1, ?_⟩
    rw [← rn_mul h1 h5 hc hq1 hs, hq2])
  rw [List.length_map] at this
  exact this
theorem fb_eq {c q : Nat} (hc : vld (n : Int) c) (hq : q ∈ olN n) : (fbL n c (rnC n c q)).length = (fbL n c c).length := by
  obtain ⟨r, hr, e1, _⟩ := ol_inv h1 h5 hq
  have a := fb_le h1 h5 (z := c) hc hq
  have b := fb_le h1 h5 (z := rnC n c q) hc hr
  rw [rn_mul h1 h5 hc hq hr, e1, rn_id h1 h5 hc] at b
  omega
/-- As many maps in the orbit, times as many permutations that keep the map, are all permutations. -/
theorem im_st {c : Nat} {E : List Nat} (hc : vld (n : Int) c) (hn : E.Nodup) (h : ∀ y, y ∈ E ↔ ∃ q, q ∈ olN n ∧ y = rnC n c q) : E.length * (fbL n c c).length = (olN n).length := by
  rw [← sum_fib (fun q => rnC n c q) E hn (olN n) (fun q hq => (h _).2 ⟨q, hq, rfl⟩)]
  symm
  refine sum_const _ _ E fun y hy => ?_
  obtain ⟨q, hq, rfl⟩ := (h _).1 hy
  exact fb_eq h1 h5 hc hq
theorem orb_st {c : Nat} {E : List Nat} (hc : vld (n : Int) c) (h : Orbt (rnA n) (n - 1) (vld (n : Int)) c E) : E.length * (fbL n c c).length = (olN n).length :=
  im_st h1 h5 hc h.nd (orb_rn h1 h5 hc h)
theorem im_ex {c : Nat} (hc : vld (n : Int) c) : ∃ m, m * (fbL n c c).length = (olN n).length :=
  ⟨_, im_st h1 h5 hc (ddp_nd ((olN n).map fun q => rnC n c q)) (fun y => by
    rw [ddp_mem, List.mem_map]
    exact ⟨fun ⟨q, hq, e⟩ => ⟨q, hq, e.symm⟩, fun ⟨q, hq, e⟩ => ⟨q, hq, e.symm⟩⟩)⟩
theorem fb_pos {c : Nat} (hc : vld (n : Int) c) : 0 < (fbL n c c).length := List.length_pos_of_mem (fbL_mem.2 ⟨olid h1 h5, rn_id h1 h5 hc⟩)
end ost

end Go.Proofs.Ytfghegjlilcafaa
