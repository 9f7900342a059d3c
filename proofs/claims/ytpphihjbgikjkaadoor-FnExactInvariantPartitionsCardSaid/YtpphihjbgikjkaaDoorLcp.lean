/- Lists of classes, told without Go: their code, their maps, the images that spec writes one by one; a map appended to a list of maps. -/
import Derived.Test.YtpphihjbgikjkaaDoorSgv
import Derived.Test.YtpphihjbgikjkaaDoorConc
import Derived.Maps.AppendAt
namespace Go.Proofs.YtpphihjbgikjkaaDoor
open Go Go.RowKit

/-- The code of ListOfClasses. -/
def locC (L : List MapN) (P : List Int) : Int := if ptC L P = 0 then (if invB L P (fst0 L).toNat = true then 0 else 5) else ptC L P
/-- The maps of classes. -/
def locM (L : List MapN) (P : List Int) (n : Nat) : List MapN := L.map fun x => ((nxK P n : Int), qmF P x.2 n)
def locL (L : List MapN) (P : List Int) : List MapN := if locC L P = 0 then locM L P (fst0 L).toNat else []
theorem locM_len (L : List MapN) (P : List Int) (n : Nat) : (locM L P n).length = L.length := by simp [locM]
theorem locM_succ {L : List MapN} (P : List Int) (n : Nat) {k : Nat} (h : k < L.length) : locM (L.take (k + 1)) P n = locM (L.take k) P n ++ [((nxK P n : Int), qmF P (L.getD k z0).2 n)] := by
  unfold locM
  rw [List.take_add_one, List.getElem?_eq_getElem h, List.map_append, List.getD_eq_getElem?_getD, List.getElem?_eq_getElem h]
  rfl

theorem ptC_zero {L : List MapN} {P : List Int} (h : ptC L P = 0) : chkC L [] = 0 ∧ parB P (fst0 L).toNat = true := by
  by_cases hc : chkC L [] = 0
  · refine ⟨hc, ?_⟩
    cases hp : parB P (fst0 L).toNat
    · unfold ptC at h
      rw [if_pos hc, hp] at h
      cases h
    · rfl
  · rw [ptC_bad hc] at h
    exact absurd h hc

/-- The images that are written for the first j points. -/
def imK (P : List Int) (t : Nat → Int) : Nat → Nat → Int
  | 0 => fun _ => 0
  | j + 1 => upd (imK P t j) (P.getD j 0).toNat (P.getD (t j).toNat 0)
theorem imK_succ (P : List Int) (t : Nat → Int) (j : Nat) : imK P t (j + 1) = upd (imK P t j) (P.getD j 0).toNat (P.getD (t j).toNat 0) := rfl
theorem imK_at {P : List Int} {t : Nat → Int} {n : Nat} (hok : ∀ j, j < n → okP P j = true) (hi : invT P t n = true) {c : Nat} (hc : c < nxK P n) : ∀ j, j ≤ n → (∃ p, p < j ∧ P.getD p 0 = (c : Int)) → imK P t j c = P.getD (t (fpC P n c)).toNat 0
  | 0, _, h => by obtain ⟨p, hp, _⟩ := h; omega
  | j + 1, hj, h => by
    obtain ⟨_, hf1, hf2⟩ := fpC_in hok hc
    rw [imK_succ]
    unfold upd
    by_cases e : c = (P.getD j 0).toNat
    · rw [if_pos e]
      have h0 := (okP_iff.1 (hok j (by omega))).1
      exact invT_iff.1 hi j (by omega) _ hf1 (by rw [hf2]; omega)
    · rw [if_neg e]
      obtain ⟨p, hp, hpc⟩ := h
      refine imK_at hok hi hc j (by omega) ⟨p, ?_, hpc⟩
      by_cases ep : p = j
      · subst ep; rw [hpc] at e; exact absurd rfl e
      · omega
theorem imK_all {P : List Int} {t : Nat → Int} {n : Nat} (hok : ∀ j, j < n → okP P j = true) (hi : invT P t n = true) (c : Nat) (hc : c < nxK P n) : imK P t n c = qmF P t n c := by
  obtain ⟨_, hf1, hf2⟩ := fpC_in hok hc
  rw [imK_at hok hi hc n (Nat.le_refl _) ⟨_, hf1, hf2⟩]
  exact (qmK_at P t n _ c hc).symm
/-- Numbers as a list. -/
def rgL (V : Nat → Int) (m : Nat) : List Int := (List.range m).map V
theorem rgL_len (V : Nat → Int) (m : Nat) : (rgL V m).length = m := by simp [rgL]
theorem rgL_at (V : Nat → Int) (m j : Nat) (h : j < m) : (rgL V m).getD j 0 = V j := by simp [rgL, h]
theorem tL_rg {P : List Int} {t : Nat → Int} {n : Nat} (hok : ∀ j, j < n → okP P j = true) (hi : invT P t n = true) : tL (rgL (imK P t n) (nxK P n)) = qmF P t n := by
  funext c
  unfold tL
  by_cases hc : c < nxK P n
  · rw [rgL_at _ _ _ hc, imK_all hok hi c hc]
  · rw [List.getD_eq_getElem?_getD, List.getElem?_eq_none (by rw [rgL_len]; omega)]
    unfold qmF qmK
    rw [if_neg hc]
    rfl

theorem at_oneM {w : World} {b : Nat} {y : MapN} (hb : w.heap[b]? = some (.cells (mcells y.1 y.2) 49 (0, 0))) : ∀ j, j < [y].length → AtM w b 0 j ([y].getD j z0) := by
  intro j hj
  have : j = 0 := by simp at hj; omega
  subst this
  obtain ⟨x0, x1, x2, x3, x4, x5⟩ := blk6 hb
  exact ⟨x0, x1, x2, x3, x4, x5⟩

/-- append of one map that lies in a block of its own. -/
theorem wpList_apM1 {ops : Array Oper} {rest : List Oper} {o : Oper} {ac : Act} {Q : Exit → Act → World → Prop} {w : World} (hgd : o.guard = none) (s x : Operand)
    (ho : o.op = .call { callee := .builtin .append, args := #[s, x], argTypes := #[27, 27] })
    (base : Nat) (v : Value) (M : List MapN) (hs : ac.eval s = v) (hown : OwnM w base v M) (b c : Nat) (y : MapN) (hx : ac.eval x = .slice (some ⟨b, 0, none⟩) 1 c) (hb : w.heap[b]? = some (.cells (mcells y.1 y.2) 49 (0, 0)))
    (hlen : M.length ≤ 1000000) (hbase : base ≤ w.heap.size)
    (h : ∀ v' w', OwnM w' base v' (M ++ [y]) → w.grownBy w' v.ownBlock → wpList Tryd.prog ops Q rest (ac.put o.dst v') w') : wpList Tryd.prog ops Q (o :: rest) ac w := by
  obtain ⟨i0, hi, hz0, hz1, hz2⟩ := info_parts info_map
  refine wpList_append_own_at w hgd s x _ ho base 49 i0 _ 6 48 Tryd.underlying27 hi hz0 hz1 hz2 rfl (by decide) v M.length (mcels M) hs hown ⟨b, 0, none⟩ 1 c (mcels [y]) hx rfl (rowM_cells (L := [y]) (at_oneM hb)) (mcels_one [y]) (by unfold maxLen; omega) (by omega) hbase ?_
  intro v' w' h1 h2 _ h4
  refine h v' w' ?_ h2
  unfold OwnM
  rw [mcels_app, List.length_append]
  exact h1

theorem ownM_empty (w : World) (base : Nat) (h : base ≤ w.heap.size) : OwnM (w.alloc (.cells #[] 49)) base (.slice (some ⟨w.heap.size, 0, none⟩) 0 0) [] :=
  ⟨rfl, Or.inr ⟨_, 0, #[], rfl, h, halloc_at _ _ _ rfl, Nat.le_refl _, Nat.zero_le _, rfl, rfl⟩⟩

/-- The call returns a list of maps of its own and a code. -/
def RetRowN (B : Nat) (L : List MapN) (c : Int) (w : World) (e : Ending) (w' : World) : Prop :=
  ∃ a cap, e = .returned (.tuple #[.slice a L.length cap, .int .i64 c]) ∧ RdM w' B a L ∧ Below w.heap.size w w'
end Go.Proofs.YtpphihjbgikjkaaDoor
