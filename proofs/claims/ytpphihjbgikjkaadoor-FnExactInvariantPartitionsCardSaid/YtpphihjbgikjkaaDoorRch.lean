/- The points to which the maps of a list lead a point, told without Go. -/
import Derived.Test.YtpphihjbgikjkaaDoorOrt
import Derived.Test.YtpphihjbgikjkaaDoorChk
import Derived.Test.YtpphihjbgikjkaaDoorBitm
namespace Go.Proofs.YtpphihjbgikjkaaDoor
open Go Go.RowKit

/-- Where the map j of a list leads a point. -/
def stL (L : List MapN) (j x : Nat) : Nat := ((L.getD j z0).2 x).toNat

/-- What is told of a list of maps that is checked. -/
structure LOk (L : List MapN) (n : Nat) : Prop where
  len1 : 1 ≤ L.length
  len6 : L.length ≤ 6
  n1 : 1 ≤ n
  n5 : n ≤ 5
  pts : ∀ j, j < L.length → (L.getD j z0).1 = (n : Int)
  isb : ∀ j, j < L.length → isB (n : Int) (L.getD j z0).2 = true

theorem LOk.of {L : List MapN} (h : chkC L [] = 0) : ∃ n : Nat, LOk L n ∧ fst0 L = (n : Int) := by
  unfold chkC at h
  rw [List.append_nil] at h
  cases ha : allB L
  · rw [ha] at h; simp at h
  cases hs : sizeB L
  · rw [ha, hs] at h; simp at h
  cases hm : sameB (fst0 L) L
  · rw [ha, hs, hm] at h; simp at h
  unfold sizeB at hs
  simp only [Bool.and_eq_true, decide_eq_true_eq] at hs
  have h0 := allB_at ha 0 (by omega)
  obtain ⟨h1, h5⟩ := isB_pts h0
  obtain ⟨n, hn⟩ := Int.eq_ofNat_of_zero_le (show 0 ≤ fst0 L by unfold fst0; omega)
  have hn' : (L.getD 0 z0).1 = (n : Int) := hn
  refine ⟨n, ⟨hs.1, hs.2, by omega, by omega, fun j hj => by rw [sameB_at hm j hj]; exact hn, fun j hj => ?_⟩, hn⟩
  have := allB_at ha j hj
  rwa [sameB_at hm j hj, hn] at this

theorem LOk.eq {L : List MapN} {n : Nat} (h : LOk L n) : fst0 L = (n : Int) := h.pts 0 (by have := h.len1; omega)

theorem LOk.step {L : List MapN} {n : Nat} (h : LOk L n) {j x : Nat} (hj : j < L.length) (hx : x < n) : ((L.getD j z0).2 x) = (stL L j x : Int) ∧ stL L j x < n := by
  obtain ⟨h0, h1, _⟩ := ok_at (h.isb j hj) x (by omega)
  unfold stL
  omega

/-- A point is reached from c. -/
def Rch (L : List MapN) (c j : Nat) : Prop := ∀ Q : Nat → Prop, Q c → (∀ x, Q x → ∀ i, i < L.length → Q (stL L i x)) → Q j

theorem Rch.refl (L : List MapN) (c : Nat) : Rch L c c := fun _ h _ => h
theorem Rch.step {L : List MapN} {c x : Nat} (h : Rch L c x) {i : Nat} (hi : i < L.length) : Rch L c (stL L i x) := fun Q h0 hs => hs _ (h Q h0 hs) i hi
theorem Rch.trans {L : List MapN} {a b c : Nat} (h : Rch L a b) (h2 : Rch L b c) : Rch L a c := h2 (Rch L a) h (fun _ hx _ hi => hx.step hi)
theorem Rch.lt {L : List MapN} {n : Nat} (h : LOk L n) {c x : Nat} (hc : c < n) (hr : Rch L c x) : x < n := hr (fun x => x < n) hc (fun _ hx _ hi => (h.step hi hx).2)

open Classical in
/-- The points that are reached from c. -/
noncomputable def rchS (L : List MapN) (c : Nat) : Nat → Bool := fun j => decide (Rch L c j)
theorem rchS_true {L : List MapN} {c j : Nat} : rchS L c j = true ↔ Rch L c j := by classical exact decide_eq_true_iff

theorem orbt_rch {L : List MapN} {P : Nat → Prop} {c : Nat} {E : List Nat} (h : Orbt (stL L) L.length P c E) (x : Nat) : x ∈ E ↔ Rch L c x :=
  ⟨h.least (Rch L c) (Rch.refl L c) (fun _ hx _ _ hj => hx.step hj) x, fun hr => hr (fun x => x ∈ E) h.first (fun x hx i hi => h.closed x hx i hi)⟩

theorem memB_in (L : List Int) (j : Nat) : memB L j = true ↔ (j : Int) ∈ L := by
  unfold memB memK
  rw [List.any_eq_true]
  constructor
  · rintro ⟨i, hi, he⟩
    rw [List.mem_range] at hi
    rw [beq_iff_eq] at he
    rw [← he, List.getD_eq_getElem?_getD, List.getElem?_eq_getElem hi]
    exact List.getElem_mem hi
  · intro h
    obtain ⟨i, hi, he⟩ := List.getElem_of_mem h
    refine ⟨i, List.mem_range.2 hi, ?_⟩
    rw [beq_iff_eq, List.getD_eq_getElem?_getD, List.getElem?_eq_getElem hi]
    exact he

/-- A set closed under the maps that holds c and of which all is reached is what is reached. -/
theorem rchS_of {L : List MapN} {n : Nat} (hok : LOk L n) {c : Nat} {s : Nat → Bool} (hc : s c = true) (hr : ∀ j, s j = true → Rch L c j) (hcl : ∀ i, i < L.length → ∀ j, movK (L.getD i z0).2 s n j = true → s j = true) (hcn : c < n) : s = rchS L c := by
  have hin : ∀ x, Rch L c x → x < n ∧ s x = true := fun x hx => hx (fun x => x < n ∧ s x = true) ⟨hcn, hc⟩ (fun y ⟨hy, hs⟩ i hi => by
    obtain ⟨he, hl⟩ := hok.step hi hy
    refine ⟨hl, hcl i hi _ ?_⟩
    unfold movK
    rw [List.any_eq_true]
    exact ⟨y, List.mem_range.2 hy, by rw [hs, he]; simp⟩)
  funext j
  cases hj : s j
  · cases hk : rchS L c j
    · rfl
    · rw [(hin j (rchS_true.1 hk)).2] at hj; cases hj
  · exact (rchS_true.2 (hr j hj)).symm

/-- Two sets put together. -/
def unB (a b : Nat → Bool) : Nat → Bool := fun j => a j || b j
theorem or_bits : ∀ a0 a1 a2 a3 a4 b0 b1 b2 b3 b4 : Bool, bits BinOp.or IntKind.i64 (bi a0 1 + bi a1 2 + bi a2 4 + bi a3 8 + bi a4 16) (bi b0 1 + bi b1 2 + bi b2 4 + bi b3 8 + bi b4 16) = bi (a0 || b0) 1 + bi (a1 || b1) 2 + bi (a2 || b2) 4 + bi (a3 || b3) 8 + bi (a4 || b4) 16 := by decide +kernel
theorem or_masks (a b : Nat → Bool) : bits BinOp.or IntKind.i64 (mask a) (mask b) = mask (unB a b) := or_bits _ _ _ _ _ _ _ _ _ _

theorem ext_bits : ∀ a0 a1 a2 a3 a4 b0 b1 b2 b3 b4 : Bool, bi a0 1 + bi a1 2 + bi a2 4 + bi a3 8 + bi a4 16 = bi b0 1 + bi b1 2 + bi b2 4 + bi b3 8 + bi b4 16 → a0 = b0 ∧ a1 = b1 ∧ a2 = b2 ∧ a3 = b3 ∧ a4 = b4 := by decide +kernel
theorem mask_ext {a b : Nat → Bool} (h : mask a = mask b) : ∀ j, j < 5 → a j = b j := by
  obtain ⟨h0, h1, h2, h3, h4⟩ := ext_bits _ _ _ _ _ _ _ _ _ _ h
  intro j hj
  rcases (by omega : j = 0 ∨ j = 1 ∨ j = 2 ∨ j = 3 ∨ j = 4) with rfl | rfl | rfl | rfl | rfl <;> assumption

theorem mask_un_le (a b : Nat → Bool) : mask a ≤ mask (unB a b) := by
  unfold mask unB bi
  have h : ∀ x y : Bool, ∀ k : Int, 0 ≤ k → (if x = true then k else 0) ≤ (if (x || y) = true then k else 0) := fun x y k hk => by cases x <;> cases y <;> simp <;> omega
  have := h (a 0) (b 0) 1 (by omega)
  have := h (a 1) (b 1) 2 (by omega)
  have := h (a 2) (b 2) 4 (by omega)
  have := h (a 3) (b 3) 8 (by omega)
  have := h (a 4) (b 4) 16 (by omega)
  omega
end Go.Proofs.YtpphihjbgikjkaaDoor
