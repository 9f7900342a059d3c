/- What a piece of a run has turned of the memory. -/
import Derived.Test.YtiogagaclhjdaaaConc
namespace Go.Proofs.Ytiogagaclhjdaaa
open Go Go.RowKit

theorem ownM_bel {w w' : World} {B : Nat} {v : Value} {L : List MapN} (h : OwnM w B v L) (hb : Below w.heap.size w w') : OwnM w' B v L := by
  unfold OwnM at *
  exact h.kept (row := none) ⟨hb.os, hb.tape, hb.output, hb.size, fun j hj _ => hb.block j hj⟩ (by cases hv : v.ownBlock <;> simp)

/-- Of the world nothing has turned but what S names. -/
structure Turn (w w' : World) (S : Nat → Prop) : Prop where
  os : w'.os = w.os
  tape : w'.tape = w.tape
  output : w'.output = w.output
  size : w.heap.size ≤ w'.heap.size
  block : ∀ k, k < w.heap.size → ¬ S k → w'.heap[k]? = w.heap[k]?

theorem Turn.of_below {w w' : World} {S : Nat → Prop} (h : Below w.heap.size w w') : Turn w w' S := ⟨h.os, h.tape, h.output, h.size, fun k hk _ => h.block k hk⟩

theorem Turn.trans {a b c : World} {S : Nat → Prop} (h : Turn a b S) (k : Turn b c S) : Turn a c S :=
  ⟨k.os.trans h.os, k.tape.trans h.tape, k.output.trans h.output, Nat.le_trans h.size k.size, fun i hi hs => (k.block i (Nat.lt_of_lt_of_le hi h.size) hs).trans (h.block i hi hs)⟩

theorem Turn.mono {w w' : World} {S T : Nat → Prop} (h : Turn w w' S) (hs : ∀ k, k < w.heap.size → S k → T k) : Turn w w' T :=
  ⟨h.os, h.tape, h.output, h.size, fun k hk hn => h.block k hk (fun hS => hn (hs k hk hS))⟩

theorem Turn.grown {a b c : World} {S : Nat → Prop} {row : Option Nat} (h : Turn a b S) (hg : b.grownBy c row) (hr : ∀ k, k < a.heap.size → some k = row → S k) : Turn a c S :=
  ⟨hg.os.trans h.os, hg.tape.trans h.tape, hg.output.trans h.output, Nat.le_trans h.size hg.size, fun k hk hn => (hg.block k (Nat.lt_of_lt_of_le hk h.size) (fun e => hn (hr k hk e))).trans (h.block k hk hn)⟩

theorem Turn.setCell {a b : World} {S : Nat → Prop} {g o : Nat} {v : Value} (h : Turn a b S) (hS : S g) : Turn a (b.setCell ⟨g, o, none⟩ v) S :=
  ⟨h.os, h.tape, h.output, by simpa using h.size, fun k hk hn => (hset_ne _ _ _ _ (fun e => hn (by have : k = g := e; rw [this]; exact hS))).trans (h.block k hk hn)⟩

theorem Turn.at_ {w w' : World} {S : Nat → Prop} {b : Nat} {o : Obj} (h : Turn w w' S) (hb : w.heap[b]? = some o) (hS : ¬ S b) : w'.heap[b]? = some o := (h.block b (Array.getElem?_eq_some_iff.1 hb).1 hS).trans hb

theorem Turn.own {w w' : World} {S : Nat → Prop} {base e size n : Nat} {v : Value} {xs : List Value} (h : Turn w w' S) (ho : w.ownsRow base e size v n xs) (hS : ∀ r, v.ownBlock = some r → ¬ S r) : w'.ownsRow base e size v n xs := by
  refine ⟨ho.1, ?_⟩
  rcases ho.2 with hn | ⟨g, cap, cur, rfl, hb, hg, rest⟩
  · exact Or.inl hn
  · exact Or.inr ⟨g, cap, cur, rfl, hb, h.at_ hg (hS g rfl), rest⟩

end Go.Proofs.Ytiogagaclhjdaaa
