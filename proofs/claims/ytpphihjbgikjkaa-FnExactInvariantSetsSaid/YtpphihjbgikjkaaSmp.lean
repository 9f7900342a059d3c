/- Sets that are kept as Go maps to true: of numbers, and of maps by their numbers. -/
import Derived.Test.YtpphihjbgikjkaaKey
import Derived.Test.YtpphihjbgikjkaaCode
import Derived.Maps.OwnSet
import Derived.Maps.OwnOps
import Derived.Maps.OwnIn
namespace Go.Proofs.Ytpphihjbgikjkaa
open Go Go.RowKit Go.Maps

/-- A value read as itself. -/
def selR (v : Value) : Option (DataW Value × List MemPlace) := some (.held v, [])
theorem selR_inv {v : Value} {d : DataW Value} {ps : List MemPlace} (h : selR v = some (d, ps)) : d = .held v := by
  unfold selR at h; injection h with h; injection h with h _; exact h.symm

/-- The datum of the map that holds these. -/
def setD (ky : Nat → Lit) : List Nat → DataW Value
  | [] => .map []
  | c :: l => (setD ky l).put (ky c) (.held (.bool true))

/-- What the keys are. -/
structure KyLaw (T : TypeId) (kv : Nat → Value) (ky : Nat → Lit) (P : Nat → Prop) : Prop where
  law : Keyed Try.prog T
  key : ∀ c, P c → keyOf Try.prog T (kv c) = some (ky c)
  inj : ∀ a b, P a → P b → ky a = ky b → a = b

variable {T : TypeId} {kv : Nat → Value} {ky : Nat → Lit} {P : Nat → Prop}

theorem setD_tidy (h : KyLaw T kv ky P) : ∀ {l : List Nat}, (∀ x ∈ l, P x) → Tidy (setD ky l)
  | [], _ => tidy_empty
  | c :: _, hl => (setD_tidy h fun x hx => hl x (List.mem_cons_of_mem _ hx)).put (h.law.key (h.key c (hl c (by simp)))) _

theorem setD_in (h : KyLaw T kv ky P) {c : Nat} (hc : P c) (z : DataW Value) : ∀ {l : List Nat}, (∀ x ∈ l, P x) → c ∈ l → (setD ky l).atKey (ky c) z = .held (.bool true)
  | [], _, hm => by cases hm
  | a :: l, hl, hm => by
    show ((setD ky l).put _ _).atKey _ _ = _
    have hl' := fun x hx => hl x (List.mem_cons_of_mem a hx)
    have ha := hl a (by simp)
    by_cases e : c = a
    · rw [e, atKey_put_same (setD_tidy h hl').isMap (h.law.key (h.key a ha))]
    · rw [atKey_put_other (fun q => e (h.inj _ _ hc ha q))]
      rcases List.mem_cons.1 hm with e2 | hm
      · exact absurd e2 e
      · exact setD_in h hc z hl' hm

theorem setD_out (h : KyLaw T kv ky P) {c : Nat} (hc : P c) (z : DataW Value) : ∀ {l : List Nat}, (∀ x ∈ l, P x) → c ∉ l → (setD ky l).atKey (ky c) z = z
  | [], _, _ => rfl
  | a :: l, hl, hm => by
    show ((setD ky l).put _ _).atKey _ _ = _
    rw [List.mem_cons, not_or] at hm
    rw [atKey_put_other (fun q => hm.1 (h.inj _ _ hc (hl a (by simp)) q))]
    exact setD_out h hc z (fun x hx => hl x (List.mem_cons_of_mem a hx)) hm.2

/-- The Go map in block b holds just the numbers of F. -/
def SetM (T : TypeId) (ky : Nat → Lit) (P : Nat → Prop) (w : World) (b : Nat) (F : List Nat) : Prop := w.ownsMap Try.prog T selR b F.length (setD ky F.reverse) ∧ ∀ x ∈ F, P x

theorem SetM.kept {w w' : World} {b : Nat} {F : List Nat} {row : Option Nat} (h : SetM T ky P w b F) (hg : w.grownBy w' row) (hne : some b ≠ row) : SetM T ky P w' b F := ⟨h.1.kept hg hne, h.2⟩
theorem SetM.below {w w' : World} {b : Nat} {F : List Nat} (h : SetM T ky P w b F) (hb : Below w.heap.size w w') : SetM T ky P w' b F := h.kept (row := none) ⟨hb.os, hb.tape, hb.output, hb.size, fun j hj _ => hb.block j hj⟩ (by simp)
theorem setM_made (w : World) : SetM T ky P (w.alloc (.map #[] 0)) w.heap.size [] := ⟨World.ownsMap_made _ _ _ _, fun x hx => by cases hx⟩

theorem SetM.put {w : World} {b c : Nat} {F : List Nat} (hF : ∀ x ∈ F, P x) (hc : P c) (h : w.ownsMap Try.prog T selR b (F.length + 1) ((setD ky F.reverse).put (ky c) (.held (.bool true)))) : SetM T ky P w b (F ++ [c]) := by
  refine ⟨?_, fun x hx => ?_⟩
  · rw [List.reverse_append, List.length_append]
    exact h
  · rcases List.mem_append.1 hx with hx | hx
    · exact hF x hx
    · rw [List.mem_singleton.1 hx]; exact hc

set_option maxRecDepth 100000 in
theorem SetM.look {MT : TypeId} (hMT : Try.prog.underlying MT = some (.map T 4)) {w : World} {b c : Nat} {F : List Nat} (hk : KyLaw T kv ky P) (h : SetM T ky P w b F) (hc : P c) :
    ∀ x : World, x.heap = w.heap → (Instr.lookup MT (.map (some b)) (kv c) false).run Try.prog x = .ok (.bool (decide (c ∈ F))) x := fun x hx => by
  have hown : x.ownsMap Try.prog T selR b F.length (setD ky F.reverse) := by
    obtain ⟨es, clock, hb, F, hs, hD⟩ := h.1
    exact ⟨es, clock, by rw [hx]; exact hb, F, hs, hD⟩
  have hz : (zeroValue 4).run Try.prog x = .ok (.bool false) x := by kernel_rfl
  obtain ⟨v, ps, hr, hv⟩ := hown.lookup hk.law hMT hz (zd := .held (.bool false)) (zp := []) rfl (hk.key c hc)
  have hvl : ∀ y ∈ F.reverse, P y := fun y hy => h.2 y (List.mem_reverse.1 hy)
  have e1 := selR_inv hv
  by_cases hm : c ∈ F
  · rw [setD_in hk hc _ hvl (List.mem_reverse.2 hm)] at e1
    injection e1 with e1
    rw [hr, ← e1, decide_eq_true hm]
  · rw [setD_out hk hc _ hvl (fun h => hm (List.mem_reverse.1 h))] at e1
    injection e1 with e1
    rw [hr, ← e1, decide_eq_false hm]

theorem SetM.apart {w : World} {b : Nat} {F : List Nat} (h : SetM T ky P w b F) {B2 T2 s2 n2 : Nat} {v2 : Value} {x2 : List Value} (h2 : w.ownsRow B2 T2 s2 v2 n2 x2) : some b ≠ v2.ownBlock := fun e => by
  obtain ⟨es, clock, hbm, _⟩ := h.1
  rcases h2.2 with ⟨rfl, _⟩ | ⟨g2, c2, cur2, rfl, _, hg2, _⟩
  · simp [Value.ownBlock] at e
  · have e' : b = g2 := by simpa [Value.ownBlock] using e
    subst e'
    rw [hbm] at hg2; cases hg2

/-- An entry of a map's literal. -/
theorem wpList_insert_own9 {H : Type} {Pr : Program} (w : World) {ops : Array Oper} {rest : List Oper} {o : Oper} {a : Act} {Q : Exit → Act → World → Prop}
    (hg : o.guard = none) (m x v : Operand) (t : TypeId) (hop : o.op = Op.insert t m x v)
    (k e : TypeId) (K : Keyed Pr k) (ht : Pr.underlying t = some (.map k e)) (R : Value → Option (DataW H × List MemPlace)) (b n : Nat) (D : DataW H)
    (hm : a.eval m = .map (some b)) (hown : w.ownsMap Pr k R b n D) (hn : n < maxLen) (key val : Value) (kl : Lit) (hx : a.eval x = key) (hv : a.eval v = val) (hkey : keyOf Pr k key = some kl)
    (d : DataW H) (ps : List MemPlace) (hval : R val = some (d, ps))
    (hK : ∀ w', w'.ownsMap Pr k R b (n + 1) (D.put kl d) → w.grownBy w' (some b) → wpList Pr ops Q rest (a.put o.dst undef) w') :
    wpList Pr ops Q (o :: rest) a w := by
  refine wpList_plain hg fun K' hK' => ?_
  obtain ⟨w', hrun, r1, r2⟩ := hown.update K ht hn hkey hval
  unfold Oper.wp
  simp [execOp, hop, hm, hx, hv, hrun, Result.andThen]
  exact hK' _ _ (hK w' r1 r2)

/-- Keys that are small numbers. -/
theorem kyInt (n : Nat) (hn : n ≤ 1000000) : KyLaw 2 (fun c => .int .i64 (c : Int)) (fun c => .int .i64 (c : Int)) (fun c => c < n) :=
  ⟨int_keyed Try.underlying2, fun c hc => keyOf_int_mk Try.underlying2 (WalkArith.wf_i64 (by omega)), fun a b _ _ e => by injection e with _ e; omega⟩

/-- Keys that are maps. -/
theorem kyMap (p : Int) : KyLaw 28 (fun c => mv p (dcd c)) (fun c => kyL p (dcd c)) (vld p) :=
  ⟨lawM, fun _ hc => key_of hc.2, fun _ _ ha hb e => dcd_inj ha.1 hb.1 (kyL_inj ha.2 hb.2 e)⟩
end Go.Proofs.Ytpphihjbgikjkaa
