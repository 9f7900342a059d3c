/- A scope with several labels; the text behind a label. -/
import Derived.Test.YtiogagaclhjdaaaBase
import Derived.ScopeJumps
namespace Go.Proofs.Ytiogagaclhjdaaa
open Go Go.RowKit

/-- As Q; at a goto: J of its label. -/
def jumpTo (J : Nat → Act → World → Prop) (Q : Exit → Act → World → Prop) (e : Exit) (a : Act) (w : World) : Prop :=
  match e with
  | .goto l => J l a w
  | e => Q e a w

theorem jumpTo_goto {J : Nat → Act → World → Prop} {Q : Exit → Act → World → Prop} {l : Nat} {a : Act} {w : World} : jumpTo J Q (.goto l) a w = J l a w := rfl

theorem scope_labels {P : Program} {c : Code} {Q : Exit → Act → World → Prop} {a : Act} {w : World} (at_ : Nat → Option Code) (hat : ∀ l r, at_ l = some r → findLabel c l = some r) (J : Nat → Act → World → Prop) (hJ : ∀ l a w, J l a w → ∃ r, at_ l = some r)
    (μ : Nat → Act → World → Nat) (first : c.wp P (jumpTo J Q) a w)
    (pass : ∀ l r a w, at_ l = some r → J l a w → r.wp P (jumpTo (fun l' a' w' => J l' a' w' ∧ μ l' a' w' < μ l a w) Q) a w) : (Code.scope c).wp P Q a w := by
  intro b k cs
  have onward : ∀ n l r a w, μ l a w < n → at_ l = some r → J l a w → ∃ e a' w', Q e a' w' ∧ Arrives P (lone (b.at a (.code r :: .inScope c :: k)) cs w) b k cs e a' w' := by
    intro n
    induction n with
    | zero => intro l r a w h; omega
    | succ n ih =>
      intro l r a w hn hl hj
      obtain ⟨e, a₁, w₁, hq, hr⟩ := pass l r a w hl hj b (.inScope c :: k) cs
      cases e with
      | normal => exact ⟨.normal, a₁, w₁, hq, Steps.trans hr (.one step_inScope)⟩
      | exit i => exact ⟨.exit i, a₁, w₁, hq, fun k' hk => hr k' (by simp [exitTo, hk])⟩
      | ret => exact ⟨.ret, a₁, w₁, hq, hr⟩
      | panic s => exact ⟨.panic s, a₁, w₁, hq, hr⟩
      | outgrown => exact ⟨.outgrown, a₁, w₁, hq, hr⟩
      | goto m =>
        obtain ⟨hj2, hlt⟩ : J m a₁ w₁ ∧ μ m a₁ w₁ < μ l a w := hq
        obtain ⟨r2, h2⟩ := hJ m a₁ w₁ hj2
        obtain ⟨e3, a3, w3, hq3, hr3⟩ := ih m r2 a₁ w₁ (by omega) h2 hj2
        exact ⟨e3, a3, w3, hq3, .of_steps (hr _ (by simp [gotoIn, hat m r2 h2])) hr3⟩
  obtain ⟨e, a₁, w₁, hq, hr⟩ := first b (.inScope c :: k) cs
  cases e with
  | normal => exact ⟨.normal, a₁, w₁, hq, .head step_scope (Steps.trans hr (.one step_inScope))⟩
  | exit i => exact ⟨.exit i, a₁, w₁, hq, fun k' hk => .head step_scope (hr k' (by simp [exitTo, hk]))⟩
  | ret => exact ⟨.ret, a₁, w₁, hq, .of_steps (.one step_scope) hr⟩
  | panic s => exact ⟨.panic s, a₁, w₁, hq, .of_steps (.one step_scope) hr⟩
  | outgrown => exact ⟨.outgrown, a₁, w₁, hq, .of_steps (.one step_scope) hr⟩
  | goto m =>
    obtain ⟨r2, h2⟩ := hJ m a₁ w₁ hq
    obtain ⟨e3, a3, w3, hq3, hr3⟩ := onward _ m r2 a₁ w₁ (Nat.lt_succ_self _) h2 hq
    exact ⟨e3, a3, w3, hq3, .of_steps (.head step_scope (hr _ (by simp [gotoIn, hat m r2 h2]))) hr3⟩

/-- The first scope of a text. -/
def scopeIn : Code → Option Code
  | .scope c => some c
  | .seq c d => match scopeIn c with
    | some e => some e
    | none => scopeIn d
  | _ => none

/-- What follows a label. -/
def tailOf : Code → Code
  | .seq .skip c => c
  | c => c

theorem code_swap {P : Program} {c c' : Code} {Q : Exit → Act → World → Prop} {a : Act} {w : World} (e : c = c') (h : Code.wp P c Q a w) : Code.wp P c' Q a w := e ▸ h

theorem skip_seq {P : Program} {c : Code} {Q : Exit → Act → World → Prop} {a : Act} {w : World} (h : Code.wp P c Q a w) : Code.wp P (.seq .skip c) Q a w := wp_seq (wp_skip h)

end Go.Proofs.Ytiogagaclhjdaaa
