/- From a contract of a law's walk to its row: what an argument of the law holds, opened. -/
import Derived.Test.YtpkapgidpgmdoaaRows
import Derived.Test.YtpkapgidpgmdoaaBase
import Derived.ProofKit
import Derived.OpenShut
import Derived.Below
import Derived.ChangeOld
namespace Go.Proofs.Ytpkapgidpgmdoaa
open Go.ChangeShapes Go.WideShapes Go.ChangeAt Go.RowKit

theorem own : ownKnob Try.prog.godebug = none := by kernel_rfl

theorem laidOut : laidOutB Try.prog = true := by kernel_rfl

theorem cellsI : Try.prog.cellsOf 2 = 1 := by kernel_rfl

theorem cellsA : Try.prog.cellsOf 33 = 5 := by kernel_rfl

theorem cellsM : Try.prog.cellsOf 35 = 6 := by kernel_rfl

def tOf (a b c d e : Int) : Nat → Int | 0 => a | 1 => b | 2 => c | 3 => d | _ => e

set_option maxRecDepth 100000 in
theorem open_lmap {H : Type} {enc : TypeId × Value → H} {W : World} {base : Nat} {spare : Nat → Bool} {held : Bool} {v : Value} {d : DataW H} {ps : List MemPlace}
    (hv : Value.okWide Try.prog W .any base 35 v) (h : DataW.Trod enc Try.prog W 0 spare held 35 v d ps) :
    ∃ (q : Int) (t : Nat → Int), v = mv q t ∧ (Lit.int .i64 q).wf = true ∧ ∀ i, i < 5 → (Lit.int .i64 (t i)).wf = true := by
  obtain ⟨cs, rfl, hsz⟩ := okWide_struct Try.underlying35 hv
  rw [cellsM] at hsz
  obtain ⟨l⟩ := cs
  match l, hsz with
  | [c0, c1, c2, c3, c4, c5], _ =>
    obtain ⟨fuel, hf⟩ := h
    obtain ⟨y0, y1, n, _, _, h0, h1⟩ := trod_struct2 Try.underlying35 hf
    simp only [Value.cells, cellsI, cellsA] at h0 h1
    obtain ⟨q, e0, _, w0⟩ := DataW.trod_int Try.underlying2 h0
    obtain ⟨xs, m, _, _, _, hn, hel⟩ := DataW.trod_array Try.underlying33 h1
    rw [cellsI] at hel
    match xs, hn with
    | [x0, x1, x2, x3, x4], _ =>
      obtain ⟨a0, e1, _, w1⟩ := DataW.trod_int Try.underlying2 (hel 0 (by omega))
      obtain ⟨a1, e2, _, w2⟩ := DataW.trod_int Try.underlying2 (hel 1 (by omega))
      obtain ⟨a2, e3, _, w3⟩ := DataW.trod_int Try.underlying2 (hel 2 (by omega))
      obtain ⟨a3, e4, _, w4⟩ := DataW.trod_int Try.underlying2 (hel 3 (by omega))
      obtain ⟨a4, e5, _, w5⟩ := DataW.trod_int Try.underlying2 (hel 4 (by omega))
      simp at e0 e1 e2 e3 e4 e5
      subst e0 e1 e2 e3 e4 e5
      refine ⟨q, tOf a0 a1 a2 a3 a4, rfl, w0, fun i hi => ?_⟩
      rcases (by omega : i = 0 ∨ i = 1 ∨ i = 2 ∨ i = 3 ∨ i = 4) with rfl | rfl | rfl | rfl | rfl
      · exact w1
      · exact w2
      · exact w3
      · exact w4
      · exact w5
end Go.Proofs.Ytpkapgidpgmdoaa
