/- A desk that comes in. -/
import Derived.Test.YtpkapgidpgmdoaaDsk
import Derived.Test.YtpkapgidpgmdoaaMk
namespace Go.Proofs.Ytpkapgidpgmdoaa
open Go.ChangeShapes Go.WideShapes Go.ChangeAt Go.RowKit Go.Deep

theorem cellsMSd : Try.prog.cellsOf 22 = 1 := by kernel_rfl
theorem cellsDk : Try.prog.cellsOf 63 = 7 := by kernel_rfl

theorem open_oneMd {H : Type} {enc : TypeId × Value → H} {W : World} {spare : Nat → Bool} {held : Bool} {v : Value} {fuel : Nat} {x : DataW H × List MemPlace}
    (hf : DataW.trod enc Try.prog W 0 spare held fuel 22 [v] = some x) : ∃ a c, ∃ L : List MapN, v = .slice a L.length c ∧ InRowM W a L ∧ (a = none → c = 0) ∧ L.length ≤ maxLen := by
  have hv : ∃ a l c, v = .slice a l c := by
    rcases open_slice Try.underlying22 hf with ⟨hcs, _⟩ | ⟨x, l, c, m, n, D, Pl, hcs, _⟩
    · injection hcs with hcs _; exact ⟨none, 0, 0, hcs⟩
    · injection hcs with hcs _; exact ⟨some x, l, c, hcs⟩
  obtain ⟨a, l, c, rfl⟩ := hv
  obtain ⟨d, ps⟩ := x
  obtain ⟨L, rfl, h1, h2, h3⟩ := open_rowM (d := d) (ps := ps) ⟨fuel, hf⟩
  exact ⟨a, c, L, rfl, h1, h2, h3⟩

set_option maxRecDepth 100000 in
theorem open_desk {H : Type} {enc : TypeId × Value → H} {W : World} {base : Nat} {spare : Nat → Bool} {held : Bool} {v : Value} {d : DataW H} {ps : List MemPlace}
    (hv : Value.okWide Try.prog W .any base 63 v) (h : DataW.Trod enc Try.prog W 0 spare held 63 v d ps) :
    ∃ (a : Option Addr) (L : List MapN) (c : Nat) (p : Int) (t : Nat → Int), v = .agg (dkc a L.length c p t) ∧ InRowM W a L ∧ (a = none → c = 0) ∧ L.length ≤ maxLen := by
  obtain ⟨cs, rfl, hsz⟩ := okWide_struct Try.underlying63 hv
  rw [cellsDk] at hsz
  obtain ⟨l⟩ := cs
  match l, hsz with
  | [c0, c1, c2, c3, c4, c5, c6], _ =>
    obtain ⟨fuel, hf⟩ := h
    obtain ⟨y0, y1, n, _, _, h0, h1⟩ := trod_struct2 Try.underlying63 hf
    simp only [Value.cells, cellsMSd, cellsM] at h0 h1
    obtain ⟨a, c, L, e0, hL, hc, hm⟩ := open_oneMd h0
    obtain ⟨y, hy⟩ := open_cells6 h1
    simp at e0 hy
    obtain ⟨rfl, rfl, rfl, rfl, rfl, rfl⟩ := hy
    subst e0
    exact ⟨a, L, c, y.1, y.2, rfl, hL, hc, hm⟩
end Go.Proofs.Ytpkapgidpgmdoaa
