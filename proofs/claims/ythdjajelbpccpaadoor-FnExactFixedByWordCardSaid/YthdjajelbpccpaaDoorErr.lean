/- The package's error: what 'laid' gives a walk; a world in which it lies; the variable read again. -/
import Derived.Test.YthdjajelbpccpaaDoorRow
import Derived.Test.YthdjajelbpccpaaDoorWk
import Derived.ChangeSame
import Derived.ChangeVars
import Derived.JoinedOf
import Derived.RowKit
import Derived.RowKitTokens
import Derived.LaidLaws
import Derived.Stop.LaidErr
namespace Go.Proofs.YthdjajelbpccpaaDoor
open Go.ChangeShapes Go.WideShapes Go.ChangeAt Go.RowKit

theorem gE : Tryd.prog.globalNamed "loop.example/g01359/impl.errNoWord" = some 0 := by kernel_rfl
theorem gEType : (Tryd.prog.globals[0]?).map (·.type) = some 96 := by kernel_rfl
theorem cellsES : Tryd.prog.cellsOf 118 = 1 := by kernel_rfl
theorem cellsS : Tryd.prog.cellsOf 9 = 1 := by kernel_rfl
theorem starE : "*" ++ "errors.errorString" = "*errors.errorString" := by decide
/-- The one row of that name. -/
theorem rowES (u : TypeId) (h : Tryd.prog.typeName? 3 u = some "*errors.errorString") : u = 100 :=
  typeName_ptr_named (nm := "errors.errorString") (by rw [starE]; kernel_rfl) (by kernel_rfl) (by decide) u (by rw [starE]; exact h)

abbrev lay : List (String × DataW Unit) := [("loop.example/g01359/impl.errNoWord", Rows.laid_loop_example_g01359_impl_errNoWord)]

theorem er_of_laid {W : World} (h : laidMet Tryd.prog lay W) : ∃ a0 : Addr, W.var? Tryd.prog "loop.example/g01359/impl.errNoWord" = some #[.iface 100 (.pointer (some a0))] := by
  obtain ⟨a0, s0, hv0, _, _, _⟩ := laid_sentinel h gE gEType Tryd.underlying96 rowES Tryd.underlying100 Tryd.underlying118 rfl rfl Tryd.underlying9 cellsES cellsS
  exact ⟨a0, hv0⟩

theorem er_var {W : World} {a0 : Addr} (h : W.var? Tryd.prog "loop.example/g01359/impl.errNoWord" = some #[.iface 100 (.pointer (some a0))]) : Er W :=
  ⟨a0, by simpa using World.var?_cell gE h 0⟩

theorem var_below {W W' : World} {n : String} {cs : Array Value} (h : W.var? Tryd.prog n = some cs) (hb : Below W.heap.size W W') : W'.var? Tryd.prog n = some cs := by
  unfold World.var? at h ⊢
  cases hg : Tryd.prog.globalNamed n with
  | none => simp [hg] at h
  | some g =>
    simp only [hg, Option.bind_some] at h ⊢
    have hlt : g < W.heap.size := by
      rcases Nat.lt_or_ge g W.heap.size with h' | h'
      · exact h'
      · simp [Array.getElem?_eq_none h'] at h
    rw [hb.block g hlt]
    exact h

abbrev errS : ByteArray := { data := #[116, 104, 101, 32, 110, 117, 109, 98, 101, 114, 115, 32, 97, 114, 101, 32, 110, 111, 32, 119, 111, 114, 100] }

noncomputable def low : Nat := (World.holding Tryd.prog default ⟨#[], #[], []⟩).heap.size

/-- The settled world with one block more, an error; the variable holds a pointer to it. -/
noncomputable def laidWorld (os : Os) : World :=
  let w0 := World.holding Tryd.prog os ⟨#[.cells #[.string errS] 118], #[], []⟩
  { w0 with heap := w0.heap.modify 0 fun
      | .cells _ t frozen => .cells #[.iface 100 (.pointer (some ⟨low, 0, none⟩))] t frozen
      | o => o }

theorem laidWorld_met (os : Os) (args : Array Value) : laidMet Tryd.prog lay ((laidWorld os).forCall (fun _ _ => 0) ⟨#[], args, []⟩).memory :=
  laidMet_of_run (ps := [.cell 0 0, .cell low 0]) 8 (by kernel_rfl) (by kernel_rfl) (by kernel_rfl)

end Go.Proofs.YthdjajelbpccpaaDoor
