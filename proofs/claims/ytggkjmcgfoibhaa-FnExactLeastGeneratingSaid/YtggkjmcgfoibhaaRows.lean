/-
  No cell of these rows narrows 'for every input' (looked for: loops, veiled, ifaces, maps, wideKeys, modest, calm, conditions, laid).
  DERIVED. THE GIVEN ROWS OF THIS SEAT. 8 by the template 'for every input the law returns true; each argument reads behind the call as it read before'; 0 by the template 'total and deterministic' (their statements: YtggkjmcgfoibhaaTotals.lean).
  GIVEN WITH THE SEED: the statements are not yours to turn. If you find one false, say at which input.
  Laid BY PROGRAM, IN A SANDBOX (cutbox-rows.mjs): the forced cells as the released guide's own fill.sh prints them over the translation ba0d00fda59cf34c… (all of the seat's roots in one cut). By AI agents, Wed Nov 11 2026. No macro, syntax, notation, axiom, sorry.
-/
import Derived.Test.YtggkjmcgfoibhaaChecked
import GoSem.Claim
import GoSem.ClaimJoined
import GoSem.ClaimMapViews
import Derived.JoinedTies
import Derived.KernelRfl
namespace Go.Proofs.Ytggkjmcgfoibhaa
/- THE CELL 'sum', in the pinned program and in every row, IS THE sha256 OF THE DUMP (.gsa) THAT YtggkjmcgfoibhaaProg.lean LOADS. Nothing in Lean hashes anything: it is a label: what it is worth is what the hold of that sum in a sandbox is worth. -/
noncomputable def Try.pinned : Pinned := { name := "ytggkjmcgfoibhaa", sum := "ba0d00fda59cf34cd0ebf89ca56505cd93ef7ebee7fa12c4e86baa1c02facad1", checked := Try.checked }
namespace Rows
def none {H : Type} : Left H := { results := [], args := [] }

/-- 'laws.FnExactWordFor': WHATEVER THE INPUT: true; the input reads as it did. -/
def fnExactWordForSpec : ChangeSpec := { name := "fnExactWordFor", fn := fun _ => fun
  | [d1, d2] => { results := [.lit (.bool true)], args := [d1, d2] }
  | _ => none }
def fnExactWordForRow : OpenClaim := { program := "ytggkjmcgfoibhaa", sum := "ba0d00fda59cf34cd0ebf89ca56505cd93ef7ebee7fa12c4e86baa1c02facad1", func := "loop.example/g01359/laws.FnExactWordFor", spec := "fnExactWordFor", unfollowed := true, recurses := true, plainKeys := false, apart := false }
def FnExactWordForSaid : Prop := fnExactWordForRow.holds Try.pinned (OpenSpec.ofChange fnExactWordForSpec)

/-- ITS FALSE NEIGHBOUR: 'it returns false'. Refute it at one input. -/
def fnExactWordForWrong : ChangeSpec := { name := "fnExactWordFor", fn := fun _ => fun
  | [d1, d2] => { results := [.lit (.bool false)], args := [d1, d2] }
  | _ => none }
def FnExactWordForWrongFalsely : Prop := fnExactWordForRow.holds Try.pinned (OpenSpec.ofChange fnExactWordForWrong)

/-- 'laws.FnExactIsElement': WHATEVER THE INPUT: true; the input reads as it did. -/
def fnExactIsElementSpec : ChangeSpec := { name := "fnExactIsElement", fn := fun _ => fun
  | [d1, d2] => { results := [.lit (.bool true)], args := [d1, d2] }
  | _ => none }
def fnExactIsElementRow : OpenClaim := { program := "ytggkjmcgfoibhaa", sum := "ba0d00fda59cf34cd0ebf89ca56505cd93ef7ebee7fa12c4e86baa1c02facad1", func := "loop.example/g01359/laws.FnExactIsElement", spec := "fnExactIsElement", unfollowed := true, recurses := true, plainKeys := false, apart := false }
def FnExactIsElementSaid : Prop := fnExactIsElementRow.holds Try.pinned (OpenSpec.ofChange fnExactIsElementSpec)

/-- ITS FALSE NEIGHBOUR: 'it returns false'. Refute it at one input. -/
def fnExactIsElementWrong : ChangeSpec := { name := "fnExactIsElement", fn := fun _ => fun
  | [d1, d2] => { results := [.lit (.bool false)], args := [d1, d2] }
  | _ => none }
def FnExactIsElementWrongFalsely : Prop := fnExactIsElementRow.holds Try.pinned (OpenSpec.ofChange fnExactIsElementWrong)

/-- 'laws.FnExactZeroOf': WHATEVER THE INPUT: true; the input reads as it did. -/
def fnExactZeroOfSpec : ChangeSpec := { name := "fnExactZeroOf", fn := fun _ => fun
  | [d] => { results := [.lit (.bool true)], args := [d] }
  | _ => none }
def fnExactZeroOfRow : OpenClaim := { program := "ytggkjmcgfoibhaa", sum := "ba0d00fda59cf34cd0ebf89ca56505cd93ef7ebee7fa12c4e86baa1c02facad1", func := "loop.example/g01359/laws.FnExactZeroOf", spec := "fnExactZeroOf", unfollowed := true, recurses := true, plainKeys := false, apart := false }
def FnExactZeroOfSaid : Prop := fnExactZeroOfRow.holds Try.pinned (OpenSpec.ofChange fnExactZeroOfSpec)

/-- ITS FALSE NEIGHBOUR: 'it returns false'. Refute it at one input. -/
def fnExactZeroOfWrong : ChangeSpec := { name := "fnExactZeroOf", fn := fun _ => fun
  | [d] => { results := [.lit (.bool false)], args := [d] }
  | _ => none }
def FnExactZeroOfWrongFalsely : Prop := fnExactZeroOfRow.holds Try.pinned (OpenSpec.ofChange fnExactZeroOfWrong)

/-- 'laws.FnExactSideZeros': WHATEVER THE INPUT: true; the input reads as it did. -/
def fnExactSideZerosSpec : ChangeSpec := { name := "fnExactSideZeros", fn := fun _ => fun
  | [d1, d2] => { results := [.lit (.bool true)], args := [d1, d2] }
  | _ => none }
def fnExactSideZerosRow : OpenClaim := { program := "ytggkjmcgfoibhaa", sum := "ba0d00fda59cf34cd0ebf89ca56505cd93ef7ebee7fa12c4e86baa1c02facad1", func := "loop.example/g01359/laws.FnExactSideZeros", spec := "fnExactSideZeros", unfollowed := true, recurses := true, plainKeys := false, apart := false }
def FnExactSideZerosSaid : Prop := fnExactSideZerosRow.holds Try.pinned (OpenSpec.ofChange fnExactSideZerosSpec)

/-- ITS FALSE NEIGHBOUR: 'it returns false'. Refute it at one input. -/
def fnExactSideZerosWrong : ChangeSpec := { name := "fnExactSideZeros", fn := fun _ => fun
  | [d1, d2] => { results := [.lit (.bool false)], args := [d1, d2] }
  | _ => none }
def FnExactSideZerosWrongFalsely : Prop := fnExactSideZerosRow.holds Try.pinned (OpenSpec.ofChange fnExactSideZerosWrong)

/-- 'laws.FnExactCentreOf': WHATEVER THE INPUT: true; the input reads as it did. -/
def fnExactCentreOfSpec : ChangeSpec := { name := "fnExactCentreOf", fn := fun _ => fun
  | [d] => { results := [.lit (.bool true)], args := [d] }
  | _ => none }
def fnExactCentreOfRow : OpenClaim := { program := "ytggkjmcgfoibhaa", sum := "ba0d00fda59cf34cd0ebf89ca56505cd93ef7ebee7fa12c4e86baa1c02facad1", func := "loop.example/g01359/laws.FnExactCentreOf", spec := "fnExactCentreOf", unfollowed := true, recurses := true, plainKeys := false, apart := false }
def FnExactCentreOfSaid : Prop := fnExactCentreOfRow.holds Try.pinned (OpenSpec.ofChange fnExactCentreOfSpec)

/-- ITS FALSE NEIGHBOUR: 'it returns false'. Refute it at one input. -/
def fnExactCentreOfWrong : ChangeSpec := { name := "fnExactCentreOf", fn := fun _ => fun
  | [d] => { results := [.lit (.bool false)], args := [d] }
  | _ => none }
def FnExactCentreOfWrongFalsely : Prop := fnExactCentreOfRow.holds Try.pinned (OpenSpec.ofChange fnExactCentreOfWrong)

/-- 'laws.FnExactIsCommutative': WHATEVER THE INPUT: true; the input reads as it did. -/
def fnExactIsCommutativeSpec : ChangeSpec := { name := "fnExactIsCommutative", fn := fun _ => fun
  | [d] => { results := [.lit (.bool true)], args := [d] }
  | _ => none }
def fnExactIsCommutativeRow : OpenClaim := { program := "ytggkjmcgfoibhaa", sum := "ba0d00fda59cf34cd0ebf89ca56505cd93ef7ebee7fa12c4e86baa1c02facad1", func := "loop.example/g01359/laws.FnExactIsCommutative", spec := "fnExactIsCommutative", unfollowed := true, recurses := true, plainKeys := false, apart := false }
def FnExactIsCommutativeSaid : Prop := fnExactIsCommutativeRow.holds Try.pinned (OpenSpec.ofChange fnExactIsCommutativeSpec)

/-- ITS FALSE NEIGHBOUR: 'it returns false'. Refute it at one input. -/
def fnExactIsCommutativeWrong : ChangeSpec := { name := "fnExactIsCommutative", fn := fun _ => fun
  | [d] => { results := [.lit (.bool false)], args := [d] }
  | _ => none }
def FnExactIsCommutativeWrongFalsely : Prop := fnExactIsCommutativeRow.holds Try.pinned (OpenSpec.ofChange fnExactIsCommutativeWrong)

/-- 'laws.FnExactSizesByLength': WHATEVER THE INPUT: true; the input reads as it did. -/
def fnExactSizesByLengthSpec : ChangeSpec := { name := "fnExactSizesByLength", fn := fun _ => fun
  | [d] => { results := [.lit (.bool true)], args := [d] }
  | _ => none }
def fnExactSizesByLengthRow : OpenClaim := { program := "ytggkjmcgfoibhaa", sum := "ba0d00fda59cf34cd0ebf89ca56505cd93ef7ebee7fa12c4e86baa1c02facad1", func := "loop.example/g01359/laws.FnExactSizesByLength", spec := "fnExactSizesByLength", unfollowed := true, recurses := true, plainKeys := false, apart := false }
def FnExactSizesByLengthSaid : Prop := fnExactSizesByLengthRow.holds Try.pinned (OpenSpec.ofChange fnExactSizesByLengthSpec)

/-- ITS FALSE NEIGHBOUR: 'it returns false'. Refute it at one input. -/
def fnExactSizesByLengthWrong : ChangeSpec := { name := "fnExactSizesByLength", fn := fun _ => fun
  | [d] => { results := [.lit (.bool false)], args := [d] }
  | _ => none }
def FnExactSizesByLengthWrongFalsely : Prop := fnExactSizesByLengthRow.holds Try.pinned (OpenSpec.ofChange fnExactSizesByLengthWrong)

/-- 'laws.FnExactLeastGenerating': WHATEVER THE INPUT: true; the input reads as it did. -/
def fnExactLeastGeneratingSpec : ChangeSpec := { name := "fnExactLeastGenerating", fn := fun _ => fun
  | [d] => { results := [.lit (.bool true)], args := [d] }
  | _ => none }
def fnExactLeastGeneratingRow : OpenClaim := { program := "ytggkjmcgfoibhaa", sum := "ba0d00fda59cf34cd0ebf89ca56505cd93ef7ebee7fa12c4e86baa1c02facad1", func := "loop.example/g01359/laws.FnExactLeastGenerating", spec := "fnExactLeastGenerating", unfollowed := true, recurses := true, plainKeys := false, apart := false }
def FnExactLeastGeneratingSaid : Prop := fnExactLeastGeneratingRow.holds Try.pinned (OpenSpec.ofChange fnExactLeastGeneratingSpec)

/-- ITS FALSE NEIGHBOUR: 'it returns false'. Refute it at one input. -/
def fnExactLeastGeneratingWrong : ChangeSpec := { name := "fnExactLeastGenerating", fn := fun _ => fun
  | [d] => { results := [.lit (.bool false)], args := [d] }
  | _ => none }
def FnExactLeastGeneratingWrongFalsely : Prop := fnExactLeastGeneratingRow.holds Try.pinned (OpenSpec.ofChange fnExactLeastGeneratingWrong)

/- THE SECOND FORM. 'bulk': how many values and letters a reading holds, each counted each time it is reached (what is shared counts as often as it is met; a slice's spare places count too). A statement '..UptoSaid' is the law's where the arguments, and the package variables that the reading takes, are together of bulk at most 1048576: NARROWER than '..Said'. Prove '..Said' where nothing that the law and all that it calls make is longer than what came in: it says more and counts as full. Else prove '..UptoSaid'. A law counts once. -/
mutual
def uptoBulk {H : Type} : DataW H → Nat
  | .lit (.string bytes) => bytes.length + 1
  | .lit _ => 1
  | .nil => 1
  | .ptr d => uptoBulk d + 1
  | .slice elems spare => uptoBulkAll elems + uptoBulkAll spare + 1
  | .agg parts => uptoBulkAll parts + 1
  | .iface _ d => uptoBulk d + 1
  | .map entries => uptoBulkEntries entries + 1
  | .held _ => 1
def uptoBulkAll {H : Type} : List (DataW H) → Nat
  | [] => 0
  | d :: r => uptoBulk d + uptoBulkAll r
def uptoBulkEntries {H : Type} : List (Lit × DataW H) → Nat
  | [] => 0
  | x :: r => uptoBulkEntry x + uptoBulkEntries r
def uptoBulkEntry {H : Type} : Lit × DataW H → Nat
  | (.string bytes, d) => bytes.length + uptoBulk d + 1
  | (_, d) => uptoBulk d + 1
 end
def uptoSmall : (H : Type) → List (DataW H) → Bool := fun _ ds => decide (uptoBulkAll ds ≤ 1048576)
def OpenSpec.upto (s : _root_.Go.ChangeSpec) : _root_.Go.OpenSpec := { _root_.Go.OpenSpec.ofChange s with cond := some uptoSmall }

/-- 'laws.FnExactWordFor', WHERE WHAT IT READS IS OF BULK AT MOST 1048576: true; the input reads as it did. -/
def fnExactWordForUptoRow : OpenClaim := { program := "ytggkjmcgfoibhaa", sum := "ba0d00fda59cf34cd0ebf89ca56505cd93ef7ebee7fa12c4e86baa1c02facad1", func := "loop.example/g01359/laws.FnExactWordFor", spec := "fnExactWordFor", unfollowed := true, recurses := true, plainKeys := false, apart := false, narrowed := true }
def FnExactWordForUptoSaid : Prop := fnExactWordForUptoRow.holds Try.pinned (OpenSpec.upto fnExactWordForSpec)

/-- 'laws.FnExactIsElement', WHERE WHAT IT READS IS OF BULK AT MOST 1048576: true; the input reads as it did. -/
def fnExactIsElementUptoRow : OpenClaim := { program := "ytggkjmcgfoibhaa", sum := "ba0d00fda59cf34cd0ebf89ca56505cd93ef7ebee7fa12c4e86baa1c02facad1", func := "loop.example/g01359/laws.FnExactIsElement", spec := "fnExactIsElement", unfollowed := true, recurses := true, plainKeys := false, apart := false, narrowed := true }
def FnExactIsElementUptoSaid : Prop := fnExactIsElementUptoRow.holds Try.pinned (OpenSpec.upto fnExactIsElementSpec)

/-- 'laws.FnExactZeroOf', WHERE WHAT IT READS IS OF BULK AT MOST 1048576: true; the input reads as it did. -/
def fnExactZeroOfUptoRow : OpenClaim := { program := "ytggkjmcgfoibhaa", sum := "ba0d00fda59cf34cd0ebf89ca56505cd93ef7ebee7fa12c4e86baa1c02facad1", func := "loop.example/g01359/laws.FnExactZeroOf", spec := "fnExactZeroOf", unfollowed := true, recurses := true, plainKeys := false, apart := false, narrowed := true }
def FnExactZeroOfUptoSaid : Prop := fnExactZeroOfUptoRow.holds Try.pinned (OpenSpec.upto fnExactZeroOfSpec)

/-- 'laws.FnExactSideZeros', WHERE WHAT IT READS IS OF BULK AT MOST 1048576: true; the input reads as it did. -/
def fnExactSideZerosUptoRow : OpenClaim := { program := "ytggkjmcgfoibhaa", sum := "ba0d00fda59cf34cd0ebf89ca56505cd93ef7ebee7fa12c4e86baa1c02facad1", func := "loop.example/g01359/laws.FnExactSideZeros", spec := "fnExactSideZeros", unfollowed := true, recurses := true, plainKeys := false, apart := false, narrowed := true }
def FnExactSideZerosUptoSaid : Prop := fnExactSideZerosUptoRow.holds Try.pinned (OpenSpec.upto fnExactSideZerosSpec)

/-- 'laws.FnExactCentreOf', WHERE WHAT IT READS IS OF BULK AT MOST 1048576: true; the input reads as it did. -/
def fnExactCentreOfUptoRow : OpenClaim := { program := "ytggkjmcgfoibhaa", sum := "ba0d00fda59cf34cd0ebf89ca56505cd93ef7ebee7fa12c4e86baa1c02facad1", func := "loop.example/g01359/laws.FnExactCentreOf", spec := "fnExactCentreOf", unfollowed := true, recurses := true, plainKeys := false, apart := false, narrowed := true }
def FnExactCentreOfUptoSaid : Prop := fnExactCentreOfUptoRow.holds Try.pinned (OpenSpec.upto fnExactCentreOfSpec)

/-- 'laws.FnExactIsCommutative', WHERE WHAT IT READS IS OF BULK AT MOST 1048576: true; the input reads as it did. -/
def fnExactIsCommutativeUptoRow : OpenClaim := { program := "ytggkjmcgfoibhaa", sum := "ba0d00fda59cf34cd0ebf89ca56505cd93ef7ebee7fa12c4e86baa1c02facad1", func := "loop.example/g01359/laws.FnExactIsCommutative", spec := "fnExactIsCommutative", unfollowed := true, recurses := true, plainKeys := false, apart := false, narrowed := true }
def FnExactIsCommutativeUptoSaid : Prop := fnExactIsCommutativeUptoRow.holds Try.pinned (OpenSpec.upto fnExactIsCommutativeSpec)

/-- 'laws.FnExactSizesByLength', WHERE WHAT IT READS IS OF BULK AT MOST 1048576: true; the input reads as it did. -/
def fnExactSizesByLengthUptoRow : OpenClaim := { program := "ytggkjmcgfoibhaa", sum := "ba0d00fda59cf34cd0ebf89ca56505cd93ef7ebee7fa12c4e86baa1c02facad1", func := "loop.example/g01359/laws.FnExactSizesByLength", spec := "fnExactSizesByLength", unfollowed := true, recurses := true, plainKeys := false, apart := false, narrowed := true }
def FnExactSizesByLengthUptoSaid : Prop := fnExactSizesByLengthUptoRow.holds Try.pinned (OpenSpec.upto fnExactSizesByLengthSpec)

/-- 'laws.FnExactLeastGenerating', WHERE WHAT IT READS IS OF BULK AT MOST 1048576: true; the input reads as it did. -/
def fnExactLeastGeneratingUptoRow : OpenClaim := { program := "ytggkjmcgfoibhaa", sum := "ba0d00fda59cf34cd0ebf89ca56505cd93ef7ebee7fa12c4e86baa1c02facad1", func := "loop.example/g01359/laws.FnExactLeastGenerating", spec := "fnExactLeastGenerating", unfollowed := true, recurses := true, plainKeys := false, apart := false, narrowed := true }
def FnExactLeastGeneratingUptoSaid : Prop := fnExactLeastGeneratingUptoRow.holds Try.pinned (OpenSpec.upto fnExactLeastGeneratingSpec)

end Rows
end Go.Proofs.Ytggkjmcgfoibhaa
