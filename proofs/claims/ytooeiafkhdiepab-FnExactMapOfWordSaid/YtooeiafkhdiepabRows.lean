/-
  No cell of these rows narrows 'for every input' (looked for: loops, veiled, ifaces, maps, wideKeys, modest, calm, conditions, laid).
  DERIVED. THE GIVEN ROWS OF THIS SEAT. 9 by the template 'for every input the law returns true; each argument reads behind the call as it read before'; 0 by the template 'total and deterministic' (their statements: YtooeiafkhdiepabTotals.lean).
  GIVEN WITH THE SEED: the statements are not yours to turn. If you find one false, say at which input.
  Laid BY PROGRAM, IN A SANDBOX (cutbox-rows.mjs): the forced cells as the released guide's own fill.sh prints them over the translation ac55df6e3de28503… (all of the seat's roots in one cut). By AI agents, Wed Nov 11 2026. No macro, syntax, notation, axiom, sorry.
-/
import Derived.Test.YtooeiafkhdiepabChecked
import GoSem.Claim
import GoSem.ClaimJoined
import GoSem.ClaimMapViews
import Derived.JoinedTies
import Derived.KernelRfl
namespace Go.Proofs.Ytooeiafkhdiepab
/- THE CELL 'sum', in the pinned program and in every row, IS THE sha256 OF THE DUMP (.gsa) THAT YtooeiafkhdiepabProg.lean LOADS. Nothing in Lean hashes anything: it is a label: what it is worth is what the hold of that sum in a sandbox is worth. -/
noncomputable def Try.pinned : Pinned := { name := "ytooeiafkhdiepab", sum := "ac55df6e3de2850395623d3dc451361315061d4815aa613be7b052ea692bbe93", checked := Try.checked }
namespace Rows
def none {H : Type} : Left H := { results := [], args := [] }

/-- 'laws.FnMonoids': WHATEVER THE INPUT: true; the input reads as it did. -/
def fnMonoidsSpec : ChangeSpec := { name := "fnMonoids", fn := fun _ => fun
  | [d] => { results := [.lit (.bool true)], args := [d] }
  | _ => none }
def fnMonoidsRow : OpenClaim := { program := "ytooeiafkhdiepab", sum := "ac55df6e3de2850395623d3dc451361315061d4815aa613be7b052ea692bbe93", func := "loop.example/g01359/laws.FnMonoids", spec := "fnMonoids", unfollowed := true, recurses := true, plainKeys := false, apart := false }
def FnMonoidsSaid : Prop := fnMonoidsRow.holds Try.pinned (OpenSpec.ofChange fnMonoidsSpec)

/-- ITS FALSE NEIGHBOUR: 'it returns false'. Refute it at one input. -/
def fnMonoidsWrong : ChangeSpec := { name := "fnMonoids", fn := fun _ => fun
  | [d] => { results := [.lit (.bool false)], args := [d] }
  | _ => none }
def FnMonoidsWrongFalsely : Prop := fnMonoidsRow.holds Try.pinned (OpenSpec.ofChange fnMonoidsWrong)

/-- 'laws.FnExactElementsOf': WHATEVER THE INPUT: true; the input reads as it did. -/
def fnExactElementsOfSpec : ChangeSpec := { name := "fnExactElementsOf", fn := fun _ => fun
  | [d] => { results := [.lit (.bool true)], args := [d] }
  | _ => none }
def fnExactElementsOfRow : OpenClaim := { program := "ytooeiafkhdiepab", sum := "ac55df6e3de2850395623d3dc451361315061d4815aa613be7b052ea692bbe93", func := "loop.example/g01359/laws.FnExactElementsOf", spec := "fnExactElementsOf", unfollowed := true, recurses := true, plainKeys := false, apart := false }
def FnExactElementsOfSaid : Prop := fnExactElementsOfRow.holds Try.pinned (OpenSpec.ofChange fnExactElementsOfSpec)

/-- ITS FALSE NEIGHBOUR: 'it returns false'. Refute it at one input. -/
def fnExactElementsOfWrong : ChangeSpec := { name := "fnExactElementsOf", fn := fun _ => fun
  | [d] => { results := [.lit (.bool false)], args := [d] }
  | _ => none }
def FnExactElementsOfWrongFalsely : Prop := fnExactElementsOfRow.holds Try.pinned (OpenSpec.ofChange fnExactElementsOfWrong)

/-- 'laws.FnExactSizeOf': WHATEVER THE INPUT: true; the input reads as it did. -/
def fnExactSizeOfSpec : ChangeSpec := { name := "fnExactSizeOf", fn := fun _ => fun
  | [d] => { results := [.lit (.bool true)], args := [d] }
  | _ => none }
def fnExactSizeOfRow : OpenClaim := { program := "ytooeiafkhdiepab", sum := "ac55df6e3de2850395623d3dc451361315061d4815aa613be7b052ea692bbe93", func := "loop.example/g01359/laws.FnExactSizeOf", spec := "fnExactSizeOf", unfollowed := true, recurses := true, plainKeys := false, apart := false }
def FnExactSizeOfSaid : Prop := fnExactSizeOfRow.holds Try.pinned (OpenSpec.ofChange fnExactSizeOfSpec)

/-- ITS FALSE NEIGHBOUR: 'it returns false'. Refute it at one input. -/
def fnExactSizeOfWrong : ChangeSpec := { name := "fnExactSizeOf", fn := fun _ => fun
  | [d] => { results := [.lit (.bool false)], args := [d] }
  | _ => none }
def FnExactSizeOfWrongFalsely : Prop := fnExactSizeOfRow.holds Try.pinned (OpenSpec.ofChange fnExactSizeOfWrong)

/-- 'laws.FnExactWordFor': WHATEVER THE INPUT: true; the input reads as it did. -/
def fnExactWordForSpec : ChangeSpec := { name := "fnExactWordFor", fn := fun _ => fun
  | [d1, d2] => { results := [.lit (.bool true)], args := [d1, d2] }
  | _ => none }
def fnExactWordForRow : OpenClaim := { program := "ytooeiafkhdiepab", sum := "ac55df6e3de2850395623d3dc451361315061d4815aa613be7b052ea692bbe93", func := "loop.example/g01359/laws.FnExactWordFor", spec := "fnExactWordFor", unfollowed := true, recurses := true, plainKeys := false, apart := false }
def FnExactWordForSaid : Prop := fnExactWordForRow.holds Try.pinned (OpenSpec.ofChange fnExactWordForSpec)

/-- ITS FALSE NEIGHBOUR: 'it returns false'. Refute it at one input. -/
def fnExactWordForWrong : ChangeSpec := { name := "fnExactWordFor", fn := fun _ => fun
  | [d1, d2] => { results := [.lit (.bool false)], args := [d1, d2] }
  | _ => none }
def FnExactWordForWrongFalsely : Prop := fnExactWordForRow.holds Try.pinned (OpenSpec.ofChange fnExactWordForWrong)

/-- 'laws.FnExactMapOfWord': WHATEVER THE INPUT: true; the input reads as it did. -/
def fnExactMapOfWordSpec : ChangeSpec := { name := "fnExactMapOfWord", fn := fun _ => fun
  | [d1, d2] => { results := [.lit (.bool true)], args := [d1, d2] }
  | _ => none }
def fnExactMapOfWordRow : OpenClaim := { program := "ytooeiafkhdiepab", sum := "ac55df6e3de2850395623d3dc451361315061d4815aa613be7b052ea692bbe93", func := "loop.example/g01359/laws.FnExactMapOfWord", spec := "fnExactMapOfWord", plainKeys := false, apart := false }
def FnExactMapOfWordSaid : Prop := fnExactMapOfWordRow.holds Try.pinned (OpenSpec.ofChange fnExactMapOfWordSpec)

/-- ITS FALSE NEIGHBOUR: 'it returns false'. Refute it at one input. -/
def fnExactMapOfWordWrong : ChangeSpec := { name := "fnExactMapOfWord", fn := fun _ => fun
  | [d1, d2] => { results := [.lit (.bool false)], args := [d1, d2] }
  | _ => none }
def FnExactMapOfWordWrongFalsely : Prop := fnExactMapOfWordRow.holds Try.pinned (OpenSpec.ofChange fnExactMapOfWordWrong)

/-- 'laws.FnExactIsElement': WHATEVER THE INPUT: true; the input reads as it did. -/
def fnExactIsElementSpec : ChangeSpec := { name := "fnExactIsElement", fn := fun _ => fun
  | [d1, d2] => { results := [.lit (.bool true)], args := [d1, d2] }
  | _ => none }
def fnExactIsElementRow : OpenClaim := { program := "ytooeiafkhdiepab", sum := "ac55df6e3de2850395623d3dc451361315061d4815aa613be7b052ea692bbe93", func := "loop.example/g01359/laws.FnExactIsElement", spec := "fnExactIsElement", unfollowed := true, recurses := true, plainKeys := false, apart := false }
def FnExactIsElementSaid : Prop := fnExactIsElementRow.holds Try.pinned (OpenSpec.ofChange fnExactIsElementSpec)

/-- ITS FALSE NEIGHBOUR: 'it returns false'. Refute it at one input. -/
def fnExactIsElementWrong : ChangeSpec := { name := "fnExactIsElement", fn := fun _ => fun
  | [d1, d2] => { results := [.lit (.bool false)], args := [d1, d2] }
  | _ => none }
def FnExactIsElementWrongFalsely : Prop := fnExactIsElementRow.holds Try.pinned (OpenSpec.ofChange fnExactIsElementWrong)

/-- 'laws.FnExactUnitsOf': WHATEVER THE INPUT: true; the input reads as it did. -/
def fnExactUnitsOfSpec : ChangeSpec := { name := "fnExactUnitsOf", fn := fun _ => fun
  | [d] => { results := [.lit (.bool true)], args := [d] }
  | _ => none }
def fnExactUnitsOfRow : OpenClaim := { program := "ytooeiafkhdiepab", sum := "ac55df6e3de2850395623d3dc451361315061d4815aa613be7b052ea692bbe93", func := "loop.example/g01359/laws.FnExactUnitsOf", spec := "fnExactUnitsOf", unfollowed := true, recurses := true, plainKeys := false, apart := false }
def FnExactUnitsOfSaid : Prop := fnExactUnitsOfRow.holds Try.pinned (OpenSpec.ofChange fnExactUnitsOfSpec)

/-- ITS FALSE NEIGHBOUR: 'it returns false'. Refute it at one input. -/
def fnExactUnitsOfWrong : ChangeSpec := { name := "fnExactUnitsOf", fn := fun _ => fun
  | [d] => { results := [.lit (.bool false)], args := [d] }
  | _ => none }
def FnExactUnitsOfWrongFalsely : Prop := fnExactUnitsOfRow.holds Try.pinned (OpenSpec.ofChange fnExactUnitsOfWrong)

/-- 'laws.FnExactZeroOf': WHATEVER THE INPUT: true; the input reads as it did. -/
def fnExactZeroOfSpec : ChangeSpec := { name := "fnExactZeroOf", fn := fun _ => fun
  | [d] => { results := [.lit (.bool true)], args := [d] }
  | _ => none }
def fnExactZeroOfRow : OpenClaim := { program := "ytooeiafkhdiepab", sum := "ac55df6e3de2850395623d3dc451361315061d4815aa613be7b052ea692bbe93", func := "loop.example/g01359/laws.FnExactZeroOf", spec := "fnExactZeroOf", unfollowed := true, recurses := true, plainKeys := false, apart := false }
def FnExactZeroOfSaid : Prop := fnExactZeroOfRow.holds Try.pinned (OpenSpec.ofChange fnExactZeroOfSpec)

/-- ITS FALSE NEIGHBOUR: 'it returns false'. Refute it at one input. -/
def fnExactZeroOfWrong : ChangeSpec := { name := "fnExactZeroOf", fn := fun _ => fun
  | [d] => { results := [.lit (.bool false)], args := [d] }
  | _ => none }
def FnExactZeroOfWrongFalsely : Prop := fnExactZeroOfRow.holds Try.pinned (OpenSpec.ofChange fnExactZeroOfWrong)

/-- 'laws.FnExactSideZeros': WHATEVER THE INPUT: true; the input reads as it did. -/
def fnExactSideZerosSpec : ChangeSpec := { name := "fnExactSideZeros", fn := fun _ => fun
  | [d1, d2] => { results := [.lit (.bool true)], args := [d1, d2] }
  | _ => none }
def fnExactSideZerosRow : OpenClaim := { program := "ytooeiafkhdiepab", sum := "ac55df6e3de2850395623d3dc451361315061d4815aa613be7b052ea692bbe93", func := "loop.example/g01359/laws.FnExactSideZeros", spec := "fnExactSideZeros", unfollowed := true, recurses := true, plainKeys := false, apart := false }
def FnExactSideZerosSaid : Prop := fnExactSideZerosRow.holds Try.pinned (OpenSpec.ofChange fnExactSideZerosSpec)

/-- ITS FALSE NEIGHBOUR: 'it returns false'. Refute it at one input. -/
def fnExactSideZerosWrong : ChangeSpec := { name := "fnExactSideZeros", fn := fun _ => fun
  | [d1, d2] => { results := [.lit (.bool false)], args := [d1, d2] }
  | _ => none }
def FnExactSideZerosWrongFalsely : Prop := fnExactSideZerosRow.holds Try.pinned (OpenSpec.ofChange fnExactSideZerosWrong)

/- THE SECOND FORM. 'bulk': how many values and letters a reading holds, each counted each time it is reached (what is shared counts as often as it is met; a slice's spare places count too). A statement '..UptoSaid' is the law's where the arguments, and the package variables that the reading takes, are together of bulk at most 1048576: NARROWER than '..Said'. Prove '..Said' where nothing that the law and all that it calls make is longer than what came in: it says more and counts as full. Else prove '..UptoSaid'. A law counts once. -/
mutual
def uptoBulk {H : Type} : DataW H → Nat
  | .lit (.string bytes) => bytes.length + 1
  | .lit _ => 1
  | .nil => 1
  | .ptr d => uptoBulk d + 1
  | .slice elems spare => uptoBulkAll elems + uptoBulkAll spare + 1
  | .agg parts => uptoBulkAll parts + 1
  | .iface _ d => uptoBulk d + 1
  | .map entries => uptoBulkEntries entries + 1
  | .held _ => 1
def uptoBulkAll {H : Type} : List (DataW H) → Nat
  | [] => 0
  | d :: r => uptoBulk d + uptoBulkAll r
def uptoBulkEntries {H : Type} : List (Lit × DataW H) → Nat
  | [] => 0
  | x :: r => uptoBulkEntry x + uptoBulkEntries r
def uptoBulkEntry {H : Type} : Lit × DataW H → Nat
  | (.string bytes, d) => bytes.length + uptoBulk d + 1
  | (_, d) => uptoBulk d + 1
 end
def uptoSmall : (H : Type) → List (DataW H) → Bool := fun _ ds => decide (uptoBulkAll ds ≤ 1048576)
def OpenSpec.upto (s : _root_.Go.ChangeSpec) : _root_.Go.OpenSpec := { _root_.Go.OpenSpec.ofChange s with cond := some uptoSmall }

/-- 'laws.FnMonoids', WHERE WHAT IT READS IS OF BULK AT MOST 1048576: true; the input reads as it did. -/
def fnMonoidsUptoRow : OpenClaim := { program := "ytooeiafkhdiepab", sum := "ac55df6e3de2850395623d3dc451361315061d4815aa613be7b052ea692bbe93", func := "loop.example/g01359/laws.FnMonoids", spec := "fnMonoids", unfollowed := true, recurses := true, plainKeys := false, apart := false, narrowed := true }
def FnMonoidsUptoSaid : Prop := fnMonoidsUptoRow.holds Try.pinned (OpenSpec.upto fnMonoidsSpec)

/-- 'laws.FnExactElementsOf', WHERE WHAT IT READS IS OF BULK AT MOST 1048576: true; the input reads as it did. -/
def fnExactElementsOfUptoRow : OpenClaim := { program := "ytooeiafkhdiepab", sum := "ac55df6e3de2850395623d3dc451361315061d4815aa613be7b052ea692bbe93", func := "loop.example/g01359/laws.FnExactElementsOf", spec := "fnExactElementsOf", unfollowed := true, recurses := true, plainKeys := false, apart := false, narrowed := true }
def FnExactElementsOfUptoSaid : Prop := fnExactElementsOfUptoRow.holds Try.pinned (OpenSpec.upto fnExactElementsOfSpec)

/-- 'laws.FnExactSizeOf', WHERE WHAT IT READS IS OF BULK AT MOST 1048576: true; the input reads as it did. -/
def fnExactSizeOfUptoRow : OpenClaim := { program := "ytooeiafkhdiepab", sum := "ac55df6e3de2850395623d3dc451361315061d4815aa613be7b052ea692bbe93", func := "loop.example/g01359/laws.FnExactSizeOf", spec := "fnExactSizeOf", unfollowed := true, recurses := true, plainKeys := false, apart := false, narrowed := true }
def FnExactSizeOfUptoSaid : Prop := fnExactSizeOfUptoRow.holds Try.pinned (OpenSpec.upto fnExactSizeOfSpec)

/-- 'laws.FnExactWordFor', WHERE WHAT IT READS IS OF BULK AT MOST 1048576: true; the input reads as it did. -/
def fnExactWordForUptoRow : OpenClaim := { program := "ytooeiafkhdiepab", sum := "ac55df6e3de2850395623d3dc451361315061d4815aa613be7b052ea692bbe93", func := "loop.example/g01359/laws.FnExactWordFor", spec := "fnExactWordFor", unfollowed := true, recurses := true, plainKeys := false, apart := false, narrowed := true }
def FnExactWordForUptoSaid : Prop := fnExactWordForUptoRow.holds Try.pinned (OpenSpec.upto fnExactWordForSpec)

/-- 'laws.FnExactMapOfWord', WHERE WHAT IT READS IS OF BULK AT MOST 1048576: true; the input reads as it did. -/
def fnExactMapOfWordUptoRow : OpenClaim := { program := "ytooeiafkhdiepab", sum := "ac55df6e3de2850395623d3dc451361315061d4815aa613be7b052ea692bbe93", func := "loop.example/g01359/laws.FnExactMapOfWord", spec := "fnExactMapOfWord", plainKeys := false, apart := false, narrowed := true }
def FnExactMapOfWordUptoSaid : Prop := fnExactMapOfWordUptoRow.holds Try.pinned (OpenSpec.upto fnExactMapOfWordSpec)

/-- 'laws.FnExactIsElement', WHERE WHAT IT READS IS OF BULK AT MOST 1048576: true; the input reads as it did. -/
def fnExactIsElementUptoRow : OpenClaim := { program := "ytooeiafkhdiepab", sum := "ac55df6e3de2850395623d3dc451361315061d4815aa613be7b052ea692bbe93", func := "loop.example/g01359/laws.FnExactIsElement", spec := "fnExactIsElement", unfollowed := true, recurses := true, plainKeys := false, apart := false, narrowed := true }
def FnExactIsElementUptoSaid : Prop := fnExactIsElementUptoRow.holds Try.pinned (OpenSpec.upto fnExactIsElementSpec)

/-- 'laws.FnExactUnitsOf', WHERE WHAT IT READS IS OF BULK AT MOST 1048576: true; the input reads as it did. -/
def fnExactUnitsOfUptoRow : OpenClaim := { program := "ytooeiafkhdiepab", sum := "ac55df6e3de2850395623d3dc451361315061d4815aa613be7b052ea692bbe93", func := "loop.example/g01359/laws.FnExactUnitsOf", spec := "fnExactUnitsOf", unfollowed := true, recurses := true, plainKeys := false, apart := false, narrowed := true }
def FnExactUnitsOfUptoSaid : Prop := fnExactUnitsOfUptoRow.holds Try.pinned (OpenSpec.upto fnExactUnitsOfSpec)

/-- 'laws.FnExactZeroOf', WHERE WHAT IT READS IS OF BULK AT MOST 1048576: true; the input reads as it did. -/
def fnExactZeroOfUptoRow : OpenClaim := { program := "ytooeiafkhdiepab", sum := "ac55df6e3de2850395623d3dc451361315061d4815aa613be7b052ea692bbe93", func := "loop.example/g01359/laws.FnExactZeroOf", spec := "fnExactZeroOf", unfollowed := true, recurses := true, plainKeys := false, apart := false, narrowed := true }
def FnExactZeroOfUptoSaid : Prop := fnExactZeroOfUptoRow.holds Try.pinned (OpenSpec.upto fnExactZeroOfSpec)

/-- 'laws.FnExactSideZeros', WHERE WHAT IT READS IS OF BULK AT MOST 1048576: true; the input reads as it did. -/
def fnExactSideZerosUptoRow : OpenClaim := { program := "ytooeiafkhdiepab", sum := "ac55df6e3de2850395623d3dc451361315061d4815aa613be7b052ea692bbe93", func := "loop.example/g01359/laws.FnExactSideZeros", spec := "fnExactSideZeros", unfollowed := true, recurses := true, plainKeys := false, apart := false, narrowed := true }
def FnExactSideZerosUptoSaid : Prop := fnExactSideZerosUptoRow.holds Try.pinned (OpenSpec.upto fnExactSideZerosSpec)

end Rows
end Go.Proofs.Ytooeiafkhdiepab
