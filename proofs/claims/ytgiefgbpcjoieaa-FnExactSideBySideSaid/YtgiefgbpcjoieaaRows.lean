/-
  No cell of these rows narrows 'for every input' (looked for: loops, veiled, ifaces, maps, wideKeys, modest, calm, conditions, laid).
  DERIVED. THE GIVEN ROWS OF THIS SEAT. 12 by the template 'for every input the law returns true; each argument reads behind the call as it read before'; 0 by the template 'total and deterministic' (their statements: YtgiefgbpcjoieaaTotals.lean).
  GIVEN WITH THE SEED: the statements are not yours to turn. If you find one false, say at which input.
  Laid BY PROGRAM, IN A SANDBOX (cutbox-rows.mjs): the forced cells as the released guide's own fill.sh prints them over the translation eb69c84b1ff6116b… (all of the seat's roots in one cut). By AI agents, Wed Nov 11 2026. No macro, syntax, notation, axiom, sorry.
-/
import Derived.Test.YtgiefgbpcjoieaaChecked
import GoSem.Claim
import GoSem.ClaimJoined
import GoSem.ClaimMapViews
import Derived.JoinedTies
import Derived.KernelRfl
namespace Go.Proofs.Ytgiefgbpcjoieaa
/- THE CELL 'sum', in the pinned program and in every row, IS THE sha256 OF THE DUMP (.gsa) THAT YtgiefgbpcjoieaaProg.lean LOADS. Nothing in Lean hashes anything: it is a label: what it is worth is what the hold of that sum in a sandbox is worth. -/
noncomputable def Try.pinned : Pinned := { name := "ytgiefgbpcjoieaa", sum := "eb69c84b1ff6116bd9aa55c9cf33e5db0208b97164e15ff00a7e24093841270f", checked := Try.checked }
namespace Rows
def none {H : Type} : Left H := { results := [], args := [] }

/-- 'laws.FnExactLeastAcceptor': WHATEVER THE INPUT: true; the input reads as it did. -/
def fnExactLeastAcceptorSpec : ChangeSpec := { name := "fnExactLeastAcceptor", fn := fun _ => fun
  | [d] => { results := [.lit (.bool true)], args := [d] }
  | _ => none }
def fnExactLeastAcceptorRow : OpenClaim := { program := "ytgiefgbpcjoieaa", sum := "eb69c84b1ff6116bd9aa55c9cf33e5db0208b97164e15ff00a7e24093841270f", func := "loop.example/g01359/laws.FnExactLeastAcceptor", spec := "fnExactLeastAcceptor", unfollowed := true, recurses := true, apart := false }
def FnExactLeastAcceptorSaid : Prop := fnExactLeastAcceptorRow.holds Try.pinned (OpenSpec.ofChange fnExactLeastAcceptorSpec)

/-- ITS FALSE NEIGHBOUR: 'it returns false'. Refute it at one input. -/
def fnExactLeastAcceptorWrong : ChangeSpec := { name := "fnExactLeastAcceptor", fn := fun _ => fun
  | [d] => { results := [.lit (.bool false)], args := [d] }
  | _ => none }
def FnExactLeastAcceptorWrongFalsely : Prop := fnExactLeastAcceptorRow.holds Try.pinned (OpenSpec.ofChange fnExactLeastAcceptorWrong)

/-- 'laws.FnExactCountAccepted': WHATEVER THE INPUT: true; the input reads as it did. -/
def fnExactCountAcceptedSpec : ChangeSpec := { name := "fnExactCountAccepted", fn := fun _ => fun
  | [d1, d2] => { results := [.lit (.bool true)], args := [d1, d2] }
  | _ => none }
def fnExactCountAcceptedRow : OpenClaim := { program := "ytgiefgbpcjoieaa", sum := "eb69c84b1ff6116bd9aa55c9cf33e5db0208b97164e15ff00a7e24093841270f", func := "loop.example/g01359/laws.FnExactCountAccepted", spec := "fnExactCountAccepted", unfollowed := true, recurses := true, apart := false }
def FnExactCountAcceptedSaid : Prop := fnExactCountAcceptedRow.holds Try.pinned (OpenSpec.ofChange fnExactCountAcceptedSpec)

/-- ITS FALSE NEIGHBOUR: 'it returns false'. Refute it at one input. -/
def fnExactCountAcceptedWrong : ChangeSpec := { name := "fnExactCountAccepted", fn := fun _ => fun
  | [d1, d2] => { results := [.lit (.bool false)], args := [d1, d2] }
  | _ => none }
def FnExactCountAcceptedWrongFalsely : Prop := fnExactCountAcceptedRow.holds Try.pinned (OpenSpec.ofChange fnExactCountAcceptedWrong)

/-- 'laws.FnExactIsFinite': WHATEVER THE INPUT: true; the input reads as it did. -/
def fnExactIsFiniteSpec : ChangeSpec := { name := "fnExactIsFinite", fn := fun _ => fun
  | [d] => { results := [.lit (.bool true)], args := [d] }
  | _ => none }
def fnExactIsFiniteRow : OpenClaim := { program := "ytgiefgbpcjoieaa", sum := "eb69c84b1ff6116bd9aa55c9cf33e5db0208b97164e15ff00a7e24093841270f", func := "loop.example/g01359/laws.FnExactIsFinite", spec := "fnExactIsFinite", unfollowed := true, recurses := true, apart := false }
def FnExactIsFiniteSaid : Prop := fnExactIsFiniteRow.holds Try.pinned (OpenSpec.ofChange fnExactIsFiniteSpec)

/-- ITS FALSE NEIGHBOUR: 'it returns false'. Refute it at one input. -/
def fnExactIsFiniteWrong : ChangeSpec := { name := "fnExactIsFinite", fn := fun _ => fun
  | [d] => { results := [.lit (.bool false)], args := [d] }
  | _ => none }
def FnExactIsFiniteWrongFalsely : Prop := fnExactIsFiniteRow.holds Try.pinned (OpenSpec.ofChange fnExactIsFiniteWrong)

/-- 'laws.FnExactComplementOf': WHATEVER THE INPUT: true; the input reads as it did. -/
def fnExactComplementOfSpec : ChangeSpec := { name := "fnExactComplementOf", fn := fun _ => fun
  | [d] => { results := [.lit (.bool true)], args := [d] }
  | _ => none }
def fnExactComplementOfRow : OpenClaim := { program := "ytgiefgbpcjoieaa", sum := "eb69c84b1ff6116bd9aa55c9cf33e5db0208b97164e15ff00a7e24093841270f", func := "loop.example/g01359/laws.FnExactComplementOf", spec := "fnExactComplementOf", apart := false }
def FnExactComplementOfSaid : Prop := fnExactComplementOfRow.holds Try.pinned (OpenSpec.ofChange fnExactComplementOfSpec)

/-- ITS FALSE NEIGHBOUR: 'it returns false'. Refute it at one input. -/
def fnExactComplementOfWrong : ChangeSpec := { name := "fnExactComplementOf", fn := fun _ => fun
  | [d] => { results := [.lit (.bool false)], args := [d] }
  | _ => none }
def FnExactComplementOfWrongFalsely : Prop := fnExactComplementOfRow.holds Try.pinned (OpenSpec.ofChange fnExactComplementOfWrong)

/-- 'laws.FnExactIsMonoidTable': WHATEVER THE INPUT: true; the input reads as it did. -/
def fnExactIsMonoidTableSpec : ChangeSpec := { name := "fnExactIsMonoidTable", fn := fun _ => fun
  | [d] => { results := [.lit (.bool true)], args := [d] }
  | _ => none }
def fnExactIsMonoidTableRow : OpenClaim := { program := "ytgiefgbpcjoieaa", sum := "eb69c84b1ff6116bd9aa55c9cf33e5db0208b97164e15ff00a7e24093841270f", func := "loop.example/g01359/laws.FnExactIsMonoidTable", spec := "fnExactIsMonoidTable", apart := false }
def FnExactIsMonoidTableSaid : Prop := fnExactIsMonoidTableRow.holds Try.pinned (OpenSpec.ofChange fnExactIsMonoidTableSpec)

/-- ITS FALSE NEIGHBOUR: 'it returns false'. Refute it at one input. -/
def fnExactIsMonoidTableWrong : ChangeSpec := { name := "fnExactIsMonoidTable", fn := fun _ => fun
  | [d] => { results := [.lit (.bool false)], args := [d] }
  | _ => none }
def FnExactIsMonoidTableWrongFalsely : Prop := fnExactIsMonoidTableRow.holds Try.pinned (OpenSpec.ofChange fnExactIsMonoidTableWrong)

/-- 'laws.FnExactIdentityOf': WHATEVER THE INPUT: true; the input reads as it did. -/
def fnExactIdentityOfSpec : ChangeSpec := { name := "fnExactIdentityOf", fn := fun _ => fun
  | [d] => { results := [.lit (.bool true)], args := [d] }
  | _ => none }
def fnExactIdentityOfRow : OpenClaim := { program := "ytgiefgbpcjoieaa", sum := "eb69c84b1ff6116bd9aa55c9cf33e5db0208b97164e15ff00a7e24093841270f", func := "loop.example/g01359/laws.FnExactIdentityOf", spec := "fnExactIdentityOf", apart := false }
def FnExactIdentityOfSaid : Prop := fnExactIdentityOfRow.holds Try.pinned (OpenSpec.ofChange fnExactIdentityOfSpec)

/-- ITS FALSE NEIGHBOUR: 'it returns false'. Refute it at one input. -/
def fnExactIdentityOfWrong : ChangeSpec := { name := "fnExactIdentityOf", fn := fun _ => fun
  | [d] => { results := [.lit (.bool false)], args := [d] }
  | _ => none }
def FnExactIdentityOfWrongFalsely : Prop := fnExactIdentityOfRow.holds Try.pinned (OpenSpec.ofChange fnExactIdentityOfWrong)

/-- 'laws.FnExactIdempotentNumbers': WHATEVER THE INPUT: true; the input reads as it did. -/
def fnExactIdempotentNumbersSpec : ChangeSpec := { name := "fnExactIdempotentNumbers", fn := fun _ => fun
  | [d] => { results := [.lit (.bool true)], args := [d] }
  | _ => none }
def fnExactIdempotentNumbersRow : OpenClaim := { program := "ytgiefgbpcjoieaa", sum := "eb69c84b1ff6116bd9aa55c9cf33e5db0208b97164e15ff00a7e24093841270f", func := "loop.example/g01359/laws.FnExactIdempotentNumbers", spec := "fnExactIdempotentNumbers", apart := false }
def FnExactIdempotentNumbersSaid : Prop := fnExactIdempotentNumbersRow.holds Try.pinned (OpenSpec.ofChange fnExactIdempotentNumbersSpec)

/-- ITS FALSE NEIGHBOUR: 'it returns false'. Refute it at one input. -/
def fnExactIdempotentNumbersWrong : ChangeSpec := { name := "fnExactIdempotentNumbers", fn := fun _ => fun
  | [d] => { results := [.lit (.bool false)], args := [d] }
  | _ => none }
def FnExactIdempotentNumbersWrongFalsely : Prop := fnExactIdempotentNumbersRow.holds Try.pinned (OpenSpec.ofChange fnExactIdempotentNumbersWrong)

/-- 'laws.FnExactMapsOfTable': WHATEVER THE INPUT: true; the input reads as it did. -/
def fnExactMapsOfTableSpec : ChangeSpec := { name := "fnExactMapsOfTable", fn := fun _ => fun
  | [d] => { results := [.lit (.bool true)], args := [d] }
  | _ => none }
def fnExactMapsOfTableRow : OpenClaim := { program := "ytgiefgbpcjoieaa", sum := "eb69c84b1ff6116bd9aa55c9cf33e5db0208b97164e15ff00a7e24093841270f", func := "loop.example/g01359/laws.FnExactMapsOfTable", spec := "fnExactMapsOfTable", apart := false }
def FnExactMapsOfTableSaid : Prop := fnExactMapsOfTableRow.holds Try.pinned (OpenSpec.ofChange fnExactMapsOfTableSpec)

/-- ITS FALSE NEIGHBOUR: 'it returns false'. Refute it at one input. -/
def fnExactMapsOfTableWrong : ChangeSpec := { name := "fnExactMapsOfTable", fn := fun _ => fun
  | [d] => { results := [.lit (.bool false)], args := [d] }
  | _ => none }
def FnExactMapsOfTableWrongFalsely : Prop := fnExactMapsOfTableRow.holds Try.pinned (OpenSpec.ofChange fnExactMapsOfTableWrong)

/-- 'laws.FnExactOppositeTable': WHATEVER THE INPUT: true; the input reads as it did. -/
def fnExactOppositeTableSpec : ChangeSpec := { name := "fnExactOppositeTable", fn := fun _ => fun
  | [d] => { results := [.lit (.bool true)], args := [d] }
  | _ => none }
def fnExactOppositeTableRow : OpenClaim := { program := "ytgiefgbpcjoieaa", sum := "eb69c84b1ff6116bd9aa55c9cf33e5db0208b97164e15ff00a7e24093841270f", func := "loop.example/g01359/laws.FnExactOppositeTable", spec := "fnExactOppositeTable", unfollowed := true, recurses := true, apart := false }
def FnExactOppositeTableSaid : Prop := fnExactOppositeTableRow.holds Try.pinned (OpenSpec.ofChange fnExactOppositeTableSpec)

/-- ITS FALSE NEIGHBOUR: 'it returns false'. Refute it at one input. -/
def fnExactOppositeTableWrong : ChangeSpec := { name := "fnExactOppositeTable", fn := fun _ => fun
  | [d] => { results := [.lit (.bool false)], args := [d] }
  | _ => none }
def FnExactOppositeTableWrongFalsely : Prop := fnExactOppositeTableRow.holds Try.pinned (OpenSpec.ofChange fnExactOppositeTableWrong)

/-- 'laws.FnExactProductTable': WHATEVER THE INPUT: true; the input reads as it did. -/
def fnExactProductTableSpec : ChangeSpec := { name := "fnExactProductTable", fn := fun _ => fun
  | [d1, d2] => { results := [.lit (.bool true)], args := [d1, d2] }
  | _ => none }
def fnExactProductTableRow : OpenClaim := { program := "ytgiefgbpcjoieaa", sum := "eb69c84b1ff6116bd9aa55c9cf33e5db0208b97164e15ff00a7e24093841270f", func := "loop.example/g01359/laws.FnExactProductTable", spec := "fnExactProductTable", unfollowed := true, recurses := true, apart := false }
def FnExactProductTableSaid : Prop := fnExactProductTableRow.holds Try.pinned (OpenSpec.ofChange fnExactProductTableSpec)

/-- ITS FALSE NEIGHBOUR: 'it returns false'. Refute it at one input. -/
def fnExactProductTableWrong : ChangeSpec := { name := "fnExactProductTable", fn := fun _ => fun
  | [d1, d2] => { results := [.lit (.bool false)], args := [d1, d2] }
  | _ => none }
def FnExactProductTableWrongFalsely : Prop := fnExactProductTableRow.holds Try.pinned (OpenSpec.ofChange fnExactProductTableWrong)

/-- 'laws.FnExactIsIsomorphism': WHATEVER THE INPUT: true; the input reads as it did. -/
def fnExactIsIsomorphismSpec : ChangeSpec := { name := "fnExactIsIsomorphism", fn := fun _ => fun
  | [d1, d2, d3] => { results := [.lit (.bool true)], args := [d1, d2, d3] }
  | _ => none }
def fnExactIsIsomorphismRow : OpenClaim := { program := "ytgiefgbpcjoieaa", sum := "eb69c84b1ff6116bd9aa55c9cf33e5db0208b97164e15ff00a7e24093841270f", func := "loop.example/g01359/laws.FnExactIsIsomorphism", spec := "fnExactIsIsomorphism", apart := false }
def FnExactIsIsomorphismSaid : Prop := fnExactIsIsomorphismRow.holds Try.pinned (OpenSpec.ofChange fnExactIsIsomorphismSpec)

/-- ITS FALSE NEIGHBOUR: 'it returns false'. Refute it at one input. -/
def fnExactIsIsomorphismWrong : ChangeSpec := { name := "fnExactIsIsomorphism", fn := fun _ => fun
  | [d1, d2, d3] => { results := [.lit (.bool false)], args := [d1, d2, d3] }
  | _ => none }
def FnExactIsIsomorphismWrongFalsely : Prop := fnExactIsIsomorphismRow.holds Try.pinned (OpenSpec.ofChange fnExactIsIsomorphismWrong)

/-- 'laws.FnExactSideBySide': WHATEVER THE INPUT: true; the input reads as it did. -/
def fnExactSideBySideSpec : ChangeSpec := { name := "fnExactSideBySide", fn := fun _ => fun
  | [d1, d2] => { results := [.lit (.bool true)], args := [d1, d2] }
  | _ => none }
def fnExactSideBySideRow : OpenClaim := { program := "ytgiefgbpcjoieaa", sum := "eb69c84b1ff6116bd9aa55c9cf33e5db0208b97164e15ff00a7e24093841270f", func := "loop.example/g01359/laws.FnExactSideBySide", spec := "fnExactSideBySide", apart := false }
def FnExactSideBySideSaid : Prop := fnExactSideBySideRow.holds Try.pinned (OpenSpec.ofChange fnExactSideBySideSpec)

/-- ITS FALSE NEIGHBOUR: 'it returns false'. Refute it at one input. -/
def fnExactSideBySideWrong : ChangeSpec := { name := "fnExactSideBySide", fn := fun _ => fun
  | [d1, d2] => { results := [.lit (.bool false)], args := [d1, d2] }
  | _ => none }
def FnExactSideBySideWrongFalsely : Prop := fnExactSideBySideRow.holds Try.pinned (OpenSpec.ofChange fnExactSideBySideWrong)

/- THE SECOND FORM. 'bulk': how many values and letters a reading holds, each counted each time it is reached (what is shared counts as often as it is met; a slice's spare places count too). A statement '..UptoSaid' is the law's where the arguments, and the package variables that the reading takes, are together of bulk at most 1048576: NARROWER than '..Said'. Prove '..Said' where nothing that the law and all that it calls make is longer than what came in: it says more and counts as full. Else prove '..UptoSaid'. A law counts once. -/
mutual
def uptoBulk {H : Type} : DataW H → Nat
  | .lit (.string bytes) => bytes.length + 1
  | .lit _ => 1
  | .nil => 1
  | .ptr d => uptoBulk d + 1
  | .slice elems spare => uptoBulkAll elems + uptoBulkAll spare + 1
  | .agg parts => uptoBulkAll parts + 1
  | .iface _ d => uptoBulk d + 1
  | .map entries => uptoBulkEntries entries + 1
  | .held _ => 1
def uptoBulkAll {H : Type} : List (DataW H) → Nat
  | [] => 0
  | d :: r => uptoBulk d + uptoBulkAll r
def uptoBulkEntries {H : Type} : List (Lit × DataW H) → Nat
  | [] => 0
  | x :: r => uptoBulkEntry x + uptoBulkEntries r
def uptoBulkEntry {H : Type} : Lit × DataW H → Nat
  | (.string bytes, d) => bytes.length + uptoBulk d + 1
  | (_, d) => uptoBulk d + 1
 end
def uptoSmall : (H : Type) → List (DataW H) → Bool := fun _ ds => decide (uptoBulkAll ds ≤ 1048576)
def OpenSpec.upto (s : _root_.Go.ChangeSpec) : _root_.Go.OpenSpec := { _root_.Go.OpenSpec.ofChange s with cond := some uptoSmall }

/-- 'laws.FnExactLeastAcceptor', WHERE WHAT IT READS IS OF BULK AT MOST 1048576: true; the input reads as it did. -/
def fnExactLeastAcceptorUptoRow : OpenClaim := { program := "ytgiefgbpcjoieaa", sum := "eb69c84b1ff6116bd9aa55c9cf33e5db0208b97164e15ff00a7e24093841270f", func := "loop.example/g01359/laws.FnExactLeastAcceptor", spec := "fnExactLeastAcceptor", unfollowed := true, recurses := true, apart := false, narrowed := true }
def FnExactLeastAcceptorUptoSaid : Prop := fnExactLeastAcceptorUptoRow.holds Try.pinned (OpenSpec.upto fnExactLeastAcceptorSpec)

/-- 'laws.FnExactCountAccepted', WHERE WHAT IT READS IS OF BULK AT MOST 1048576: true; the input reads as it did. -/
def fnExactCountAcceptedUptoRow : OpenClaim := { program := "ytgiefgbpcjoieaa", sum := "eb69c84b1ff6116bd9aa55c9cf33e5db0208b97164e15ff00a7e24093841270f", func := "loop.example/g01359/laws.FnExactCountAccepted", spec := "fnExactCountAccepted", unfollowed := true, recurses := true, apart := false, narrowed := true }
def FnExactCountAcceptedUptoSaid : Prop := fnExactCountAcceptedUptoRow.holds Try.pinned (OpenSpec.upto fnExactCountAcceptedSpec)

/-- 'laws.FnExactIsFinite', WHERE WHAT IT READS IS OF BULK AT MOST 1048576: true; the input reads as it did. -/
def fnExactIsFiniteUptoRow : OpenClaim := { program := "ytgiefgbpcjoieaa", sum := "eb69c84b1ff6116bd9aa55c9cf33e5db0208b97164e15ff00a7e24093841270f", func := "loop.example/g01359/laws.FnExactIsFinite", spec := "fnExactIsFinite", unfollowed := true, recurses := true, apart := false, narrowed := true }
def FnExactIsFiniteUptoSaid : Prop := fnExactIsFiniteUptoRow.holds Try.pinned (OpenSpec.upto fnExactIsFiniteSpec)

/-- 'laws.FnExactComplementOf', WHERE WHAT IT READS IS OF BULK AT MOST 1048576: true; the input reads as it did. -/
def fnExactComplementOfUptoRow : OpenClaim := { program := "ytgiefgbpcjoieaa", sum := "eb69c84b1ff6116bd9aa55c9cf33e5db0208b97164e15ff00a7e24093841270f", func := "loop.example/g01359/laws.FnExactComplementOf", spec := "fnExactComplementOf", apart := false, narrowed := true }
def FnExactComplementOfUptoSaid : Prop := fnExactComplementOfUptoRow.holds Try.pinned (OpenSpec.upto fnExactComplementOfSpec)

/-- 'laws.FnExactIsMonoidTable', WHERE WHAT IT READS IS OF BULK AT MOST 1048576: true; the input reads as it did. -/
def fnExactIsMonoidTableUptoRow : OpenClaim := { program := "ytgiefgbpcjoieaa", sum := "eb69c84b1ff6116bd9aa55c9cf33e5db0208b97164e15ff00a7e24093841270f", func := "loop.example/g01359/laws.FnExactIsMonoidTable", spec := "fnExactIsMonoidTable", apart := false, narrowed := true }
def FnExactIsMonoidTableUptoSaid : Prop := fnExactIsMonoidTableUptoRow.holds Try.pinned (OpenSpec.upto fnExactIsMonoidTableSpec)

/-- 'laws.FnExactIdentityOf', WHERE WHAT IT READS IS OF BULK AT MOST 1048576: true; the input reads as it did. -/
def fnExactIdentityOfUptoRow : OpenClaim := { program := "ytgiefgbpcjoieaa", sum := "eb69c84b1ff6116bd9aa55c9cf33e5db0208b97164e15ff00a7e24093841270f", func := "loop.example/g01359/laws.FnExactIdentityOf", spec := "fnExactIdentityOf", apart := false, narrowed := true }
def FnExactIdentityOfUptoSaid : Prop := fnExactIdentityOfUptoRow.holds Try.pinned (OpenSpec.upto fnExactIdentityOfSpec)

/-- 'laws.FnExactIdempotentNumbers', WHERE WHAT IT READS IS OF BULK AT MOST 1048576: true; the input reads as it did. -/
def fnExactIdempotentNumbersUptoRow : OpenClaim := { program := "ytgiefgbpcjoieaa", sum := "eb69c84b1ff6116bd9aa55c9cf33e5db0208b97164e15ff00a7e24093841270f", func := "loop.example/g01359/laws.FnExactIdempotentNumbers", spec := "fnExactIdempotentNumbers", apart := false, narrowed := true }
def FnExactIdempotentNumbersUptoSaid : Prop := fnExactIdempotentNumbersUptoRow.holds Try.pinned (OpenSpec.upto fnExactIdempotentNumbersSpec)

/-- 'laws.FnExactMapsOfTable', WHERE WHAT IT READS IS OF BULK AT MOST 1048576: true; the input reads as it did. -/
def fnExactMapsOfTableUptoRow : OpenClaim := { program := "ytgiefgbpcjoieaa", sum := "eb69c84b1ff6116bd9aa55c9cf33e5db0208b97164e15ff00a7e24093841270f", func := "loop.example/g01359/laws.FnExactMapsOfTable", spec := "fnExactMapsOfTable", apart := false, narrowed := true }
def FnExactMapsOfTableUptoSaid : Prop := fnExactMapsOfTableUptoRow.holds Try.pinned (OpenSpec.upto fnExactMapsOfTableSpec)

/-- 'laws.FnExactOppositeTable', WHERE WHAT IT READS IS OF BULK AT MOST 1048576: true; the input reads as it did. -/
def fnExactOppositeTableUptoRow : OpenClaim := { program := "ytgiefgbpcjoieaa", sum := "eb69c84b1ff6116bd9aa55c9cf33e5db0208b97164e15ff00a7e24093841270f", func := "loop.example/g01359/laws.FnExactOppositeTable", spec := "fnExactOppositeTable", unfollowed := true, recurses := true, apart := false, narrowed := true }
def FnExactOppositeTableUptoSaid : Prop := fnExactOppositeTableUptoRow.holds Try.pinned (OpenSpec.upto fnExactOppositeTableSpec)

/-- 'laws.FnExactProductTable', WHERE WHAT IT READS IS OF BULK AT MOST 1048576: true; the input reads as it did. -/
def fnExactProductTableUptoRow : OpenClaim := { program := "ytgiefgbpcjoieaa", sum := "eb69c84b1ff6116bd9aa55c9cf33e5db0208b97164e15ff00a7e24093841270f", func := "loop.example/g01359/laws.FnExactProductTable", spec := "fnExactProductTable", unfollowed := true, recurses := true, apart := false, narrowed := true }
def FnExactProductTableUptoSaid : Prop := fnExactProductTableUptoRow.holds Try.pinned (OpenSpec.upto fnExactProductTableSpec)

/-- 'laws.FnExactIsIsomorphism', WHERE WHAT IT READS IS OF BULK AT MOST 1048576: true; the input reads as it did. -/
def fnExactIsIsomorphismUptoRow : OpenClaim := { program := "ytgiefgbpcjoieaa", sum := "eb69c84b1ff6116bd9aa55c9cf33e5db0208b97164e15ff00a7e24093841270f", func := "loop.example/g01359/laws.FnExactIsIsomorphism", spec := "fnExactIsIsomorphism", apart := false, narrowed := true }
def FnExactIsIsomorphismUptoSaid : Prop := fnExactIsIsomorphismUptoRow.holds Try.pinned (OpenSpec.upto fnExactIsIsomorphismSpec)

/-- 'laws.FnExactSideBySide', WHERE WHAT IT READS IS OF BULK AT MOST 1048576: true; the input reads as it did. -/
def fnExactSideBySideUptoRow : OpenClaim := { program := "ytgiefgbpcjoieaa", sum := "eb69c84b1ff6116bd9aa55c9cf33e5db0208b97164e15ff00a7e24093841270f", func := "loop.example/g01359/laws.FnExactSideBySide", spec := "fnExactSideBySide", apart := false, narrowed := true }
def FnExactSideBySideUptoSaid : Prop := fnExactSideBySideUptoRow.holds Try.pinned (OpenSpec.upto fnExactSideBySideSpec)

end Rows
end Go.Proofs.Ytgiefgbpcjoieaa
