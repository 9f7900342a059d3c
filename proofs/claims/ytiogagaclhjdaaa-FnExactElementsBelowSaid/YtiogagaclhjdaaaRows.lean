/-
  No cell of these rows narrows 'for every input' (looked for: loops, veiled, ifaces, maps, wideKeys, modest, calm, conditions, laid).
  DERIVED. THE GIVEN ROWS OF THIS SEAT. 12 by the template 'for every input the law returns true; each argument reads behind the call as it read before'; 0 by the template 'total and deterministic' (their statements: YtiogagaclhjdaaaTotals.lean).
  GIVEN WITH THE SEED: the statements are not yours to turn. If you find one false, say at which input.
  Laid BY PROGRAM, IN A SANDBOX (cutbox-rows.mjs): the forced cells as the released guide's own fill.sh prints them over the translation 896b2334c1dc5fa6… (all of the seat's roots in one cut). By AI agents, Wed Nov 11 2026. No macro, syntax, notation, axiom, sorry.
-/
import Derived.Test.YtiogagaclhjdaaaChecked
import GoSem.Claim
import GoSem.ClaimJoined
import GoSem.ClaimMapViews
import Derived.JoinedTies
import Derived.KernelRfl
namespace Go.Proofs.Ytiogagaclhjdaaa
/- THE CELL 'sum', in the pinned program and in every row, IS THE sha256 OF THE DUMP (.gsa) THAT YtiogagaclhjdaaaProg.lean LOADS. Nothing in Lean hashes anything: it is a label: what it is worth is what the hold of that sum in a sandbox is worth. -/
noncomputable def Try.pinned : Pinned := { name := "ytiogagaclhjdaaa", sum := "896b2334c1dc5fa685305dfdb32017aaeef75f6b0e075c4af7004f5c53a04439", checked := Try.checked }
namespace Rows
def none {H : Type} : Left H := { results := [], args := [] }

/-- 'laws.FnExactIsRegularIn': WHATEVER THE INPUT: true; the input reads as it did. -/
def fnExactIsRegularInSpec : ChangeSpec := { name := "fnExactIsRegularIn", fn := fun _ => fun
  | [d1, d2] => { results := [.lit (.bool true)], args := [d1, d2] }
  | _ => none }
def fnExactIsRegularInRow : OpenClaim := { program := "ytiogagaclhjdaaa", sum := "896b2334c1dc5fa685305dfdb32017aaeef75f6b0e075c4af7004f5c53a04439", func := "loop.example/g01359/laws.FnExactIsRegularIn", spec := "fnExactIsRegularIn", unfollowed := true, recurses := true, plainKeys := false, apart := false }
def FnExactIsRegularInSaid : Prop := fnExactIsRegularInRow.holds Try.pinned (OpenSpec.ofChange fnExactIsRegularInSpec)

/-- ITS FALSE NEIGHBOUR: 'it returns false'. Refute it at one input. -/
def fnExactIsRegularInWrong : ChangeSpec := { name := "fnExactIsRegularIn", fn := fun _ => fun
  | [d1, d2] => { results := [.lit (.bool false)], args := [d1, d2] }
  | _ => none }
def FnExactIsRegularInWrongFalsely : Prop := fnExactIsRegularInRow.holds Try.pinned (OpenSpec.ofChange fnExactIsRegularInWrong)

/-- 'laws.FnExactRegularElements': WHATEVER THE INPUT: true; the input reads as it did. -/
def fnExactRegularElementsSpec : ChangeSpec := { name := "fnExactRegularElements", fn := fun _ => fun
  | [d] => { results := [.lit (.bool true)], args := [d] }
  | _ => none }
def fnExactRegularElementsRow : OpenClaim := { program := "ytiogagaclhjdaaa", sum := "896b2334c1dc5fa685305dfdb32017aaeef75f6b0e075c4af7004f5c53a04439", func := "loop.example/g01359/laws.FnExactRegularElements", spec := "fnExactRegularElements", unfollowed := true, recurses := true, plainKeys := false, apart := false }
def FnExactRegularElementsSaid : Prop := fnExactRegularElementsRow.holds Try.pinned (OpenSpec.ofChange fnExactRegularElementsSpec)

/-- ITS FALSE NEIGHBOUR: 'it returns false'. Refute it at one input. -/
def fnExactRegularElementsWrong : ChangeSpec := { name := "fnExactRegularElements", fn := fun _ => fun
  | [d] => { results := [.lit (.bool false)], args := [d] }
  | _ => none }
def FnExactRegularElementsWrongFalsely : Prop := fnExactRegularElementsRow.holds Try.pinned (OpenSpec.ofChange fnExactRegularElementsWrong)

/-- 'laws.FnExactIsRegularMonoid': WHATEVER THE INPUT: true; the input reads as it did. -/
def fnExactIsRegularMonoidSpec : ChangeSpec := { name := "fnExactIsRegularMonoid", fn := fun _ => fun
  | [d] => { results := [.lit (.bool true)], args := [d] }
  | _ => none }
def fnExactIsRegularMonoidRow : OpenClaim := { program := "ytiogagaclhjdaaa", sum := "896b2334c1dc5fa685305dfdb32017aaeef75f6b0e075c4af7004f5c53a04439", func := "loop.example/g01359/laws.FnExactIsRegularMonoid", spec := "fnExactIsRegularMonoid", unfollowed := true, recurses := true, plainKeys := false, apart := false }
def FnExactIsRegularMonoidSaid : Prop := fnExactIsRegularMonoidRow.holds Try.pinned (OpenSpec.ofChange fnExactIsRegularMonoidSpec)

/-- ITS FALSE NEIGHBOUR: 'it returns false'. Refute it at one input. -/
def fnExactIsRegularMonoidWrong : ChangeSpec := { name := "fnExactIsRegularMonoid", fn := fun _ => fun
  | [d] => { results := [.lit (.bool false)], args := [d] }
  | _ => none }
def FnExactIsRegularMonoidWrongFalsely : Prop := fnExactIsRegularMonoidRow.holds Try.pinned (OpenSpec.ofChange fnExactIsRegularMonoidWrong)

/-- 'laws.FnExactInversesIn': WHATEVER THE INPUT: true; the input reads as it did. -/
def fnExactInversesInSpec : ChangeSpec := { name := "fnExactInversesIn", fn := fun _ => fun
  | [d1, d2] => { results := [.lit (.bool true)], args := [d1, d2] }
  | _ => none }
def fnExactInversesInRow : OpenClaim := { program := "ytiogagaclhjdaaa", sum := "896b2334c1dc5fa685305dfdb32017aaeef75f6b0e075c4af7004f5c53a04439", func := "loop.example/g01359/laws.FnExactInversesIn", spec := "fnExactInversesIn", unfollowed := true, recurses := true, plainKeys := false, apart := false }
def FnExactInversesInSaid : Prop := fnExactInversesInRow.holds Try.pinned (OpenSpec.ofChange fnExactInversesInSpec)

/-- ITS FALSE NEIGHBOUR: 'it returns false'. Refute it at one input. -/
def fnExactInversesInWrong : ChangeSpec := { name := "fnExactInversesIn", fn := fun _ => fun
  | [d1, d2] => { results := [.lit (.bool false)], args := [d1, d2] }
  | _ => none }
def FnExactInversesInWrongFalsely : Prop := fnExactInversesInRow.holds Try.pinned (OpenSpec.ofChange fnExactInversesInWrong)

/-- 'laws.FnExactIsInverseMonoid': WHATEVER THE INPUT: true; the input reads as it did. -/
def fnExactIsInverseMonoidSpec : ChangeSpec := { name := "fnExactIsInverseMonoid", fn := fun _ => fun
  | [d] => { results := [.lit (.bool true)], args := [d] }
  | _ => none }
def fnExactIsInverseMonoidRow : OpenClaim := { program := "ytiogagaclhjdaaa", sum := "896b2334c1dc5fa685305dfdb32017aaeef75f6b0e075c4af7004f5c53a04439", func := "loop.example/g01359/laws.FnExactIsInverseMonoid", spec := "fnExactIsInverseMonoid", unfollowed := true, recurses := true, plainKeys := false, apart := false }
def FnExactIsInverseMonoidSaid : Prop := fnExactIsInverseMonoidRow.holds Try.pinned (OpenSpec.ofChange fnExactIsInverseMonoidSpec)

/-- ITS FALSE NEIGHBOUR: 'it returns false'. Refute it at one input. -/
def fnExactIsInverseMonoidWrong : ChangeSpec := { name := "fnExactIsInverseMonoid", fn := fun _ => fun
  | [d] => { results := [.lit (.bool false)], args := [d] }
  | _ => none }
def FnExactIsInverseMonoidWrongFalsely : Prop := fnExactIsInverseMonoidRow.holds Try.pinned (OpenSpec.ofChange fnExactIsInverseMonoidWrong)

/-- 'laws.FnExactIsBelow': WHATEVER THE INPUT: true; the input reads as it did. -/
def fnExactIsBelowSpec : ChangeSpec := { name := "fnExactIsBelow", fn := fun _ => fun
  | [d1, d2, d3] => { results := [.lit (.bool true)], args := [d1, d2, d3] }
  | _ => none }
def fnExactIsBelowRow : OpenClaim := { program := "ytiogagaclhjdaaa", sum := "896b2334c1dc5fa685305dfdb32017aaeef75f6b0e075c4af7004f5c53a04439", func := "loop.example/g01359/laws.FnExactIsBelow", spec := "fnExactIsBelow", unfollowed := true, recurses := true, plainKeys := false, apart := false }
def FnExactIsBelowSaid : Prop := fnExactIsBelowRow.holds Try.pinned (OpenSpec.ofChange fnExactIsBelowSpec)

/-- ITS FALSE NEIGHBOUR: 'it returns false'. Refute it at one input. -/
def fnExactIsBelowWrong : ChangeSpec := { name := "fnExactIsBelow", fn := fun _ => fun
  | [d1, d2, d3] => { results := [.lit (.bool false)], args := [d1, d2, d3] }
  | _ => none }
def FnExactIsBelowWrongFalsely : Prop := fnExactIsBelowRow.holds Try.pinned (OpenSpec.ofChange fnExactIsBelowWrong)

/-- 'laws.FnExactElementsBelow': WHATEVER THE INPUT: true; the input reads as it did. -/
def fnExactElementsBelowSpec : ChangeSpec := { name := "fnExactElementsBelow", fn := fun _ => fun
  | [d1, d2] => { results := [.lit (.bool true)], args := [d1, d2] }
  | _ => none }
def fnExactElementsBelowRow : OpenClaim := { program := "ytiogagaclhjdaaa", sum := "896b2334c1dc5fa685305dfdb32017aaeef75f6b0e075c4af7004f5c53a04439", func := "loop.example/g01359/laws.FnExactElementsBelow", spec := "fnExactElementsBelow", unfollowed := true, recurses := true, plainKeys := false, apart := false }
def FnExactElementsBelowSaid : Prop := fnExactElementsBelowRow.holds Try.pinned (OpenSpec.ofChange fnExactElementsBelowSpec)

/-- ITS FALSE NEIGHBOUR: 'it returns false'. Refute it at one input. -/
def fnExactElementsBelowWrong : ChangeSpec := { name := "fnExactElementsBelow", fn := fun _ => fun
  | [d1, d2] => { results := [.lit (.bool false)], args := [d1, d2] }
  | _ => none }
def FnExactElementsBelowWrongFalsely : Prop := fnExactElementsBelowRow.holds Try.pinned (OpenSpec.ofChange fnExactElementsBelowWrong)

/-- 'laws.FnExactRightIdeal': WHATEVER THE INPUT: true; the input reads as it did. -/
def fnExactRightIdealSpec : ChangeSpec := { name := "fnExactRightIdeal", fn := fun _ => fun
  | [d1, d2] => { results := [.lit (.bool true)], args := [d1, d2] }
  | _ => none }
def fnExactRightIdealRow : OpenClaim := { program := "ytiogagaclhjdaaa", sum := "896b2334c1dc5fa685305dfdb32017aaeef75f6b0e075c4af7004f5c53a04439", func := "loop.example/g01359/laws.FnExactRightIdeal", spec := "fnExactRightIdeal", unfollowed := true, recurses := true, plainKeys := false, apart := false }
def FnExactRightIdealSaid : Prop := fnExactRightIdealRow.holds Try.pinned (OpenSpec.ofChange fnExactRightIdealSpec)

/-- ITS FALSE NEIGHBOUR: 'it returns false'. Refute it at one input. -/
def fnExactRightIdealWrong : ChangeSpec := { name := "fnExactRightIdeal", fn := fun _ => fun
  | [d1, d2] => { results := [.lit (.bool false)], args := [d1, d2] }
  | _ => none }
def FnExactRightIdealWrongFalsely : Prop := fnExactRightIdealRow.holds Try.pinned (OpenSpec.ofChange fnExactRightIdealWrong)

/-- 'laws.FnExactLeftIdeal': WHATEVER THE INPUT: true; the input reads as it did. -/
def fnExactLeftIdealSpec : ChangeSpec := { name := "fnExactLeftIdeal", fn := fun _ => fun
  | [d1, d2] => { results := [.lit (.bool true)], args := [d1, d2] }
  | _ => none }
def fnExactLeftIdealRow : OpenClaim := { program := "ytiogagaclhjdaaa", sum := "896b2334c1dc5fa685305dfdb32017aaeef75f6b0e075c4af7004f5c53a04439", func := "loop.example/g01359/laws.FnExactLeftIdeal", spec := "fnExactLeftIdeal", unfollowed := true, recurses := true, plainKeys := false, apart := false }
def FnExactLeftIdealSaid : Prop := fnExactLeftIdealRow.holds Try.pinned (OpenSpec.ofChange fnExactLeftIdealSpec)

/-- ITS FALSE NEIGHBOUR: 'it returns false'. Refute it at one input. -/
def fnExactLeftIdealWrong : ChangeSpec := { name := "fnExactLeftIdeal", fn := fun _ => fun
  | [d1, d2] => { results := [.lit (.bool false)], args := [d1, d2] }
  | _ => none }
def FnExactLeftIdealWrongFalsely : Prop := fnExactLeftIdealRow.holds Try.pinned (OpenSpec.ofChange fnExactLeftIdealWrong)

/-- 'laws.FnExactIdealOf': WHATEVER THE INPUT: true; the input reads as it did. -/
def fnExactIdealOfSpec : ChangeSpec := { name := "fnExactIdealOf", fn := fun _ => fun
  | [d1, d2] => { results := [.lit (.bool true)], args := [d1, d2] }
  | _ => none }
def fnExactIdealOfRow : OpenClaim := { program := "ytiogagaclhjdaaa", sum := "896b2334c1dc5fa685305dfdb32017aaeef75f6b0e075c4af7004f5c53a04439", func := "loop.example/g01359/laws.FnExactIdealOf", spec := "fnExactIdealOf", unfollowed := true, recurses := true, plainKeys := false, apart := false }
def FnExactIdealOfSaid : Prop := fnExactIdealOfRow.holds Try.pinned (OpenSpec.ofChange fnExactIdealOfSpec)

/-- ITS FALSE NEIGHBOUR: 'it returns false'. Refute it at one input. -/
def fnExactIdealOfWrong : ChangeSpec := { name := "fnExactIdealOf", fn := fun _ => fun
  | [d1, d2] => { results := [.lit (.bool false)], args := [d1, d2] }
  | _ => none }
def FnExactIdealOfWrongFalsely : Prop := fnExactIdealOfRow.holds Try.pinned (OpenSpec.ofChange fnExactIdealOfWrong)

/-- 'laws.FnExactLeastIdeal': WHATEVER THE INPUT: true; the input reads as it did. -/
def fnExactLeastIdealSpec : ChangeSpec := { name := "fnExactLeastIdeal", fn := fun _ => fun
  | [d] => { results := [.lit (.bool true)], args := [d] }
  | _ => none }
def fnExactLeastIdealRow : OpenClaim := { program := "ytiogagaclhjdaaa", sum := "896b2334c1dc5fa685305dfdb32017aaeef75f6b0e075c4af7004f5c53a04439", func := "loop.example/g01359/laws.FnExactLeastIdeal", spec := "fnExactLeastIdeal", unfollowed := true, recurses := true, plainKeys := false, apart := false }
def FnExactLeastIdealSaid : Prop := fnExactLeastIdealRow.holds Try.pinned (OpenSpec.ofChange fnExactLeastIdealSpec)

/-- ITS FALSE NEIGHBOUR: 'it returns false'. Refute it at one input. -/
def fnExactLeastIdealWrong : ChangeSpec := { name := "fnExactLeastIdeal", fn := fun _ => fun
  | [d] => { results := [.lit (.bool false)], args := [d] }
  | _ => none }
def FnExactLeastIdealWrongFalsely : Prop := fnExactLeastIdealRow.holds Try.pinned (OpenSpec.ofChange fnExactLeastIdealWrong)

/-- 'laws.FnExactCentraliserIn': WHATEVER THE INPUT: true; the input reads as it did. -/
def fnExactCentraliserInSpec : ChangeSpec := { name := "fnExactCentraliserIn", fn := fun _ => fun
  | [d1, d2] => { results := [.lit (.bool true)], args := [d1, d2] }
  | _ => none }
def fnExactCentraliserInRow : OpenClaim := { program := "ytiogagaclhjdaaa", sum := "896b2334c1dc5fa685305dfdb32017aaeef75f6b0e075c4af7004f5c53a04439", func := "loop.example/g01359/laws.FnExactCentraliserIn", spec := "fnExactCentraliserIn", unfollowed := true, recurses := true, plainKeys := false, apart := false }
def FnExactCentraliserInSaid : Prop := fnExactCentraliserInRow.holds Try.pinned (OpenSpec.ofChange fnExactCentraliserInSpec)

/-- ITS FALSE NEIGHBOUR: 'it returns false'. Refute it at one input. -/
def fnExactCentraliserInWrong : ChangeSpec := { name := "fnExactCentraliserIn", fn := fun _ => fun
  | [d1, d2] => { results := [.lit (.bool false)], args := [d1, d2] }
  | _ => none }
def FnExactCentraliserInWrongFalsely : Prop := fnExactCentraliserInRow.holds Try.pinned (OpenSpec.ofChange fnExactCentraliserInWrong)

/- THE SECOND FORM. 'bulk': how many values and letters a reading holds, each counted each time it is reached (what is shared counts as often as it is met; a slice's spare places count too). A statement '..UptoSaid' is the law's where the arguments, and the package variables that the reading takes, are together of bulk at most 1048576: NARROWER than '..Said'. Prove '..Said' where nothing that the law and all that it calls make is longer than what came in: it says more and counts as full. Else prove '..UptoSaid'. A law counts once. -/
mutual
def uptoBulk {H : Type} : DataW H → Nat
  | .lit (.string bytes) => bytes.length + 1
  | .lit _ => 1
  | .nil => 1
  | .ptr d => uptoBulk d + 1
  | .slice elems spare => uptoBulkAll elems + uptoBulkAll spare + 1
  | .agg parts => uptoBulkAll parts + 1
  | .iface _ d => uptoBulk d + 1
  | .map entries => uptoBulkEntries entries + 1
  | .held _ => 1
def uptoBulkAll {H : Type} : List (DataW H) → Nat
  | [] => 0
  | d :: r => uptoBulk d + uptoBulkAll r
def uptoBulkEntries {H : Type} : List (Lit × DataW H) → Nat
  | [] => 0
  | x :: r => uptoBulkEntry x + uptoBulkEntries r
def uptoBulkEntry {H : Type} : Lit × DataW H → Nat
  | (.string bytes, d) => bytes.length + uptoBulk d + 1
  | (_, d) => uptoBulk d + 1
 end
def uptoSmall : (H : Type) → List (DataW H) → Bool := fun _ ds => decide (uptoBulkAll ds ≤ 1048576)
def OpenSpec.upto (s : _root_.Go.ChangeSpec) : _root_.Go.OpenSpec := { _root_.Go.OpenSpec.ofChange s with cond := some uptoSmall }

/-- 'laws.FnExactIsRegularIn', WHERE WHAT IT READS IS OF BULK AT MOST 1048576: true; the input reads as it did. -/
def fnExactIsRegularInUptoRow : OpenClaim := { program := "ytiogagaclhjdaaa", sum := "896b2334c1dc5fa685305dfdb32017aaeef75f6b0e075c4af7004f5c53a04439", func := "loop.example/g01359/laws.FnExactIsRegularIn", spec := "fnExactIsRegularIn", unfollowed := true, recurses := true, plainKeys := false, apart := false, narrowed := true }
def FnExactIsRegularInUptoSaid : Prop := fnExactIsRegularInUptoRow.holds Try.pinned (OpenSpec.upto fnExactIsRegularInSpec)

/-- 'laws.FnExactRegularElements', WHERE WHAT IT READS IS OF BULK AT MOST 1048576: true; the input reads as it did. -/
def fnExactRegularElementsUptoRow : OpenClaim := { program := "ytiogagaclhjdaaa", sum := "896b2334c1dc5fa685305dfdb32017aaeef75f6b0e075c4af7004f5c53a04439", func := "loop.example/g01359/laws.FnExactRegularElements", spec := "fnExactRegularElements", unfollowed := true, recurses := true, plainKeys := false, apart := false, narrowed := true }
def FnExactRegularElementsUptoSaid : Prop := fnExactRegularElementsUptoRow.holds Try.pinned (OpenSpec.upto fnExactRegularElementsSpec)

/-- 'laws.FnExactIsRegularMonoid', WHERE WHAT IT READS IS OF BULK AT MOST 1048576: true; the input reads as it did. -/
def fnExactIsRegularMonoidUptoRow : OpenClaim := { program := "ytiogagaclhjdaaa", sum := "896b2334c1dc5fa685305dfdb32017aaeef75f6b0e075c4af7004f5c53a04439", func := "loop.example/g01359/laws.FnExactIsRegularMonoid", spec := "fnExactIsRegularMonoid", unfollowed := true, recurses := true, plainKeys := false, apart := false, narrowed := true }
def FnExactIsRegularMonoidUptoSaid : Prop := fnExactIsRegularMonoidUptoRow.holds Try.pinned (OpenSpec.upto fnExactIsRegularMonoidSpec)

/-- 'laws.FnExactInversesIn', WHERE WHAT IT READS IS OF BULK AT MOST 1048576: true; the input reads as it did. -/
def fnExactInversesInUptoRow : OpenClaim := { program := "ytiogagaclhjdaaa", sum := "896b2334c1dc5fa685305dfdb32017aaeef75f6b0e075c4af7004f5c53a04439", func := "loop.example/g01359/laws.FnExactInversesIn", spec := "fnExactInversesIn", unfollowed := true, recurses := true, plainKeys := false, apart := false, narrowed := true }
def FnExactInversesInUptoSaid : Prop := fnExactInversesInUptoRow.holds Try.pinned (OpenSpec.upto fnExactInversesInSpec)

/-- 'laws.FnExactIsInverseMonoid', WHERE WHAT IT READS IS OF BULK AT MOST 1048576: true; the input reads as it did. -/
def fnExactIsInverseMonoidUptoRow : OpenClaim := { program := "ytiogagaclhjdaaa", sum := "896b2334c1dc5fa685305dfdb32017aaeef75f6b0e075c4af7004f5c53a04439", func := "loop.example/g01359/laws.FnExactIsInverseMonoid", spec := "fnExactIsInverseMonoid", unfollowed := true, recurses := true, plainKeys := false, apart := false, narrowed := true }
def FnExactIsInverseMonoidUptoSaid : Prop := fnExactIsInverseMonoidUptoRow.holds Try.pinned (OpenSpec.upto fnExactIsInverseMonoidSpec)

/-- 'laws.FnExactIsBelow', WHERE WHAT IT READS IS OF BULK AT MOST 1048576: true; the input reads as it did. -/
def fnExactIsBelowUptoRow : OpenClaim := { program := "ytiogagaclhjdaaa", sum := "896b2334c1dc5fa685305dfdb32017aaeef75f6b0e075c4af7004f5c53a04439", func := "loop.example/g01359/laws.FnExactIsBelow", spec := "fnExactIsBelow", unfollowed := true, recurses := true, plainKeys := false, apart := false, narrowed := true }
def FnExactIsBelowUptoSaid : Prop := fnExactIsBelowUptoRow.holds Try.pinned (OpenSpec.upto fnExactIsBelowSpec)

/-- 'laws.FnExactElementsBelow', WHERE WHAT IT READS IS OF BULK AT MOST 1048576: true; the input reads as it did. -/
def fnExactElementsBelowUptoRow : OpenClaim := { program := "ytiogagaclhjdaaa", sum := "896b2334c1dc5fa685305dfdb32017aaeef75f6b0e075c4af7004f5c53a04439", func := "loop.example/g01359/laws.FnExactElementsBelow", spec := "fnExactElementsBelow", unfollowed := true, recurses := true, plainKeys := false, apart := false, narrowed := true }
def FnExactElementsBelowUptoSaid : Prop := fnExactElementsBelowUptoRow.holds Try.pinned (OpenSpec.upto fnExactElementsBelowSpec)

/-- 'laws.FnExactRightIdeal', WHERE WHAT IT READS IS OF BULK AT MOST 1048576: true; the input reads as it did. -/
def fnExactRightIdealUptoRow : OpenClaim := { program := "ytiogagaclhjdaaa", sum := "896b2334c1dc5fa685305dfdb32017aaeef75f6b0e075c4af7004f5c53a04439", func := "loop.example/g01359/laws.FnExactRightIdeal", spec := "fnExactRightIdeal", unfollowed := true, recurses := true, plainKeys := false, apart := false, narrowed := true }
def FnExactRightIdealUptoSaid : Prop := fnExactRightIdealUptoRow.holds Try.pinned (OpenSpec.upto fnExactRightIdealSpec)

/-- 'laws.FnExactLeftIdeal', WHERE WHAT IT READS IS OF BULK AT MOST 1048576: true; the input reads as it did. -/
def fnExactLeftIdealUptoRow : OpenClaim := { program := "ytiogagaclhjdaaa", sum := "896b2334c1dc5fa685305dfdb32017aaeef75f6b0e075c4af7004f5c53a04439", func := "loop.example/g01359/laws.FnExactLeftIdeal", spec := "fnExactLeftIdeal", unfollowed := true, recurses := true, plainKeys := false, apart := false, narrowed := true }
def FnExactLeftIdealUptoSaid : Prop := fnExactLeftIdealUptoRow.holds Try.pinned (OpenSpec.upto fnExactLeftIdealSpec)

/-- 'laws.FnExactIdealOf', WHERE WHAT IT READS IS OF BULK AT MOST 1048576: true; the input reads as it did. -/
def fnExactIdealOfUptoRow : OpenClaim := { program := "ytiogagaclhjdaaa", sum := "896b2334c1dc5fa685305dfdb32017aaeef75f6b0e075c4af7004f5c53a04439", func := "loop.example/g01359/laws.FnExactIdealOf", spec := "fnExactIdealOf", unfollowed := true, recurses := true, plainKeys := false, apart := false, narrowed := true }
def FnExactIdealOfUptoSaid : Prop := fnExactIdealOfUptoRow.holds Try.pinned (OpenSpec.upto fnExactIdealOfSpec)

/-- 'laws.FnExactLeastIdeal', WHERE WHAT IT READS IS OF BULK AT MOST 1048576: true; the input reads as it did. -/
def fnExactLeastIdealUptoRow : OpenClaim := { program := "ytiogagaclhjdaaa", sum := "896b2334c1dc5fa685305dfdb32017aaeef75f6b0e075c4af7004f5c53a04439", func := "loop.example/g01359/laws.FnExactLeastIdeal", spec := "fnExactLeastIdeal", unfollowed := true, recurses := true, plainKeys := false, apart := false, narrowed := true }
def FnExactLeastIdealUptoSaid : Prop := fnExactLeastIdealUptoRow.holds Try.pinned (OpenSpec.upto fnExactLeastIdealSpec)

/-- 'laws.FnExactCentraliserIn', WHERE WHAT IT READS IS OF BULK AT MOST 1048576: true; the input reads as it did. -/
def fnExactCentraliserInUptoRow : OpenClaim := { program := "ytiogagaclhjdaaa", sum := "896b2334c1dc5fa685305dfdb32017aaeef75f6b0e075c4af7004f5c53a04439", func := "loop.example/g01359/laws.FnExactCentraliserIn", spec := "fnExactCentraliserIn", unfollowed := true, recurses := true, plainKeys := false, apart := false, narrowed := true }
def FnExactCentraliserInUptoSaid : Prop := fnExactCentraliserInUptoRow.holds Try.pinned (OpenSpec.upto fnExactCentraliserInSpec)

end Rows
end Go.Proofs.Ytiogagaclhjdaaa
