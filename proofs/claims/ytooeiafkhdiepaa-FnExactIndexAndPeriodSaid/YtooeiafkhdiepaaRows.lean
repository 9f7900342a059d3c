/-
  No cell of these rows narrows 'for every input' (looked for: loops, veiled, ifaces, maps, wideKeys, modest, calm, conditions, laid).
  DERIVED. THE GIVEN ROWS OF THIS SEAT. 10 by the template 'for every input the law returns true; each argument reads behind the call as it read before'; 0 by the template 'total and deterministic' (their statements: YtooeiafkhdiepaaTotals.lean).
  GIVEN WITH THE SEED: the statements are not yours to turn. If you find one false, say at which input.
  Laid BY PROGRAM, IN A SANDBOX (cutbox-rows.mjs): the forced cells as the released guide's own fill.sh prints them over the translation 2a8067c564624d37… (all of the seat's roots in one cut). By AI agents, Wed Nov 11 2026. No macro, syntax, notation, axiom, sorry.
-/
import Derived.Test.YtooeiafkhdiepaaChecked
import GoSem.Claim
import GoSem.ClaimJoined
import GoSem.ClaimMapViews
import Derived.JoinedTies
import Derived.KernelRfl
namespace Go.Proofs.Ytooeiafkhdiepaa
/- THE CELL 'sum', in the pinned program and in every row, IS THE sha256 OF THE DUMP (.gsa) THAT YtooeiafkhdiepaaProg.lean LOADS. Nothing in Lean hashes anything: it is a label: what it is worth is what the hold of that sum in a sandbox is worth. -/
noncomputable def Try.pinned : Pinned := { name := "ytooeiafkhdiepaa", sum := "2a8067c564624d378252aa393d80115981a94b6967ab61f383e8a351ac58ad25", checked := Try.checked }
namespace Rows
def none {H : Type} : Left H := { results := [], args := [] }

/-- 'laws.FnProducts': WHATEVER THE INPUT: true; the input reads as it did. -/
def fnProductsSpec : ChangeSpec := { name := "fnProducts", fn := fun _ => fun
  | [d] => { results := [.lit (.bool true)], args := [d] }
  | _ => none }
def fnProductsRow : OpenClaim := { program := "ytooeiafkhdiepaa", sum := "2a8067c564624d378252aa393d80115981a94b6967ab61f383e8a351ac58ad25", func := "loop.example/g01359/laws.FnProducts", spec := "fnProducts", recurses := true, plainKeys := false, apart := false }
def FnProductsSaid : Prop := fnProductsRow.holds Try.pinned (OpenSpec.ofChange fnProductsSpec)

/-- ITS FALSE NEIGHBOUR: 'it returns false'. Refute it at one input. -/
def fnProductsWrong : ChangeSpec := { name := "fnProducts", fn := fun _ => fun
  | [d] => { results := [.lit (.bool false)], args := [d] }
  | _ => none }
def FnProductsWrongFalsely : Prop := fnProductsRow.holds Try.pinned (OpenSpec.ofChange fnProductsWrong)

/-- 'laws.FnPowers': WHATEVER THE INPUT: true; the input reads as it did. -/
def fnPowersSpec : ChangeSpec := { name := "fnPowers", fn := fun _ => fun
  | [d] => { results := [.lit (.bool true)], args := [d] }
  | _ => none }
def fnPowersRow : OpenClaim := { program := "ytooeiafkhdiepaa", sum := "2a8067c564624d378252aa393d80115981a94b6967ab61f383e8a351ac58ad25", func := "loop.example/g01359/laws.FnPowers", spec := "fnPowers", unfollowed := true, recurses := true, plainKeys := false, apart := false }
def FnPowersSaid : Prop := fnPowersRow.holds Try.pinned (OpenSpec.ofChange fnPowersSpec)

/-- ITS FALSE NEIGHBOUR: 'it returns false'. Refute it at one input. -/
def fnPowersWrong : ChangeSpec := { name := "fnPowers", fn := fun _ => fun
  | [d] => { results := [.lit (.bool false)], args := [d] }
  | _ => none }
def FnPowersWrongFalsely : Prop := fnPowersRow.holds Try.pinned (OpenSpec.ofChange fnPowersWrong)

/-- 'laws.FnExactImageOf': WHATEVER THE INPUT: true; the input reads as it did. -/
def fnExactImageOfSpec : ChangeSpec := { name := "fnExactImageOf", fn := fun _ => fun
  | [d1, d2] => { results := [.lit (.bool true)], args := [d1, d2] }
  | _ => none }
def fnExactImageOfRow : OpenClaim := { program := "ytooeiafkhdiepaa", sum := "2a8067c564624d378252aa393d80115981a94b6967ab61f383e8a351ac58ad25", func := "loop.example/g01359/laws.FnExactImageOf", spec := "fnExactImageOf", plainKeys := false, apart := false }
def FnExactImageOfSaid : Prop := fnExactImageOfRow.holds Try.pinned (OpenSpec.ofChange fnExactImageOfSpec)

/-- ITS FALSE NEIGHBOUR: 'it returns false'. Refute it at one input. -/
def fnExactImageOfWrong : ChangeSpec := { name := "fnExactImageOf", fn := fun _ => fun
  | [d1, d2] => { results := [.lit (.bool false)], args := [d1, d2] }
  | _ => none }
def FnExactImageOfWrongFalsely : Prop := fnExactImageOfRow.holds Try.pinned (OpenSpec.ofChange fnExactImageOfWrong)

/-- 'laws.FnExactKernelOf': WHATEVER THE INPUT: true; the input reads as it did. -/
def fnExactKernelOfSpec : ChangeSpec := { name := "fnExactKernelOf", fn := fun _ => fun
  | [d] => { results := [.lit (.bool true)], args := [d] }
  | _ => none }
def fnExactKernelOfRow : OpenClaim := { program := "ytooeiafkhdiepaa", sum := "2a8067c564624d378252aa393d80115981a94b6967ab61f383e8a351ac58ad25", func := "loop.example/g01359/laws.FnExactKernelOf", spec := "fnExactKernelOf", plainKeys := false, apart := false }
def FnExactKernelOfSaid : Prop := fnExactKernelOfRow.holds Try.pinned (OpenSpec.ofChange fnExactKernelOfSpec)

/-- ITS FALSE NEIGHBOUR: 'it returns false'. Refute it at one input. -/
def fnExactKernelOfWrong : ChangeSpec := { name := "fnExactKernelOf", fn := fun _ => fun
  | [d] => { results := [.lit (.bool false)], args := [d] }
  | _ => none }
def FnExactKernelOfWrongFalsely : Prop := fnExactKernelOfRow.holds Try.pinned (OpenSpec.ofChange fnExactKernelOfWrong)

/-- 'laws.FnExactIndexAndPeriod': WHATEVER THE INPUT: true; the input reads as it did. -/
def fnExactIndexAndPeriodSpec : ChangeSpec := { name := "fnExactIndexAndPeriod", fn := fun _ => fun
  | [d] => { results := [.lit (.bool true)], args := [d] }
  | _ => none }
def fnExactIndexAndPeriodRow : OpenClaim := { program := "ytooeiafkhdiepaa", sum := "2a8067c564624d378252aa393d80115981a94b6967ab61f383e8a351ac58ad25", func := "loop.example/g01359/laws.FnExactIndexAndPeriod", spec := "fnExactIndexAndPeriod", unfollowed := true, recurses := true, plainKeys := false, apart := false }
def FnExactIndexAndPeriodSaid : Prop := fnExactIndexAndPeriodRow.holds Try.pinned (OpenSpec.ofChange fnExactIndexAndPeriodSpec)

/-- ITS FALSE NEIGHBOUR: 'it returns false'. Refute it at one input. -/
def fnExactIndexAndPeriodWrong : ChangeSpec := { name := "fnExactIndexAndPeriod", fn := fun _ => fun
  | [d] => { results := [.lit (.bool false)], args := [d] }
  | _ => none }
def FnExactIndexAndPeriodWrongFalsely : Prop := fnExactIndexAndPeriodRow.holds Try.pinned (OpenSpec.ofChange fnExactIndexAndPeriodWrong)

/-- 'laws.FnExactCyclicPoints': WHATEVER THE INPUT: true; the input reads as it did. -/
def fnExactCyclicPointsSpec : ChangeSpec := { name := "fnExactCyclicPoints", fn := fun _ => fun
  | [d] => { results := [.lit (.bool true)], args := [d] }
  | _ => none }
def fnExactCyclicPointsRow : OpenClaim := { program := "ytooeiafkhdiepaa", sum := "2a8067c564624d378252aa393d80115981a94b6967ab61f383e8a351ac58ad25", func := "loop.example/g01359/laws.FnExactCyclicPoints", spec := "fnExactCyclicPoints", unfollowed := true, recurses := true, plainKeys := false, apart := false }
def FnExactCyclicPointsSaid : Prop := fnExactCyclicPointsRow.holds Try.pinned (OpenSpec.ofChange fnExactCyclicPointsSpec)

/-- ITS FALSE NEIGHBOUR: 'it returns false'. Refute it at one input. -/
def fnExactCyclicPointsWrong : ChangeSpec := { name := "fnExactCyclicPoints", fn := fun _ => fun
  | [d] => { results := [.lit (.bool false)], args := [d] }
  | _ => none }
def FnExactCyclicPointsWrongFalsely : Prop := fnExactCyclicPointsRow.holds Try.pinned (OpenSpec.ofChange fnExactCyclicPointsWrong)

/-- 'laws.FnExactIdempotentPower': WHATEVER THE INPUT: true; the input reads as it did. -/
def fnExactIdempotentPowerSpec : ChangeSpec := { name := "fnExactIdempotentPower", fn := fun _ => fun
  | [d] => { results := [.lit (.bool true)], args := [d] }
  | _ => none }
def fnExactIdempotentPowerRow : OpenClaim := { program := "ytooeiafkhdiepaa", sum := "2a8067c564624d378252aa393d80115981a94b6967ab61f383e8a351ac58ad25", func := "loop.example/g01359/laws.FnExactIdempotentPower", spec := "fnExactIdempotentPower", unfollowed := true, recurses := true, plainKeys := false, apart := false }
def FnExactIdempotentPowerSaid : Prop := fnExactIdempotentPowerRow.holds Try.pinned (OpenSpec.ofChange fnExactIdempotentPowerSpec)

/-- ITS FALSE NEIGHBOUR: 'it returns false'. Refute it at one input. -/
def fnExactIdempotentPowerWrong : ChangeSpec := { name := "fnExactIdempotentPower", fn := fun _ => fun
  | [d] => { results := [.lit (.bool false)], args := [d] }
  | _ => none }
def FnExactIdempotentPowerWrongFalsely : Prop := fnExactIdempotentPowerRow.holds Try.pinned (OpenSpec.ofChange fnExactIdempotentPowerWrong)

/-- 'laws.FnExactPreimageOf': WHATEVER THE INPUT: true; the input reads as it did. -/
def fnExactPreimageOfSpec : ChangeSpec := { name := "fnExactPreimageOf", fn := fun _ => fun
  | [d1, d2] => { results := [.lit (.bool true)], args := [d1, d2] }
  | _ => none }
def fnExactPreimageOfRow : OpenClaim := { program := "ytooeiafkhdiepaa", sum := "2a8067c564624d378252aa393d80115981a94b6967ab61f383e8a351ac58ad25", func := "loop.example/g01359/laws.FnExactPreimageOf", spec := "fnExactPreimageOf", plainKeys := false, apart := false }
def FnExactPreimageOfSaid : Prop := fnExactPreimageOfRow.holds Try.pinned (OpenSpec.ofChange fnExactPreimageOfSpec)

/-- ITS FALSE NEIGHBOUR: 'it returns false'. Refute it at one input. -/
def fnExactPreimageOfWrong : ChangeSpec := { name := "fnExactPreimageOf", fn := fun _ => fun
  | [d1, d2] => { results := [.lit (.bool false)], args := [d1, d2] }
  | _ => none }
def FnExactPreimageOfWrongFalsely : Prop := fnExactPreimageOfRow.holds Try.pinned (OpenSpec.ofChange fnExactPreimageOfWrong)

/-- 'laws.FnExactMapText': WHATEVER THE INPUT: true; the input reads as it did. -/
def fnExactMapTextSpec : ChangeSpec := { name := "fnExactMapText", fn := fun _ => fun
  | [d] => { results := [.lit (.bool true)], args := [d] }
  | _ => none }
def fnExactMapTextRow : OpenClaim := { program := "ytooeiafkhdiepaa", sum := "2a8067c564624d378252aa393d80115981a94b6967ab61f383e8a351ac58ad25", func := "loop.example/g01359/laws.FnExactMapText", spec := "fnExactMapText", recurses := true, plainKeys := false, apart := false }
def FnExactMapTextSaid : Prop := fnExactMapTextRow.holds Try.pinned (OpenSpec.ofChange fnExactMapTextSpec)

/-- ITS FALSE NEIGHBOUR: 'it returns false'. Refute it at one input. -/
def fnExactMapTextWrong : ChangeSpec := { name := "fnExactMapText", fn := fun _ => fun
  | [d] => { results := [.lit (.bool false)], args := [d] }
  | _ => none }
def FnExactMapTextWrongFalsely : Prop := fnExactMapTextRow.holds Try.pinned (OpenSpec.ofChange fnExactMapTextWrong)

/-- 'laws.FnExactParseMap': WHATEVER THE INPUT: true; the input reads as it did. -/
def fnExactParseMapSpec : ChangeSpec := { name := "fnExactParseMap", fn := fun _ => fun
  | [d] => { results := [.lit (.bool true)], args := [d] }
  | _ => none }
def fnExactParseMapRow : OpenClaim := { program := "ytooeiafkhdiepaa", sum := "2a8067c564624d378252aa393d80115981a94b6967ab61f383e8a351ac58ad25", func := "loop.example/g01359/laws.FnExactParseMap", spec := "fnExactParseMap", plainKeys := false, apart := false }
def FnExactParseMapSaid : Prop := fnExactParseMapRow.holds Try.pinned (OpenSpec.ofChange fnExactParseMapSpec)

/-- ITS FALSE NEIGHBOUR: 'it returns false'. Refute it at one input. -/
def fnExactParseMapWrong : ChangeSpec := { name := "fnExactParseMap", fn := fun _ => fun
  | [d] => { results := [.lit (.bool false)], args := [d] }
  | _ => none }
def FnExactParseMapWrongFalsely : Prop := fnExactParseMapRow.holds Try.pinned (OpenSpec.ofChange fnExactParseMapWrong)

/- THE SECOND FORM. 'bulk': how many values and letters a reading holds, each counted each time it is reached (what is shared counts as often as it is met; a slice's spare places count too). A statement '..UptoSaid' is the law's where the arguments, and the package variables that the reading takes, are together of bulk at most 1048576: NARROWER than '..Said'. Prove '..Said' where nothing that the law and all that it calls make is longer than what came in: it says more and counts as full. Else prove '..UptoSaid'. A law counts once. -/
mutual
def uptoBulk {H : Type} : DataW H → Nat
  | .lit (.string bytes) => bytes.length + 1
  | .lit _ => 1
  | .nil => 1
  | .ptr d => uptoBulk d + 1
  | .slice elems spare => uptoBulkAll elems + uptoBulkAll spare + 1
  | .agg parts => uptoBulkAll parts + 1
  | .iface _ d => uptoBulk d + 1
  | .map entries => uptoBulkEntries entries + 1
  | .held _ => 1
def uptoBulkAll {H : Type} : List (DataW H) → Nat
  | [] => 0
  | d :: r => uptoBulk d + uptoBulkAll r
def uptoBulkEntries {H : Type} : List (Lit × DataW H) → Nat
  | [] => 0
  | x :: r => uptoBulkEntry x + uptoBulkEntries r
def uptoBulkEntry {H : Type} : Lit × DataW H → Nat
  | (.string bytes, d) => bytes.length + uptoBulk d + 1
  | (_, d) => uptoBulk d + 1
 end
def uptoSmall : (H : Type) → List (DataW H) → Bool := fun _ ds => decide (uptoBulkAll ds ≤ 1048576)
def OpenSpec.upto (s : _root_.Go.ChangeSpec) : _root_.Go.OpenSpec := { _root_.Go.OpenSpec.ofChange s with cond := some uptoSmall }

/-- 'laws.FnProducts', WHERE WHAT IT READS IS OF BULK AT MOST 1048576: true; the input reads as it did. -/
def fnProductsUptoRow : OpenClaim := { program := "ytooeiafkhdiepaa", sum := "2a8067c564624d378252aa393d80115981a94b6967ab61f383e8a351ac58ad25", func := "loop.example/g01359/laws.FnProducts", spec := "fnProducts", recurses := true, plainKeys := false, apart := false, narrowed := true }
def FnProductsUptoSaid : Prop := fnProductsUptoRow.holds Try.pinned (OpenSpec.upto fnProductsSpec)

/-- 'laws.FnPowers', WHERE WHAT IT READS IS OF BULK AT MOST 1048576: true; the input reads as it did. -/
def fnPowersUptoRow : OpenClaim := { program := "ytooeiafkhdiepaa", sum := "2a8067c564624d378252aa393d80115981a94b6967ab61f383e8a351ac58ad25", func := "loop.example/g01359/laws.FnPowers", spec := "fnPowers", unfollowed := true, recurses := true, plainKeys := false, apart := false, narrowed := true }
def FnPowersUptoSaid : Prop := fnPowersUptoRow.holds Try.pinned (OpenSpec.upto fnPowersSpec)

/-- 'laws.FnExactImageOf', WHERE WHAT IT READS IS OF BULK AT MOST 1048576: true; the input reads as it did. -/
def fnExactImageOfUptoRow : OpenClaim := { program := "ytooeiafkhdiepaa", sum := "2a8067c564624d378252aa393d80115981a94b6967ab61f383e8a351ac58ad25", func := "loop.example/g01359/laws.FnExactImageOf", spec := "fnExactImageOf", plainKeys := false, apart := false, narrowed := true }
def FnExactImageOfUptoSaid : Prop := fnExactImageOfUptoRow.holds Try.pinned (OpenSpec.upto fnExactImageOfSpec)

/-- 'laws.FnExactKernelOf', WHERE WHAT IT READS IS OF BULK AT MOST 1048576: true; the input reads as it did. -/
def fnExactKernelOfUptoRow : OpenClaim := { program := "ytooeiafkhdiepaa", sum := "2a8067c564624d378252aa393d80115981a94b6967ab61f383e8a351ac58ad25", func := "loop.example/g01359/laws.FnExactKernelOf", spec := "fnExactKernelOf", plainKeys := false, apart := false, narrowed := true }
def FnExactKernelOfUptoSaid : Prop := fnExactKernelOfUptoRow.holds Try.pinned (OpenSpec.upto fnExactKernelOfSpec)

/-- 'laws.FnExactIndexAndPeriod', WHERE WHAT IT READS IS OF BULK AT MOST 1048576: true; the input reads as it did. -/
def fnExactIndexAndPeriodUptoRow : OpenClaim := { program := "ytooeiafkhdiepaa", sum := "2a8067c564624d378252aa393d80115981a94b6967ab61f383e8a351ac58ad25", func := "loop.example/g01359/laws.FnExactIndexAndPeriod", spec := "fnExactIndexAndPeriod", unfollowed := true, recurses := true, plainKeys := false, apart := false, narrowed := true }
def FnExactIndexAndPeriodUptoSaid : Prop := fnExactIndexAndPeriodUptoRow.holds Try.pinned (OpenSpec.upto fnExactIndexAndPeriodSpec)

/-- 'laws.FnExactCyclicPoints', WHERE WHAT IT READS IS OF BULK AT MOST 1048576: true; the input reads as it did. -/
def fnExactCyclicPointsUptoRow : OpenClaim := { program := "ytooeiafkhdiepaa", sum := "2a8067c564624d378252aa393d80115981a94b6967ab61f383e8a351ac58ad25", func := "loop.example/g01359/laws.FnExactCyclicPoints", spec := "fnExactCyclicPoints", unfollowed := true, recurses := true, plainKeys := false, apart := false, narrowed := true }
def FnExactCyclicPointsUptoSaid : Prop := fnExactCyclicPointsUptoRow.holds Try.pinned (OpenSpec.upto fnExactCyclicPointsSpec)

/-- 'laws.FnExactIdempotentPower', WHERE WHAT IT READS IS OF BULK AT MOST 1048576: true; the input reads as it did. -/
def fnExactIdempotentPowerUptoRow : OpenClaim := { program := "ytooeiafkhdiepaa", sum := "2a8067c564624d378252aa393d80115981a94b6967ab61f383e8a351ac58ad25", func := "loop.example/g01359/laws.FnExactIdempotentPower", spec := "fnExactIdempotentPower", unfollowed := true, recurses := true, plainKeys := false, apart := false, narrowed := true }
def FnExactIdempotentPowerUptoSaid : Prop := fnExactIdempotentPowerUptoRow.holds Try.pinned (OpenSpec.upto fnExactIdempotentPowerSpec)

/-- 'laws.FnExactPreimageOf', WHERE WHAT IT READS IS OF BULK AT MOST 1048576: true; the input reads as it did. -/
def fnExactPreimageOfUptoRow : OpenClaim := { program := "ytooeiafkhdiepaa", sum := "2a8067c564624d378252aa393d80115981a94b6967ab61f383e8a351ac58ad25", func := "loop.example/g01359/laws.FnExactPreimageOf", spec := "fnExactPreimageOf", plainKeys := false, apart := false, narrowed := true }
def FnExactPreimageOfUptoSaid : Prop := fnExactPreimageOfUptoRow.holds Try.pinned (OpenSpec.upto fnExactPreimageOfSpec)

/-- 'laws.FnExactMapText', WHERE WHAT IT READS IS OF BULK AT MOST 1048576: true; the input reads as it did. -/
def fnExactMapTextUptoRow : OpenClaim := { program := "ytooeiafkhdiepaa", sum := "2a8067c564624d378252aa393d80115981a94b6967ab61f383e8a351ac58ad25", func := "loop.example/g01359/laws.FnExactMapText", spec := "fnExactMapText", recurses := true, plainKeys := false, apart := false, narrowed := true }
def FnExactMapTextUptoSaid : Prop := fnExactMapTextUptoRow.holds Try.pinned (OpenSpec.upto fnExactMapTextSpec)

/-- 'laws.FnExactParseMap', WHERE WHAT IT READS IS OF BULK AT MOST 1048576: true; the input reads as it did. -/
def fnExactParseMapUptoRow : OpenClaim := { program := "ytooeiafkhdiepaa", sum := "2a8067c564624d378252aa393d80115981a94b6967ab61f383e8a351ac58ad25", func := "loop.example/g01359/laws.FnExactParseMap", spec := "fnExactParseMap", plainKeys := false, apart := false, narrowed := true }
def FnExactParseMapUptoSaid : Prop := fnExactParseMapUptoRow.holds Try.pinned (OpenSpec.upto fnExactParseMapSpec)

end Rows
end Go.Proofs.Ytooeiafkhdiepaa
