/-
  No cell of these rows narrows 'for every input' (looked for: loops, veiled, ifaces, maps, wideKeys, modest, calm, conditions, laid).
  DERIVED. THE GIVEN ROWS OF THIS SEAT. 16 by the template 'for every input the law returns true; each argument reads behind the call as it read before'; 0 by the template 'total and deterministic' (their statements: YtpkapgidpgmdoaaTotals.lean).
  GIVEN WITH THE SEED: the statements are not yours to turn. If you find one false, say at which input.
  Laid BY PROGRAM, IN A SANDBOX (cutbox-rows.mjs): the forced cells as the released guide's own fill.sh prints them over the translation ccb12cb72686a91f… (all of the seat's roots in one cut). By AI agents, Wed Nov 11 2026. No macro, syntax, notation, axiom, sorry.
-/
import Derived.Test.YtpkapgidpgmdoaaChecked
import GoSem.Claim
import GoSem.ClaimJoined
import GoSem.ClaimMapViews
import Derived.JoinedTies
import Derived.KernelRfl
namespace Go.Proofs.Ytpkapgidpgmdoaa
/- THE CELL 'sum', in the pinned program and in every row, IS THE sha256 OF THE DUMP (.gsa) THAT YtpkapgidpgmdoaaProg.lean LOADS. Nothing in Lean hashes anything: it is a label: what it is worth is what the hold of that sum in a sandbox is worth. -/
noncomputable def Try.pinned : Pinned := { name := "ytpkapgidpgmdoaa", sum := "ccb12cb72686a91facce62f51b00c706cf0993157763e42117cb459255c590d9", checked := Try.checked }
namespace Rows
def none {H : Type} : Left H := { results := [], args := [] }

/-- 'laws.FnExactElementsOf': WHATEVER THE INPUT: true; the input reads as it did. -/
def fnExactElementsOfSpec : ChangeSpec := { name := "fnExactElementsOf", fn := fun _ => fun
  | [d] => { results := [.lit (.bool true)], args := [d] }
  | _ => none }
def fnExactElementsOfRow : OpenClaim := { program := "ytpkapgidpgmdoaa", sum := "ccb12cb72686a91facce62f51b00c706cf0993157763e42117cb459255c590d9", func := "loop.example/g01359/laws.FnExactElementsOf", spec := "fnExactElementsOf", unfollowed := true, recurses := true, plainKeys := false, apart := false }
def FnExactElementsOfSaid : Prop := fnExactElementsOfRow.holds Try.pinned (OpenSpec.ofChange fnExactElementsOfSpec)

/-- ITS FALSE NEIGHBOUR: 'it returns false'. Refute it at one input. -/
def fnExactElementsOfWrong : ChangeSpec := { name := "fnExactElementsOf", fn := fun _ => fun
  | [d] => { results := [.lit (.bool false)], args := [d] }
  | _ => none }
def FnExactElementsOfWrongFalsely : Prop := fnExactElementsOfRow.holds Try.pinned (OpenSpec.ofChange fnExactElementsOfWrong)

/-- 'laws.FnExactSizeOf': WHATEVER THE INPUT: true; the input reads as it did. -/
def fnExactSizeOfSpec : ChangeSpec := { name := "fnExactSizeOf", fn := fun _ => fun
  | [d] => { results := [.lit (.bool true)], args := [d] }
  | _ => none }
def fnExactSizeOfRow : OpenClaim := { program := "ytpkapgidpgmdoaa", sum := "ccb12cb72686a91facce62f51b00c706cf0993157763e42117cb459255c590d9", func := "loop.example/g01359/laws.FnExactSizeOf", spec := "fnExactSizeOf", unfollowed := true, recurses := true, plainKeys := false, apart := false }
def FnExactSizeOfSaid : Prop := fnExactSizeOfRow.holds Try.pinned (OpenSpec.ofChange fnExactSizeOfSpec)

/-- ITS FALSE NEIGHBOUR: 'it returns false'. Refute it at one input. -/
def fnExactSizeOfWrong : ChangeSpec := { name := "fnExactSizeOf", fn := fun _ => fun
  | [d] => { results := [.lit (.bool false)], args := [d] }
  | _ => none }
def FnExactSizeOfWrongFalsely : Prop := fnExactSizeOfRow.holds Try.pinned (OpenSpec.ofChange fnExactSizeOfWrong)

/-- 'laws.FnExactWordFor': WHATEVER THE INPUT: true; the input reads as it did. -/
def fnExactWordForSpec : ChangeSpec := { name := "fnExactWordFor", fn := fun _ => fun
  | [d1, d2] => { results := [.lit (.bool true)], args := [d1, d2] }
  | _ => none }
def fnExactWordForRow : OpenClaim := { program := "ytpkapgidpgmdoaa", sum := "ccb12cb72686a91facce62f51b00c706cf0993157763e42117cb459255c590d9", func := "loop.example/g01359/laws.FnExactWordFor", spec := "fnExactWordFor", unfollowed := true, recurses := true, plainKeys := false, apart := false }
def FnExactWordForSaid : Prop := fnExactWordForRow.holds Try.pinned (OpenSpec.ofChange fnExactWordForSpec)

/-- ITS FALSE NEIGHBOUR: 'it returns false'. Refute it at one input. -/
def fnExactWordForWrong : ChangeSpec := { name := "fnExactWordFor", fn := fun _ => fun
  | [d1, d2] => { results := [.lit (.bool false)], args := [d1, d2] }
  | _ => none }
def FnExactWordForWrongFalsely : Prop := fnExactWordForRow.holds Try.pinned (OpenSpec.ofChange fnExactWordForWrong)

/-- 'laws.FnExactMapOfWord': WHATEVER THE INPUT: true; the input reads as it did. -/
def fnExactMapOfWordSpec : ChangeSpec := { name := "fnExactMapOfWord", fn := fun _ => fun
  | [d1, d2] => { results := [.lit (.bool true)], args := [d1, d2] }
  | _ => none }
def fnExactMapOfWordRow : OpenClaim := { program := "ytpkapgidpgmdoaa", sum := "ccb12cb72686a91facce62f51b00c706cf0993157763e42117cb459255c590d9", func := "loop.example/g01359/laws.FnExactMapOfWord", spec := "fnExactMapOfWord", plainKeys := false, apart := false }
def FnExactMapOfWordSaid : Prop := fnExactMapOfWordRow.holds Try.pinned (OpenSpec.ofChange fnExactMapOfWordSpec)

/-- ITS FALSE NEIGHBOUR: 'it returns false'. Refute it at one input. -/
def fnExactMapOfWordWrong : ChangeSpec := { name := "fnExactMapOfWord", fn := fun _ => fun
  | [d1, d2] => { results := [.lit (.bool false)], args := [d1, d2] }
  | _ => none }
def FnExactMapOfWordWrongFalsely : Prop := fnExactMapOfWordRow.holds Try.pinned (OpenSpec.ofChange fnExactMapOfWordWrong)

/-- 'laws.FnExactIsElement': WHATEVER THE INPUT: true; the input reads as it did. -/
def fnExactIsElementSpec : ChangeSpec := { name := "fnExactIsElement", fn := fun _ => fun
  | [d1, d2] => { results := [.lit (.bool true)], args := [d1, d2] }
  | _ => none }
def fnExactIsElementRow : OpenClaim := { program := "ytpkapgidpgmdoaa", sum := "ccb12cb72686a91facce62f51b00c706cf0993157763e42117cb459255c590d9", func := "loop.example/g01359/laws.FnExactIsElement", spec := "fnExactIsElement", unfollowed := true, recurses := true, plainKeys := false, apart := false }
def FnExactIsElementSaid : Prop := fnExactIsElementRow.holds Try.pinned (OpenSpec.ofChange fnExactIsElementSpec)

/-- ITS FALSE NEIGHBOUR: 'it returns false'. Refute it at one input. -/
def fnExactIsElementWrong : ChangeSpec := { name := "fnExactIsElement", fn := fun _ => fun
  | [d1, d2] => { results := [.lit (.bool false)], args := [d1, d2] }
  | _ => none }
def FnExactIsElementWrongFalsely : Prop := fnExactIsElementRow.holds Try.pinned (OpenSpec.ofChange fnExactIsElementWrong)

/-- 'laws.FnExactUnitsOf': WHATEVER THE INPUT: true; the input reads as it did. -/
def fnExactUnitsOfSpec : ChangeSpec := { name := "fnExactUnitsOf", fn := fun _ => fun
  | [d] => { results := [.lit (.bool true)], args := [d] }
  | _ => none }
def fnExactUnitsOfRow : OpenClaim := { program := "ytpkapgidpgmdoaa", sum := "ccb12cb72686a91facce62f51b00c706cf0993157763e42117cb459255c590d9", func := "loop.example/g01359/laws.FnExactUnitsOf", spec := "fnExactUnitsOf", unfollowed := true, recurses := true, plainKeys := false, apart := false }
def FnExactUnitsOfSaid : Prop := fnExactUnitsOfRow.holds Try.pinned (OpenSpec.ofChange fnExactUnitsOfSpec)

/-- ITS FALSE NEIGHBOUR: 'it returns false'. Refute it at one input. -/
def fnExactUnitsOfWrong : ChangeSpec := { name := "fnExactUnitsOf", fn := fun _ => fun
  | [d] => { results := [.lit (.bool false)], args := [d] }
  | _ => none }
def FnExactUnitsOfWrongFalsely : Prop := fnExactUnitsOfRow.holds Try.pinned (OpenSpec.ofChange fnExactUnitsOfWrong)

/-- 'laws.FnExactZeroOf': WHATEVER THE INPUT: true; the input reads as it did. -/
def fnExactZeroOfSpec : ChangeSpec := { name := "fnExactZeroOf", fn := fun _ => fun
  | [d] => { results := [.lit (.bool true)], args := [d] }
  | _ => none }
def fnExactZeroOfRow : OpenClaim := { program := "ytpkapgidpgmdoaa", sum := "ccb12cb72686a91facce62f51b00c706cf0993157763e42117cb459255c590d9", func := "loop.example/g01359/laws.FnExactZeroOf", spec := "fnExactZeroOf", unfollowed := true, recurses := true, plainKeys := false, apart := false }
def FnExactZeroOfSaid : Prop := fnExactZeroOfRow.holds Try.pinned (OpenSpec.ofChange fnExactZeroOfSpec)

/-- ITS FALSE NEIGHBOUR: 'it returns false'. Refute it at one input. -/
def fnExactZeroOfWrong : ChangeSpec := { name := "fnExactZeroOf", fn := fun _ => fun
  | [d] => { results := [.lit (.bool false)], args := [d] }
  | _ => none }
def FnExactZeroOfWrongFalsely : Prop := fnExactZeroOfRow.holds Try.pinned (OpenSpec.ofChange fnExactZeroOfWrong)

/-- 'laws.FnExactSideZeros': WHATEVER THE INPUT: true; the input reads as it did. -/
def fnExactSideZerosSpec : ChangeSpec := { name := "fnExactSideZeros", fn := fun _ => fun
  | [d1, d2] => { results := [.lit (.bool true)], args := [d1, d2] }
  | _ => none }
def fnExactSideZerosRow : OpenClaim := { program := "ytpkapgidpgmdoaa", sum := "ccb12cb72686a91facce62f51b00c706cf0993157763e42117cb459255c590d9", func := "loop.example/g01359/laws.FnExactSideZeros", spec := "fnExactSideZeros", unfollowed := true, recurses := true, plainKeys := false, apart := false }
def FnExactSideZerosSaid : Prop := fnExactSideZerosRow.holds Try.pinned (OpenSpec.ofChange fnExactSideZerosSpec)

/-- ITS FALSE NEIGHBOUR: 'it returns false'. Refute it at one input. -/
def fnExactSideZerosWrong : ChangeSpec := { name := "fnExactSideZeros", fn := fun _ => fun
  | [d1, d2] => { results := [.lit (.bool false)], args := [d1, d2] }
  | _ => none }
def FnExactSideZerosWrongFalsely : Prop := fnExactSideZerosRow.holds Try.pinned (OpenSpec.ofChange fnExactSideZerosWrong)

/-- 'laws.FnExactIdempotentsOf': WHATEVER THE INPUT: true; the input reads as it did. -/
def fnExactIdempotentsOfSpec : ChangeSpec := { name := "fnExactIdempotentsOf", fn := fun _ => fun
  | [d] => { results := [.lit (.bool true)], args := [d] }
  | _ => none }
def fnExactIdempotentsOfRow : OpenClaim := { program := "ytpkapgidpgmdoaa", sum := "ccb12cb72686a91facce62f51b00c706cf0993157763e42117cb459255c590d9", func := "loop.example/g01359/laws.FnExactIdempotentsOf", spec := "fnExactIdempotentsOf", unfollowed := true, recurses := true, plainKeys := false, apart := false }
def FnExactIdempotentsOfSaid : Prop := fnExactIdempotentsOfRow.holds Try.pinned (OpenSpec.ofChange fnExactIdempotentsOfSpec)

/-- ITS FALSE NEIGHBOUR: 'it returns false'. Refute it at one input. -/
def fnExactIdempotentsOfWrong : ChangeSpec := { name := "fnExactIdempotentsOf", fn := fun _ => fun
  | [d] => { results := [.lit (.bool false)], args := [d] }
  | _ => none }
def FnExactIdempotentsOfWrongFalsely : Prop := fnExactIdempotentsOfRow.holds Try.pinned (OpenSpec.ofChange fnExactIdempotentsOfWrong)

/-- 'laws.FnExactCentreOf': WHATEVER THE INPUT: true; the input reads as it did. -/
def fnExactCentreOfSpec : ChangeSpec := { name := "fnExactCentreOf", fn := fun _ => fun
  | [d] => { results := [.lit (.bool true)], args := [d] }
  | _ => none }
def fnExactCentreOfRow : OpenClaim := { program := "ytpkapgidpgmdoaa", sum := "ccb12cb72686a91facce62f51b00c706cf0993157763e42117cb459255c590d9", func := "loop.example/g01359/laws.FnExactCentreOf", spec := "fnExactCentreOf", unfollowed := true, recurses := true, plainKeys := false, apart := false }
def FnExactCentreOfSaid : Prop := fnExactCentreOfRow.holds Try.pinned (OpenSpec.ofChange fnExactCentreOfSpec)

/-- ITS FALSE NEIGHBOUR: 'it returns false'. Refute it at one input. -/
def fnExactCentreOfWrong : ChangeSpec := { name := "fnExactCentreOf", fn := fun _ => fun
  | [d] => { results := [.lit (.bool false)], args := [d] }
  | _ => none }
def FnExactCentreOfWrongFalsely : Prop := fnExactCentreOfRow.holds Try.pinned (OpenSpec.ofChange fnExactCentreOfWrong)

/-- 'laws.FnExactIsCommutative': WHATEVER THE INPUT: true; the input reads as it did. -/
def fnExactIsCommutativeSpec : ChangeSpec := { name := "fnExactIsCommutative", fn := fun _ => fun
  | [d] => { results := [.lit (.bool true)], args := [d] }
  | _ => none }
def fnExactIsCommutativeRow : OpenClaim := { program := "ytpkapgidpgmdoaa", sum := "ccb12cb72686a91facce62f51b00c706cf0993157763e42117cb459255c590d9", func := "loop.example/g01359/laws.FnExactIsCommutative", spec := "fnExactIsCommutative", unfollowed := true, recurses := true, plainKeys := false, apart := false }
def FnExactIsCommutativeSaid : Prop := fnExactIsCommutativeRow.holds Try.pinned (OpenSpec.ofChange fnExactIsCommutativeSpec)

/-- ITS FALSE NEIGHBOUR: 'it returns false'. Refute it at one input. -/
def fnExactIsCommutativeWrong : ChangeSpec := { name := "fnExactIsCommutative", fn := fun _ => fun
  | [d] => { results := [.lit (.bool false)], args := [d] }
  | _ => none }
def FnExactIsCommutativeWrongFalsely : Prop := fnExactIsCommutativeRow.holds Try.pinned (OpenSpec.ofChange fnExactIsCommutativeWrong)

/-- 'laws.FnExactSizesByRank': WHATEVER THE INPUT: true; the input reads as it did. -/
def fnExactSizesByRankSpec : ChangeSpec := { name := "fnExactSizesByRank", fn := fun _ => fun
  | [d] => { results := [.lit (.bool true)], args := [d] }
  | _ => none }
def fnExactSizesByRankRow : OpenClaim := { program := "ytpkapgidpgmdoaa", sum := "ccb12cb72686a91facce62f51b00c706cf0993157763e42117cb459255c590d9", func := "loop.example/g01359/laws.FnExactSizesByRank", spec := "fnExactSizesByRank", unfollowed := true, recurses := true, plainKeys := false, apart := false }
def FnExactSizesByRankSaid : Prop := fnExactSizesByRankRow.holds Try.pinned (OpenSpec.ofChange fnExactSizesByRankSpec)

/-- ITS FALSE NEIGHBOUR: 'it returns false'. Refute it at one input. -/
def fnExactSizesByRankWrong : ChangeSpec := { name := "fnExactSizesByRank", fn := fun _ => fun
  | [d] => { results := [.lit (.bool false)], args := [d] }
  | _ => none }
def FnExactSizesByRankWrongFalsely : Prop := fnExactSizesByRankRow.holds Try.pinned (OpenSpec.ofChange fnExactSizesByRankWrong)

/-- 'laws.FnExactSizesByLength': WHATEVER THE INPUT: true; the input reads as it did. -/
def fnExactSizesByLengthSpec : ChangeSpec := { name := "fnExactSizesByLength", fn := fun _ => fun
  | [d] => { results := [.lit (.bool true)], args := [d] }
  | _ => none }
def fnExactSizesByLengthRow : OpenClaim := { program := "ytpkapgidpgmdoaa", sum := "ccb12cb72686a91facce62f51b00c706cf0993157763e42117cb459255c590d9", func := "loop.example/g01359/laws.FnExactSizesByLength", spec := "fnExactSizesByLength", unfollowed := true, recurses := true, plainKeys := false, apart := false }
def FnExactSizesByLengthSaid : Prop := fnExactSizesByLengthRow.holds Try.pinned (OpenSpec.ofChange fnExactSizesByLengthSpec)

/-- ITS FALSE NEIGHBOUR: 'it returns false'. Refute it at one input. -/
def fnExactSizesByLengthWrong : ChangeSpec := { name := "fnExactSizesByLength", fn := fun _ => fun
  | [d] => { results := [.lit (.bool false)], args := [d] }
  | _ => none }
def FnExactSizesByLengthWrongFalsely : Prop := fnExactSizesByLengthRow.holds Try.pinned (OpenSpec.ofChange fnExactSizesByLengthWrong)

/-- 'laws.FnExactLeastGenerating': WHATEVER THE INPUT: true; the input reads as it did. -/
def fnExactLeastGeneratingSpec : ChangeSpec := { name := "fnExactLeastGenerating", fn := fun _ => fun
  | [d] => { results := [.lit (.bool true)], args := [d] }
  | _ => none }
def fnExactLeastGeneratingRow : OpenClaim := { program := "ytpkapgidpgmdoaa", sum := "ccb12cb72686a91facce62f51b00c706cf0993157763e42117cb459255c590d9", func := "loop.example/g01359/laws.FnExactLeastGenerating", spec := "fnExactLeastGenerating", unfollowed := true, recurses := true, plainKeys := false, apart := false }
def FnExactLeastGeneratingSaid : Prop := fnExactLeastGeneratingRow.holds Try.pinned (OpenSpec.ofChange fnExactLeastGeneratingSpec)

/-- ITS FALSE NEIGHBOUR: 'it returns false'. Refute it at one input. -/
def fnExactLeastGeneratingWrong : ChangeSpec := { name := "fnExactLeastGenerating", fn := fun _ => fun
  | [d] => { results := [.lit (.bool false)], args := [d] }
  | _ => none }
def FnExactLeastGeneratingWrongFalsely : Prop := fnExactLeastGeneratingRow.holds Try.pinned (OpenSpec.ofChange fnExactLeastGeneratingWrong)

/-- 'laws.FnExactNewDesk': WHATEVER THE INPUT: true; the input reads as it did. -/
def fnExactNewDeskSpec : ChangeSpec := { name := "fnExactNewDesk", fn := fun _ => fun
  | [] => { results := [.lit (.bool true)], args := [] }
  | _ => none }
def fnExactNewDeskRow : OpenClaim := { program := "ytpkapgidpgmdoaa", sum := "ccb12cb72686a91facce62f51b00c706cf0993157763e42117cb459255c590d9", func := "loop.example/g01359/laws.FnExactNewDesk", spec := "fnExactNewDesk", plainKeys := false, apart := false }
def FnExactNewDeskSaid : Prop := fnExactNewDeskRow.holds Try.pinned (OpenSpec.ofChange fnExactNewDeskSpec)

/-- ITS FALSE NEIGHBOUR: 'it returns false'. Refute it at one input. -/
def fnExactNewDeskWrong : ChangeSpec := { name := "fnExactNewDesk", fn := fun _ => fun
  | [] => { results := [.lit (.bool false)], args := [] }
  | _ => none }
def FnExactNewDeskWrongFalsely : Prop := fnExactNewDeskRow.holds Try.pinned (OpenSpec.ofChange fnExactNewDeskWrong)

/-- 'laws.FnExactIsDesk': WHATEVER THE INPUT: true; the input reads as it did. -/
def fnExactIsDeskSpec : ChangeSpec := { name := "fnExactIsDesk", fn := fun _ => fun
  | [d] => { results := [.lit (.bool true)], args := [d] }
  | _ => none }
def fnExactIsDeskRow : OpenClaim := { program := "ytpkapgidpgmdoaa", sum := "ccb12cb72686a91facce62f51b00c706cf0993157763e42117cb459255c590d9", func := "loop.example/g01359/laws.FnExactIsDesk", spec := "fnExactIsDesk", plainKeys := false, apart := false }
def FnExactIsDeskSaid : Prop := fnExactIsDeskRow.holds Try.pinned (OpenSpec.ofChange fnExactIsDeskSpec)

/-- ITS FALSE NEIGHBOUR: 'it returns false'. Refute it at one input. -/
def fnExactIsDeskWrong : ChangeSpec := { name := "fnExactIsDesk", fn := fun _ => fun
  | [d] => { results := [.lit (.bool false)], args := [d] }
  | _ => none }
def FnExactIsDeskWrongFalsely : Prop := fnExactIsDeskRow.holds Try.pinned (OpenSpec.ofChange fnExactIsDeskWrong)

/- THE SECOND FORM. 'bulk': how many values and letters a reading holds, each counted each time it is reached (what is shared counts as often as it is met; a slice's spare places count too). A statement '..UptoSaid' is the law's where the arguments, and the package variables that the reading takes, are together of bulk at most 1048576: NARROWER than '..Said'. Prove '..Said' where nothing that the law and all that it calls make is longer than what came in: it says more and counts as full. Else prove '..UptoSaid'. A law counts once. -/
mutual
def uptoBulk {H : Type} : DataW H → Nat
  | .lit (.string bytes) => bytes.length + 1
  | .lit _ => 1
  | .nil => 1
  | .ptr d => uptoBulk d + 1
  | .slice elems spare => uptoBulkAll elems + uptoBulkAll spare + 1
  | .agg parts => uptoBulkAll parts + 1
  | .iface _ d => uptoBulk d + 1
  | .map entries => uptoBulkEntries entries + 1
  | .held _ => 1
def uptoBulkAll {H : Type} : List (DataW H) → Nat
  | [] => 0
  | d :: r => uptoBulk d + uptoBulkAll r
def uptoBulkEntries {H : Type} : List (Lit × DataW H) → Nat
  | [] => 0
  | x :: r => uptoBulkEntry x + uptoBulkEntries r
def uptoBulkEntry {H : Type} : Lit × DataW H → Nat
  | (.string bytes, d) => bytes.length + uptoBulk d + 1
  | (_, d) => uptoBulk d + 1
 end
def uptoSmall : (H : Type) → List (DataW H) → Bool := fun _ ds => decide (uptoBulkAll ds ≤ 1048576)
def OpenSpec.upto (s : _root_.Go.ChangeSpec) : _root_.Go.OpenSpec := { _root_.Go.OpenSpec.ofChange s with cond := some uptoSmall }

/-- 'laws.FnExactElementsOf', WHERE WHAT IT READS IS OF BULK AT MOST 1048576: true; the input reads as it did. -/
def fnExactElementsOfUptoRow : OpenClaim := { program := "ytpkapgidpgmdoaa", sum := "ccb12cb72686a91facce62f51b00c706cf0993157763e42117cb459255c590d9", func := "loop.example/g01359/laws.FnExactElementsOf", spec := "fnExactElementsOf", unfollowed := true, recurses := true, plainKeys := false, apart := false, narrowed := true }
def FnExactElementsOfUptoSaid : Prop := fnExactElementsOfUptoRow.holds Try.pinned (OpenSpec.upto fnExactElementsOfSpec)

/-- 'laws.FnExactSizeOf', WHERE WHAT IT READS IS OF BULK AT MOST 1048576: true; the input reads as it did. -/
def fnExactSizeOfUptoRow : OpenClaim := { program := "ytpkapgidpgmdoaa", sum := "ccb12cb72686a91facce62f51b00c706cf0993157763e42117cb459255c590d9", func := "loop.example/g01359/laws.FnExactSizeOf", spec := "fnExactSizeOf", unfollowed := true, recurses := true, plainKeys := false, apart := false, narrowed := true }
def FnExactSizeOfUptoSaid : Prop := fnExactSizeOfUptoRow.holds Try.pinned (OpenSpec.upto fnExactSizeOfSpec)

/-- 'laws.FnExactWordFor', WHERE WHAT IT READS IS OF BULK AT MOST 1048576: true; the input reads as it did. -/
def fnExactWordForUptoRow : OpenClaim := { program := "ytpkapgidpgmdoaa", sum := "ccb12cb72686a91facce62f51b00c706cf0993157763e42117cb459255c590d9", func := "loop.example/g01359/laws.FnExactWordFor", spec := "fnExactWordFor", unfollowed := true, recurses := true, plainKeys := false, apart := false, narrowed := true }
def FnExactWordForUptoSaid : Prop := fnExactWordForUptoRow.holds Try.pinned (OpenSpec.upto fnExactWordForSpec)

/-- 'laws.FnExactMapOfWord', WHERE WHAT IT READS IS OF BULK AT MOST 1048576: true; the input reads as it did. -/
def fnExactMapOfWordUptoRow : OpenClaim := { program := "ytpkapgidpgmdoaa", sum := "ccb12cb72686a91facce62f51b00c706cf0993157763e42117cb459255c590d9", func := "loop.example/g01359/laws.FnExactMapOfWord", spec := "fnExactMapOfWord", plainKeys := false, apart := false, narrowed := true }
def FnExactMapOfWordUptoSaid : Prop := fnExactMapOfWordUptoRow.holds Try.pinned (OpenSpec.upto fnExactMapOfWordSpec)

/-- 'laws.FnExactIsElement', WHERE WHAT IT READS IS OF BULK AT MOST 1048576: true; the input reads as it did. -/
def fnExactIsElementUptoRow : OpenClaim := { program := "ytpkapgidpgmdoaa", sum := "ccb12cb72686a91facce62f51b00c706cf0993157763e42117cb459255c590d9", func := "loop.example/g01359/laws.FnExactIsElement", spec := "fnExactIsElement", unfollowed := true, recurses := true, plainKeys := false, apart := false, narrowed := true }
def FnExactIsElementUptoSaid : Prop := fnExactIsElementUptoRow.holds Try.pinned (OpenSpec.upto fnExactIsElementSpec)

/-- 'laws.FnExactUnitsOf', WHERE WHAT IT READS IS OF BULK AT MOST 1048576: true; the input reads as it did. -/
def fnExactUnitsOfUptoRow : OpenClaim := { program := "ytpkapgidpgmdoaa", sum := "ccb12cb72686a91facce62f51b00c706cf0993157763e42117cb459255c590d9", func := "loop.example/g01359/laws.FnExactUnitsOf", spec := "fnExactUnitsOf", unfollowed := true, recurses := true, plainKeys := false, apart := false, narrowed := true }
def FnExactUnitsOfUptoSaid : Prop := fnExactUnitsOfUptoRow.holds Try.pinned (OpenSpec.upto fnExactUnitsOfSpec)

/-- 'laws.FnExactZeroOf', WHERE WHAT IT READS IS OF BULK AT MOST 1048576: true; the input reads as it did. -/
def fnExactZeroOfUptoRow : OpenClaim := { program := "ytpkapgidpgmdoaa", sum := "ccb12cb72686a91facce62f51b00c706cf0993157763e42117cb459255c590d9", func := "loop.example/g01359/laws.FnExactZeroOf", spec := "fnExactZeroOf", unfollowed := true, recurses := true, plainKeys := false, apart := false, narrowed := true }
def FnExactZeroOfUptoSaid : Prop := fnExactZeroOfUptoRow.holds Try.pinned (OpenSpec.upto fnExactZeroOfSpec)

/-- 'laws.FnExactSideZeros', WHERE WHAT IT READS IS OF BULK AT MOST 1048576: true; the input reads as it did. -/
def fnExactSideZerosUptoRow : OpenClaim := { program := "ytpkapgidpgmdoaa", sum := "ccb12cb72686a91facce62f51b00c706cf0993157763e42117cb459255c590d9", func := "loop.example/g01359/laws.FnExactSideZeros", spec := "fnExactSideZeros", unfollowed := true, recurses := true, plainKeys := false, apart := false, narrowed := true }
def FnExactSideZerosUptoSaid : Prop := fnExactSideZerosUptoRow.holds Try.pinned (OpenSpec.upto fnExactSideZerosSpec)

/-- 'laws.FnExactIdempotentsOf', WHERE WHAT IT READS IS OF BULK AT MOST 1048576: true; the input reads as it did. -/
def fnExactIdempotentsOfUptoRow : OpenClaim := { program := "ytpkapgidpgmdoaa", sum := "ccb12cb72686a91facce62f51b00c706cf0993157763e42117cb459255c590d9", func := "loop.example/g01359/laws.FnExactIdempotentsOf", spec := "fnExactIdempotentsOf", unfollowed := true, recurses := true, plainKeys := false, apart := false, narrowed := true }
def FnExactIdempotentsOfUptoSaid : Prop := fnExactIdempotentsOfUptoRow.holds Try.pinned (OpenSpec.upto fnExactIdempotentsOfSpec)

/-- 'laws.FnExactCentreOf', WHERE WHAT IT READS IS OF BULK AT MOST 1048576: true; the input reads as it did. -/
def fnExactCentreOfUptoRow : OpenClaim := { program := "ytpkapgidpgmdoaa", sum := "ccb12cb72686a91facce62f51b00c706cf0993157763e42117cb459255c590d9", func := "loop.example/g01359/laws.FnExactCentreOf", spec := "fnExactCentreOf", unfollowed := true, recurses := true, plainKeys := false, apart := false, narrowed := true }
def FnExactCentreOfUptoSaid : Prop := fnExactCentreOfUptoRow.holds Try.pinned (OpenSpec.upto fnExactCentreOfSpec)

/-- 'laws.FnExactIsCommutative', WHERE WHAT IT READS IS OF BULK AT MOST 1048576: true; the input reads as it did. -/
def fnExactIsCommutativeUptoRow : OpenClaim := { program := "ytpkapgidpgmdoaa", sum := "ccb12cb72686a91facce62f51b00c706cf0993157763e42117cb459255c590d9", func := "loop.example/g01359/laws.FnExactIsCommutative", spec := "fnExactIsCommutative", unfollowed := true, recurses := true, plainKeys := false, apart := false, narrowed := true }
def FnExactIsCommutativeUptoSaid : Prop := fnExactIsCommutativeUptoRow.holds Try.pinned (OpenSpec.upto fnExactIsCommutativeSpec)

/-- 'laws.FnExactSizesByRank', WHERE WHAT IT READS IS OF BULK AT MOST 1048576: true; the input reads as it did. -/
def fnExactSizesByRankUptoRow : OpenClaim := { program := "ytpkapgidpgmdoaa", sum := "ccb12cb72686a91facce62f51b00c706cf0993157763e42117cb459255c590d9", func := "loop.example/g01359/laws.FnExactSizesByRank", spec := "fnExactSizesByRank", unfollowed := true, recurses := true, plainKeys := false, apart := false, narrowed := true }
def FnExactSizesByRankUptoSaid : Prop := fnExactSizesByRankUptoRow.holds Try.pinned (OpenSpec.upto fnExactSizesByRankSpec)

/-- 'laws.FnExactSizesByLength', WHERE WHAT IT READS IS OF BULK AT MOST 1048576: true; the input reads as it did. -/
def fnExactSizesByLengthUptoRow : OpenClaim := { program := "ytpkapgidpgmdoaa", sum := "ccb12cb72686a91facce62f51b00c706cf0993157763e42117cb459255c590d9", func := "loop.example/g01359/laws.FnExactSizesByLength", spec := "fnExactSizesByLength", unfollowed := true, recurses := true, plainKeys := false, apart := false, narrowed := true }
def FnExactSizesByLengthUptoSaid : Prop := fnExactSizesByLengthUptoRow.holds Try.pinned (OpenSpec.upto fnExactSizesByLengthSpec)

/-- 'laws.FnExactLeastGenerating', WHERE WHAT IT READS IS OF BULK AT MOST 1048576: true; the input reads as it did. -/
def fnExactLeastGeneratingUptoRow : OpenClaim := { program := "ytpkapgidpgmdoaa", sum := "ccb12cb72686a91facce62f51b00c706cf0993157763e42117cb459255c590d9", func := "loop.example/g01359/laws.FnExactLeastGenerating", spec := "fnExactLeastGenerating", unfollowed := true, recurses := true, plainKeys := false, apart := false, narrowed := true }
def FnExactLeastGeneratingUptoSaid : Prop := fnExactLeastGeneratingUptoRow.holds Try.pinned (OpenSpec.upto fnExactLeastGeneratingSpec)

/-- 'laws.FnExactNewDesk', WHERE WHAT IT READS IS OF BULK AT MOST 1048576: true; the input reads as it did. -/
def fnExactNewDeskUptoRow : OpenClaim := { program := "ytpkapgidpgmdoaa", sum := "ccb12cb72686a91facce62f51b00c706cf0993157763e42117cb459255c590d9", func := "loop.example/g01359/laws.FnExactNewDesk", spec := "fnExactNewDesk", plainKeys := false, apart := false, narrowed := true }
def FnExactNewDeskUptoSaid : Prop := fnExactNewDeskUptoRow.holds Try.pinned (OpenSpec.upto fnExactNewDeskSpec)

/-- 'laws.FnExactIsDesk', WHERE WHAT IT READS IS OF BULK AT MOST 1048576: true; the input reads as it did. -/
def fnExactIsDeskUptoRow : OpenClaim := { program := "ytpkapgidpgmdoaa", sum := "ccb12cb72686a91facce62f51b00c706cf0993157763e42117cb459255c590d9", func := "loop.example/g01359/laws.FnExactIsDesk", spec := "fnExactIsDesk", plainKeys := false, apart := false, narrowed := true }
def FnExactIsDeskUptoSaid : Prop := fnExactIsDeskUptoRow.holds Try.pinned (OpenSpec.upto fnExactIsDeskSpec)

end Rows
end Go.Proofs.Ytpkapgidpgmdoaa
