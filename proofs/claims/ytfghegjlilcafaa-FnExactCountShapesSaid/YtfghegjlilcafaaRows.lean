/-
  No cell of these rows narrows 'for every input' (looked for: loops, veiled, ifaces, maps, wideKeys, modest, calm, conditions, laid).
  DERIVED. THE GIVEN ROWS OF THIS SEAT. 15 by the template 'for every input the law returns true; each argument reads behind the call as it read before'; 0 by the template 'total and deterministic' (their statements: YtfghegjlilcafaaTotals.lean).
  GIVEN WITH THE SEED: the statements are not yours to turn. If you find one false, say at which input.
  Laid BY PROGRAM, IN A SANDBOX (cutbox-rows.mjs): the forced cells as the released guide's own fill.sh prints them over the translation d66ff8648de35fb3… (all of the seat's roots in one cut). By AI agents, Wed Nov 11 2026. No macro, syntax, notation, axiom, sorry.
-/
import Derived.Test.YtfghegjlilcafaaChecked
import GoSem.Claim
import GoSem.ClaimJoined
import GoSem.ClaimMapViews
import Derived.JoinedTies
import Derived.KernelRfl
namespace Go.Proofs.Ytfghegjlilcafaa
/- THE CELL 'sum', in the pinned program and in every row, IS THE sha256 OF THE DUMP (.gsa) THAT YtfghegjlilcafaaProg.lean LOADS. Nothing in Lean hashes anything: it is a label: what it is worth is what the hold of that sum in a sandbox is worth. -/
noncomputable def Try.pinned : Pinned := { name := "ytfghegjlilcafaa", sum := "d66ff8648de35fb3e90a53c6a9b1a63cfef51d164fa5a353fc23dbd74c5a07fc", checked := Try.checked }
namespace Rows
def none {H : Type} : Left H := { results := [], args := [] }

/-- 'laws.FnExactCyclicPoints': WHATEVER THE INPUT: true; the input reads as it did. -/
def fnExactCyclicPointsSpec : ChangeSpec := { name := "fnExactCyclicPoints", fn := fun _ => fun
  | [d] => { results := [.lit (.bool true)], args := [d] }
  | _ => none }
def fnExactCyclicPointsRow : OpenClaim := { program := "ytfghegjlilcafaa", sum := "d66ff8648de35fb3e90a53c6a9b1a63cfef51d164fa5a353fc23dbd74c5a07fc", func := "loop.example/g01359/laws.FnExactCyclicPoints", spec := "fnExactCyclicPoints", unfollowed := true, recurses := true, plainKeys := false, apart := false }
def FnExactCyclicPointsSaid : Prop := fnExactCyclicPointsRow.holds Try.pinned (OpenSpec.ofChange fnExactCyclicPointsSpec)

/-- ITS FALSE NEIGHBOUR: 'it returns false'. Refute it at one input. -/
def fnExactCyclicPointsWrong : ChangeSpec := { name := "fnExactCyclicPoints", fn := fun _ => fun
  | [d] => { results := [.lit (.bool false)], args := [d] }
  | _ => none }
def FnExactCyclicPointsWrongFalsely : Prop := fnExactCyclicPointsRow.holds Try.pinned (OpenSpec.ofChange fnExactCyclicPointsWrong)

/-- 'laws.FnExactRenumberMap': WHATEVER THE INPUT: true; the input reads as it did. -/
def fnExactRenumberMapSpec : ChangeSpec := { name := "fnExactRenumberMap", fn := fun _ => fun
  | [d1, d2] => { results := [.lit (.bool true)], args := [d1, d2] }
  | _ => none }
def fnExactRenumberMapRow : OpenClaim := { program := "ytfghegjlilcafaa", sum := "d66ff8648de35fb3e90a53c6a9b1a63cfef51d164fa5a353fc23dbd74c5a07fc", func := "loop.example/g01359/laws.FnExactRenumberMap", spec := "fnExactRenumberMap", plainKeys := false, apart := false }
def FnExactRenumberMapSaid : Prop := fnExactRenumberMapRow.holds Try.pinned (OpenSpec.ofChange fnExactRenumberMapSpec)

/-- ITS FALSE NEIGHBOUR: 'it returns false'. Refute it at one input. -/
def fnExactRenumberMapWrong : ChangeSpec := { name := "fnExactRenumberMap", fn := fun _ => fun
  | [d1, d2] => { results := [.lit (.bool false)], args := [d1, d2] }
  | _ => none }
def FnExactRenumberMapWrongFalsely : Prop := fnExactRenumberMapRow.holds Try.pinned (OpenSpec.ofChange fnExactRenumberMapWrong)

/-- 'laws.FnExactCountByRank': WHATEVER THE INPUT: true; the input reads as it did. -/
def fnExactCountByRankSpec : ChangeSpec := { name := "fnExactCountByRank", fn := fun _ => fun
  | [d] => { results := [.lit (.bool true)], args := [d] }
  | _ => none }
def fnExactCountByRankRow : OpenClaim := { program := "ytfghegjlilcafaa", sum := "d66ff8648de35fb3e90a53c6a9b1a63cfef51d164fa5a353fc23dbd74c5a07fc", func := "loop.example/g01359/laws.FnExactCountByRank", spec := "fnExactCountByRank", unfollowed := true, recurses := true, plainKeys := false, apart := false }
def FnExactCountByRankSaid : Prop := fnExactCountByRankRow.holds Try.pinned (OpenSpec.ofChange fnExactCountByRankSpec)

/-- ITS FALSE NEIGHBOUR: 'it returns false'. Refute it at one input. -/
def fnExactCountByRankWrong : ChangeSpec := { name := "fnExactCountByRank", fn := fun _ => fun
  | [d] => { results := [.lit (.bool false)], args := [d] }
  | _ => none }
def FnExactCountByRankWrongFalsely : Prop := fnExactCountByRankRow.holds Try.pinned (OpenSpec.ofChange fnExactCountByRankWrong)

/-- 'laws.FnExactCountByFixed': WHATEVER THE INPUT: true; the input reads as it did. -/
def fnExactCountByFixedSpec : ChangeSpec := { name := "fnExactCountByFixed", fn := fun _ => fun
  | [d] => { results := [.lit (.bool true)], args := [d] }
  | _ => none }
def fnExactCountByFixedRow : OpenClaim := { program := "ytfghegjlilcafaa", sum := "d66ff8648de35fb3e90a53c6a9b1a63cfef51d164fa5a353fc23dbd74c5a07fc", func := "loop.example/g01359/laws.FnExactCountByFixed", spec := "fnExactCountByFixed", unfollowed := true, recurses := true, plainKeys := false, apart := false }
def FnExactCountByFixedSaid : Prop := fnExactCountByFixedRow.holds Try.pinned (OpenSpec.ofChange fnExactCountByFixedSpec)

/-- ITS FALSE NEIGHBOUR: 'it returns false'. Refute it at one input. -/
def fnExactCountByFixedWrong : ChangeSpec := { name := "fnExactCountByFixed", fn := fun _ => fun
  | [d] => { results := [.lit (.bool false)], args := [d] }
  | _ => none }
def FnExactCountByFixedWrongFalsely : Prop := fnExactCountByFixedRow.holds Try.pinned (OpenSpec.ofChange fnExactCountByFixedWrong)

/-- 'laws.FnExactCountIdempotents': WHATEVER THE INPUT: true; the input reads as it did. -/
def fnExactCountIdempotentsSpec : ChangeSpec := { name := "fnExactCountIdempotents", fn := fun _ => fun
  | [d] => { results := [.lit (.bool true)], args := [d] }
  | _ => none }
def fnExactCountIdempotentsRow : OpenClaim := { program := "ytfghegjlilcafaa", sum := "d66ff8648de35fb3e90a53c6a9b1a63cfef51d164fa5a353fc23dbd74c5a07fc", func := "loop.example/g01359/laws.FnExactCountIdempotents", spec := "fnExactCountIdempotents", unfollowed := true, recurses := true, plainKeys := false, apart := false }
def FnExactCountIdempotentsSaid : Prop := fnExactCountIdempotentsRow.holds Try.pinned (OpenSpec.ofChange fnExactCountIdempotentsSpec)

/-- ITS FALSE NEIGHBOUR: 'it returns false'. Refute it at one input. -/
def fnExactCountIdempotentsWrong : ChangeSpec := { name := "fnExactCountIdempotents", fn := fun _ => fun
  | [d] => { results := [.lit (.bool false)], args := [d] }
  | _ => none }
def FnExactCountIdempotentsWrongFalsely : Prop := fnExactCountIdempotentsRow.holds Try.pinned (OpenSpec.ofChange fnExactCountIdempotentsWrong)

/-- 'laws.FnExactCountShapes': WHATEVER THE INPUT: true; the input reads as it did. -/
def fnExactCountShapesSpec : ChangeSpec := { name := "fnExactCountShapes", fn := fun _ => fun
  | [d] => { results := [.lit (.bool true)], args := [d] }
  | _ => none }
def fnExactCountShapesRow : OpenClaim := { program := "ytfghegjlilcafaa", sum := "d66ff8648de35fb3e90a53c6a9b1a63cfef51d164fa5a353fc23dbd74c5a07fc", func := "loop.example/g01359/laws.FnExactCountShapes", spec := "fnExactCountShapes", unfollowed := true, recurses := true, plainKeys := false, apart := false }
def FnExactCountShapesSaid : Prop := fnExactCountShapesRow.holds Try.pinned (OpenSpec.ofChange fnExactCountShapesSpec)

/-- ITS FALSE NEIGHBOUR: 'it returns false'. Refute it at one input. -/
def fnExactCountShapesWrong : ChangeSpec := { name := "fnExactCountShapes", fn := fun _ => fun
  | [d] => { results := [.lit (.bool false)], args := [d] }
  | _ => none }
def FnExactCountShapesWrongFalsely : Prop := fnExactCountShapesRow.holds Try.pinned (OpenSpec.ofChange fnExactCountShapesWrong)

/-- 'laws.FnExactLeastForm': WHATEVER THE INPUT: true; the input reads as it did. -/
def fnExactLeastFormSpec : ChangeSpec := { name := "fnExactLeastForm", fn := fun _ => fun
  | [d] => { results := [.lit (.bool true)], args := [d] }
  | _ => none }
def fnExactLeastFormRow : OpenClaim := { program := "ytfghegjlilcafaa", sum := "d66ff8648de35fb3e90a53c6a9b1a63cfef51d164fa5a353fc23dbd74c5a07fc", func := "loop.example/g01359/laws.FnExactLeastForm", spec := "fnExactLeastForm", unfollowed := true, recurses := true, plainKeys := false, apart := false }
def FnExactLeastFormSaid : Prop := fnExactLeastFormRow.holds Try.pinned (OpenSpec.ofChange fnExactLeastFormSpec)

/-- ITS FALSE NEIGHBOUR: 'it returns false'. Refute it at one input. -/
def fnExactLeastFormWrong : ChangeSpec := { name := "fnExactLeastForm", fn := fun _ => fun
  | [d] => { results := [.lit (.bool false)], args := [d] }
  | _ => none }
def FnExactLeastFormWrongFalsely : Prop := fnExactLeastFormRow.holds Try.pinned (OpenSpec.ofChange fnExactLeastFormWrong)

/-- 'laws.FnExactAreSameShape': WHATEVER THE INPUT: true; the input reads as it did. -/
def fnExactAreSameShapeSpec : ChangeSpec := { name := "fnExactAreSameShape", fn := fun _ => fun
  | [d1, d2] => { results := [.lit (.bool true)], args := [d1, d2] }
  | _ => none }
def fnExactAreSameShapeRow : OpenClaim := { program := "ytfghegjlilcafaa", sum := "d66ff8648de35fb3e90a53c6a9b1a63cfef51d164fa5a353fc23dbd74c5a07fc", func := "loop.example/g01359/laws.FnExactAreSameShape", spec := "fnExactAreSameShape", unfollowed := true, recurses := true, plainKeys := false, apart := false }
def FnExactAreSameShapeSaid : Prop := fnExactAreSameShapeRow.holds Try.pinned (OpenSpec.ofChange fnExactAreSameShapeSpec)

/-- ITS FALSE NEIGHBOUR: 'it returns false'. Refute it at one input. -/
def fnExactAreSameShapeWrong : ChangeSpec := { name := "fnExactAreSameShape", fn := fun _ => fun
  | [d1, d2] => { results := [.lit (.bool false)], args := [d1, d2] }
  | _ => none }
def FnExactAreSameShapeWrongFalsely : Prop := fnExactAreSameShapeRow.holds Try.pinned (OpenSpec.ofChange fnExactAreSameShapeWrong)

/-- 'laws.FnExactCountSameShape': WHATEVER THE INPUT: true; the input reads as it did. -/
def fnExactCountSameShapeSpec : ChangeSpec := { name := "fnExactCountSameShape", fn := fun _ => fun
  | [d] => { results := [.lit (.bool true)], args := [d] }
  | _ => none }
def fnExactCountSameShapeRow : OpenClaim := { program := "ytfghegjlilcafaa", sum := "d66ff8648de35fb3e90a53c6a9b1a63cfef51d164fa5a353fc23dbd74c5a07fc", func := "loop.example/g01359/laws.FnExactCountSameShape", spec := "fnExactCountSameShape", unfollowed := true, recurses := true, plainKeys := false, apart := false }
def FnExactCountSameShapeSaid : Prop := fnExactCountSameShapeRow.holds Try.pinned (OpenSpec.ofChange fnExactCountSameShapeSpec)

/-- ITS FALSE NEIGHBOUR: 'it returns false'. Refute it at one input. -/
def fnExactCountSameShapeWrong : ChangeSpec := { name := "fnExactCountSameShape", fn := fun _ => fun
  | [d] => { results := [.lit (.bool false)], args := [d] }
  | _ => none }
def FnExactCountSameShapeWrongFalsely : Prop := fnExactCountSameShapeRow.holds Try.pinned (OpenSpec.ofChange fnExactCountSameShapeWrong)

/-- 'laws.FnExactCycleType': WHATEVER THE INPUT: true; the input reads as it did. -/
def fnExactCycleTypeSpec : ChangeSpec := { name := "fnExactCycleType", fn := fun _ => fun
  | [d] => { results := [.lit (.bool true)], args := [d] }
  | _ => none }
def fnExactCycleTypeRow : OpenClaim := { program := "ytfghegjlilcafaa", sum := "d66ff8648de35fb3e90a53c6a9b1a63cfef51d164fa5a353fc23dbd74c5a07fc", func := "loop.example/g01359/laws.FnExactCycleType", spec := "fnExactCycleType", unfollowed := true, recurses := true, plainKeys := false, apart := false }
def FnExactCycleTypeSaid : Prop := fnExactCycleTypeRow.holds Try.pinned (OpenSpec.ofChange fnExactCycleTypeSpec)

/-- ITS FALSE NEIGHBOUR: 'it returns false'. Refute it at one input. -/
def fnExactCycleTypeWrong : ChangeSpec := { name := "fnExactCycleType", fn := fun _ => fun
  | [d] => { results := [.lit (.bool false)], args := [d] }
  | _ => none }
def FnExactCycleTypeWrongFalsely : Prop := fnExactCycleTypeRow.holds Try.pinned (OpenSpec.ofChange fnExactCycleTypeWrong)

/-- 'laws.FnExactHeightsOf': WHATEVER THE INPUT: true; the input reads as it did. -/
def fnExactHeightsOfSpec : ChangeSpec := { name := "fnExactHeightsOf", fn := fun _ => fun
  | [d] => { results := [.lit (.bool true)], args := [d] }
  | _ => none }
def fnExactHeightsOfRow : OpenClaim := { program := "ytfghegjlilcafaa", sum := "d66ff8648de35fb3e90a53c6a9b1a63cfef51d164fa5a353fc23dbd74c5a07fc", func := "loop.example/g01359/laws.FnExactHeightsOf", spec := "fnExactHeightsOf", unfollowed := true, recurses := true, plainKeys := false, apart := false }
def FnExactHeightsOfSaid : Prop := fnExactHeightsOfRow.holds Try.pinned (OpenSpec.ofChange fnExactHeightsOfSpec)

/-- ITS FALSE NEIGHBOUR: 'it returns false'. Refute it at one input. -/
def fnExactHeightsOfWrong : ChangeSpec := { name := "fnExactHeightsOf", fn := fun _ => fun
  | [d] => { results := [.lit (.bool false)], args := [d] }
  | _ => none }
def FnExactHeightsOfWrongFalsely : Prop := fnExactHeightsOfRow.holds Try.pinned (OpenSpec.ofChange fnExactHeightsOfWrong)

/-- 'laws.FnExactFirstRoot': WHATEVER THE INPUT: true; the input reads as it did. -/
def fnExactFirstRootSpec : ChangeSpec := { name := "fnExactFirstRoot", fn := fun _ => fun
  | [d1, d2] => { results := [.lit (.bool true)], args := [d1, d2] }
  | _ => none }
def fnExactFirstRootRow : OpenClaim := { program := "ytfghegjlilcafaa", sum := "d66ff8648de35fb3e90a53c6a9b1a63cfef51d164fa5a353fc23dbd74c5a07fc", func := "loop.example/g01359/laws.FnExactFirstRoot", spec := "fnExactFirstRoot", unfollowed := true, recurses := true, plainKeys := false, apart := false }
def FnExactFirstRootSaid : Prop := fnExactFirstRootRow.holds Try.pinned (OpenSpec.ofChange fnExactFirstRootSpec)

/-- ITS FALSE NEIGHBOUR: 'it returns false'. Refute it at one input. -/
def fnExactFirstRootWrong : ChangeSpec := { name := "fnExactFirstRoot", fn := fun _ => fun
  | [d1, d2] => { results := [.lit (.bool false)], args := [d1, d2] }
  | _ => none }
def FnExactFirstRootWrongFalsely : Prop := fnExactFirstRootRow.holds Try.pinned (OpenSpec.ofChange fnExactFirstRootWrong)

/-- 'laws.FnExactCountRoots': WHATEVER THE INPUT: true; the input reads as it did. -/
def fnExactCountRootsSpec : ChangeSpec := { name := "fnExactCountRoots", fn := fun _ => fun
  | [d1, d2] => { results := [.lit (.bool true)], args := [d1, d2] }
  | _ => none }
def fnExactCountRootsRow : OpenClaim := { program := "ytfghegjlilcafaa", sum := "d66ff8648de35fb3e90a53c6a9b1a63cfef51d164fa5a353fc23dbd74c5a07fc", func := "loop.example/g01359/laws.FnExactCountRoots", spec := "fnExactCountRoots", unfollowed := true, recurses := true, plainKeys := false, apart := false }
def FnExactCountRootsSaid : Prop := fnExactCountRootsRow.holds Try.pinned (OpenSpec.ofChange fnExactCountRootsSpec)

/-- ITS FALSE NEIGHBOUR: 'it returns false'. Refute it at one input. -/
def fnExactCountRootsWrong : ChangeSpec := { name := "fnExactCountRoots", fn := fun _ => fun
  | [d1, d2] => { results := [.lit (.bool false)], args := [d1, d2] }
  | _ => none }
def FnExactCountRootsWrongFalsely : Prop := fnExactCountRootsRow.holds Try.pinned (OpenSpec.ofChange fnExactCountRootsWrong)

/-- 'laws.FnExactCountCommuting': WHATEVER THE INPUT: true; the input reads as it did. -/
def fnExactCountCommutingSpec : ChangeSpec := { name := "fnExactCountCommuting", fn := fun _ => fun
  | [d] => { results := [.lit (.bool true)], args := [d] }
  | _ => none }
def fnExactCountCommutingRow : OpenClaim := { program := "ytfghegjlilcafaa", sum := "d66ff8648de35fb3e90a53c6a9b1a63cfef51d164fa5a353fc23dbd74c5a07fc", func := "loop.example/g01359/laws.FnExactCountCommuting", spec := "fnExactCountCommuting", unfollowed := true, recurses := true, plainKeys := false, apart := false }
def FnExactCountCommutingSaid : Prop := fnExactCountCommutingRow.holds Try.pinned (OpenSpec.ofChange fnExactCountCommutingSpec)

/-- ITS FALSE NEIGHBOUR: 'it returns false'. Refute it at one input. -/
def fnExactCountCommutingWrong : ChangeSpec := { name := "fnExactCountCommuting", fn := fun _ => fun
  | [d] => { results := [.lit (.bool false)], args := [d] }
  | _ => none }
def FnExactCountCommutingWrongFalsely : Prop := fnExactCountCommutingRow.holds Try.pinned (OpenSpec.ofChange fnExactCountCommutingWrong)

/-- 'laws.FnExactBasinsOf': WHATEVER THE INPUT: true; the input reads as it did. -/
def fnExactBasinsOfSpec : ChangeSpec := { name := "fnExactBasinsOf", fn := fun _ => fun
  | [d] => { results := [.lit (.bool true)], args := [d] }
  | _ => none }
def fnExactBasinsOfRow : OpenClaim := { program := "ytfghegjlilcafaa", sum := "d66ff8648de35fb3e90a53c6a9b1a63cfef51d164fa5a353fc23dbd74c5a07fc", func := "loop.example/g01359/laws.FnExactBasinsOf", spec := "fnExactBasinsOf", unfollowed := true, recurses := true, plainKeys := false, apart := false }
def FnExactBasinsOfSaid : Prop := fnExactBasinsOfRow.holds Try.pinned (OpenSpec.ofChange fnExactBasinsOfSpec)

/-- ITS FALSE NEIGHBOUR: 'it returns false'. Refute it at one input. -/
def fnExactBasinsOfWrong : ChangeSpec := { name := "fnExactBasinsOf", fn := fun _ => fun
  | [d] => { results := [.lit (.bool false)], args := [d] }
  | _ => none }
def FnExactBasinsOfWrongFalsely : Prop := fnExactBasinsOfRow.holds Try.pinned (OpenSpec.ofChange fnExactBasinsOfWrong)

/- THE SECOND FORM. 'bulk': how many values and letters a reading holds, each counted each time it is reached (what is shared counts as often as it is met; a slice's spare places count too). A statement '..UptoSaid' is the law's where the arguments, and the package variables that the reading takes, are together of bulk at most 1048576: NARROWER than '..Said'. Prove '..Said' where nothing that the law and all that it calls make is longer than what came in: it says more and counts as full. Else prove '..UptoSaid'. A law counts once. -/
mutual
def uptoBulk {H : Type} : DataW H → Nat
  | .lit (.string bytes) => bytes.length + 1
  | .lit _ => 1
  | .nil => 1
  | .ptr d => uptoBulk d + 1
  | .slice elems spare => uptoBulkAll elems + uptoBulkAll spare + 1
  | .agg parts => uptoBulkAll parts + 1
  | .iface _ d => uptoBulk d + 1
  | .map entries => uptoBulkEntries entries + 1
  | .held _ => 1
def uptoBulkAll {H : Type} : List (DataW H) → Nat
  | [] => 0
  | d :: r => uptoBulk d + uptoBulkAll r
def uptoBulkEntries {H : Type} : List (Lit × DataW H) → Nat
  | [] => 0
  | x :: r => uptoBulkEntry x + uptoBulkEntries r
def uptoBulkEntry {H : Type} : Lit × DataW H → Nat
  | (.string bytes, d) => bytes.length + uptoBulk d + 1
  | (_, d) => uptoBulk d + 1
 end
def uptoSmall : (H : Type) → List (DataW H) → Bool := fun _ ds => decide (uptoBulkAll ds ≤ 1048576)
def OpenSpec.upto (s : _root_.Go.ChangeSpec) : _root_.Go.OpenSpec := { _root_.Go.OpenSpec.ofChange s with cond := some uptoSmall }

/-- 'laws.FnExactCyclicPoints', WHERE WHAT IT READS IS OF BULK AT MOST 1048576: true; the input reads as it did. -/
def fnExactCyclicPointsUptoRow : OpenClaim := { program := "ytfghegjlilcafaa", sum := "d66ff8648de35fb3e90a53c6a9b1a63cfef51d164fa5a353fc23dbd74c5a07fc", func := "loop.example/g01359/laws.FnExactCyclicPoints", spec := "fnExactCyclicPoints", unfollowed := true, recurses := true, plainKeys := false, apart := false, narrowed := true }
def FnExactCyclicPointsUptoSaid : Prop := fnExactCyclicPointsUptoRow.holds Try.pinned (OpenSpec.upto fnExactCyclicPointsSpec)

/-- 'laws.FnExactRenumberMap', WHERE WHAT IT READS IS OF BULK AT MOST 1048576: true; the input reads as it did. -/
def fnExactRenumberMapUptoRow : OpenClaim := { program := "ytfghegjlilcafaa", sum := "d66ff8648de35fb3e90a53c6a9b1a63cfef51d164fa5a353fc23dbd74c5a07fc", func := "loop.example/g01359/laws.FnExactRenumberMap", spec := "fnExactRenumberMap", plainKeys := false, apart := false, narrowed := true }
def FnExactRenumberMapUptoSaid : Prop := fnExactRenumberMapUptoRow.holds Try.pinned (OpenSpec.upto fnExactRenumberMapSpec)

/-- 'laws.FnExactCountByRank', WHERE WHAT IT READS IS OF BULK AT MOST 1048576: true; the input reads as it did. -/
def fnExactCountByRankUptoRow : OpenClaim := { program := "ytfghegjlilcafaa", sum := "d66ff8648de35fb3e90a53c6a9b1a63cfef51d164fa5a353fc23dbd74c5a07fc", func := "loop.example/g01359/laws.FnExactCountByRank", spec := "fnExactCountByRank", unfollowed := true, recurses := true, plainKeys := false, apart := false, narrowed := true }
def FnExactCountByRankUptoSaid : Prop := fnExactCountByRankUptoRow.holds Try.pinned (OpenSpec.upto fnExactCountByRankSpec)

/-- 'laws.FnExactCountByFixed', WHERE WHAT IT READS IS OF BULK AT MOST 1048576: true; the input reads as it did. -/
def fnExactCountByFixedUptoRow : OpenClaim := { program := "ytfghegjlilcafaa", sum := "d66ff8648de35fb3e90a53c6a9b1a63cfef51d164fa5a353fc23dbd74c5a07fc", func := "loop.example/g01359/laws.FnExactCountByFixed", spec := "fnExactCountByFixed", unfollowed := true, recurses := true, plainKeys := false, apart := false, narrowed := true }
def FnExactCountByFixedUptoSaid : Prop := fnExactCountByFixedUptoRow.holds Try.pinned (OpenSpec.upto fnExactCountByFixedSpec)

/-- 'laws.FnExactCountIdempotents', WHERE WHAT IT READS IS OF BULK AT MOST 1048576: true; the input reads as it did. -/
def fnExactCountIdempotentsUptoRow : OpenClaim := { program := "ytfghegjlilcafaa", sum := "d66ff8648de35fb3e90a53c6a9b1a63cfef51d164fa5a353fc23dbd74c5a07fc", func := "loop.example/g01359/laws.FnExactCountIdempotents", spec := "fnExactCountIdempotents", unfollowed := true, recurses := true, plainKeys := false, apart := false, narrowed := true }
def FnExactCountIdempotentsUptoSaid : Prop := fnExactCountIdempotentsUptoRow.holds Try.pinned (OpenSpec.upto fnExactCountIdempotentsSpec)

/-- 'laws.FnExactCountShapes', WHERE WHAT IT READS IS OF BULK AT MOST 1048576: true; the input reads as it did. -/
def fnExactCountShapesUptoRow : OpenClaim := { program := "ytfghegjlilcafaa", sum := "d66ff8648de35fb3e90a53c6a9b1a63cfef51d164fa5a353fc23dbd74c5a07fc", func := "loop.example/g01359/laws.FnExactCountShapes", spec := "fnExactCountShapes", unfollowed := true, recurses := true, plainKeys := false, apart := false, narrowed := true }
def FnExactCountShapesUptoSaid : Prop := fnExactCountShapesUptoRow.holds Try.pinned (OpenSpec.upto fnExactCountShapesSpec)

/-- 'laws.FnExactLeastForm', WHERE WHAT IT READS IS OF BULK AT MOST 1048576: true; the input reads as it did. -/
def fnExactLeastFormUptoRow : OpenClaim := { program := "ytfghegjlilcafaa", sum := "d66ff8648de35fb3e90a53c6a9b1a63cfef51d164fa5a353fc23dbd74c5a07fc", func := "loop.example/g01359/laws.FnExactLeastForm", spec := "fnExactLeastForm", unfollowed := true, recurses := true, plainKeys := false, apart := false, narrowed := true }
def FnExactLeastFormUptoSaid : Prop := fnExactLeastFormUptoRow.holds Try.pinned (OpenSpec.upto fnExactLeastFormSpec)

/-- 'laws.FnExactAreSameShape', WHERE WHAT IT READS IS OF BULK AT MOST 1048576: true; the input reads as it did. -/
def fnExactAreSameShapeUptoRow : OpenClaim := { program := "ytfghegjlilcafaa", sum := "d66ff8648de35fb3e90a53c6a9b1a63cfef51d164fa5a353fc23dbd74c5a07fc", func := "loop.example/g01359/laws.FnExactAreSameShape", spec := "fnExactAreSameShape", unfollowed := true, recurses := true, plainKeys := false, apart := false, narrowed := true }
def FnExactAreSameShapeUptoSaid : Prop := fnExactAreSameShapeUptoRow.holds Try.pinned (OpenSpec.upto fnExactAreSameShapeSpec)

/-- 'laws.FnExactCountSameShape', WHERE WHAT IT READS IS OF BULK AT MOST 1048576: true; the input reads as it did. -/
def fnExactCountSameShapeUptoRow : OpenClaim := { program := "ytfghegjlilcafaa", sum := "d66ff8648de35fb3e90a53c6a9b1a63cfef51d164fa5a353fc23dbd74c5a07fc", func := "loop.example/g01359/laws.FnExactCountSameShape", spec := "fnExactCountSameShape", unfollowed := true, recurses := true, plainKeys := false, apart := false, narrowed := true }
def FnExactCountSameShapeUptoSaid : Prop := fnExactCountSameShapeUptoRow.holds Try.pinned (OpenSpec.upto fnExactCountSameShapeSpec)

/-- 'laws.FnExactCycleType', WHERE WHAT IT READS IS OF BULK AT MOST 1048576: true; the input reads as it did. -/
def fnExactCycleTypeUptoRow : OpenClaim := { program := "ytfghegjlilcafaa", sum := "d66ff8648de35fb3e90a53c6a9b1a63cfef51d164fa5a353fc23dbd74c5a07fc", func := "loop.example/g01359/laws.FnExactCycleType", spec := "fnExactCycleType", unfollowed := true, recurses := true, plainKeys := false, apart := false, narrowed := true }
def FnExactCycleTypeUptoSaid : Prop := fnExactCycleTypeUptoRow.holds Try.pinned (OpenSpec.upto fnExactCycleTypeSpec)

/-- 'laws.FnExactHeightsOf', WHERE WHAT IT READS IS OF BULK AT MOST 1048576: true; the input reads as it did. -/
def fnExactHeightsOfUptoRow : OpenClaim := { program := "ytfghegjlilcafaa", sum := "d66ff8648de35fb3e90a53c6a9b1a63cfef51d164fa5a353fc23dbd74c5a07fc", func := "loop.example/g01359/laws.FnExactHeightsOf", spec := "fnExactHeightsOf", unfollowed := true, recurses := true, plainKeys := false, apart := false, narrowed := true }
def FnExactHeightsOfUptoSaid : Prop := fnExactHeightsOfUptoRow.holds Try.pinned (OpenSpec.upto fnExactHeightsOfSpec)

/-- 'laws.FnExactFirstRoot', WHERE WHAT IT READS IS OF BULK AT MOST 1048576: true; the input reads as it did. -/
def fnExactFirstRootUptoRow : OpenClaim := { program := "ytfghegjlilcafaa", sum := "d66ff8648de35fb3e90a53c6a9b1a63cfef51d164fa5a353fc23dbd74c5a07fc", func := "loop.example/g01359/laws.FnExactFirstRoot", spec := "fnExactFirstRoot", unfollowed := true, recurses := true, plainKeys := false, apart := false, narrowed := true }
def FnExactFirstRootUptoSaid : Prop := fnExactFirstRootUptoRow.holds Try.pinned (OpenSpec.upto fnExactFirstRootSpec)

/-- 'laws.FnExactCountRoots', WHERE WHAT IT READS IS OF BULK AT MOST 1048576: true; the input reads as it did. -/
def fnExactCountRootsUptoRow : OpenClaim := { program := "ytfghegjlilcafaa", sum := "d66ff8648de35fb3e90a53c6a9b1a63cfef51d164fa5a353fc23dbd74c5a07fc", func := "loop.example/g01359/laws.FnExactCountRoots", spec := "fnExactCountRoots", unfollowed := true, recurses := true, plainKeys := false, apart := false, narrowed := true }
def FnExactCountRootsUptoSaid : Prop := fnExactCountRootsUptoRow.holds Try.pinned (OpenSpec.upto fnExactCountRootsSpec)

/-- 'laws.FnExactCountCommuting', WHERE WHAT IT READS IS OF BULK AT MOST 1048576: true; the input reads as it did. -/
def fnExactCountCommutingUptoRow : OpenClaim := { program := "ytfghegjlilcafaa", sum := "d66ff8648de35fb3e90a53c6a9b1a63cfef51d164fa5a353fc23dbd74c5a07fc", func := "loop.example/g01359/laws.FnExactCountCommuting", spec := "fnExactCountCommuting", unfollowed := true, recurses := true, plainKeys := false, apart := false, narrowed := true }
def FnExactCountCommutingUptoSaid : Prop := fnExactCountCommutingUptoRow.holds Try.pinned (OpenSpec.upto fnExactCountCommutingSpec)

/-- 'laws.FnExactBasinsOf', WHERE WHAT IT READS IS OF BULK AT MOST 1048576: true; the input reads as it did. -/
def fnExactBasinsOfUptoRow : OpenClaim := { program := "ytfghegjlilcafaa", sum := "d66ff8648de35fb3e90a53c6a9b1a63cfef51d164fa5a353fc23dbd74c5a07fc", func := "loop.example/g01359/laws.FnExactBasinsOf", spec := "fnExactBasinsOf", unfollowed := true, recurses := true, plainKeys := false, apart := false, narrowed := true }
def FnExactBasinsOfUptoSaid : Prop := fnExactBasinsOfUptoRow.holds Try.pinned (OpenSpec.upto fnExactBasinsOfSpec)

end Rows
end Go.Proofs.Ytfghegjlilcafaa
