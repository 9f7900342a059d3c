/-
  No cell of these rows narrows 'for every input' (looked for: loops, veiled, ifaces, maps, wideKeys, modest, calm, conditions, laid).
  DERIVED. THE GIVEN ROWS OF THIS SEAT. 6 by the template 'for every input the law returns true; each argument reads behind the call as it read before'; 0 by the template 'total and deterministic' (their statements: YtaabenkbcbpccaaTotals.lean).
  GIVEN WITH THE SEED: the statements are not yours to turn. If you find one false, say at which input.
  Laid BY PROGRAM, IN A SANDBOX (cutbox-rows.mjs): the forced cells as the released guide's own fill.sh prints them over the translation af7c73f501a2cbaa… (all of the seat's roots in one cut). By AI agents, Wed Nov 11 2026. No macro, syntax, notation, axiom, sorry.
-/
import Derived.Test.YtaabenkbcbpccaaChecked
import GoSem.Claim
import GoSem.ClaimJoined
import GoSem.ClaimMapViews
import Derived.JoinedTies
import Derived.KernelRfl
namespace Go.Proofs.Ytaabenkbcbpccaa
/- THE CELL 'sum', in the pinned program and in every row, IS THE sha256 OF THE DUMP (.gsa) THAT YtaabenkbcbpccaaProg.lean LOADS. Nothing in Lean hashes anything: it is a label: what it is worth is what the hold of that sum in a sandbox is worth. -/
noncomputable def Try.pinned : Pinned := { name := "ytaabenkbcbpccaa", sum := "af7c73f501a2cbaa43ad1f297228ab571c2f24402c813ccae4fa0d79e227f2fe", checked := Try.checked }
namespace Rows
def none {H : Type} : Left H := { results := [], args := [] }

/-- 'laws.FnExactRankOf': WHATEVER THE INPUT: true; the input reads as it did. -/
def fnExactRankOfSpec : ChangeSpec := { name := "fnExactRankOf", fn := fun _ => fun
  | [d] => { results := [.lit (.bool true)], args := [d] }
  | _ => none }
def fnExactRankOfRow : OpenClaim := { program := "ytaabenkbcbpccaa", sum := "af7c73f501a2cbaa43ad1f297228ab571c2f24402c813ccae4fa0d79e227f2fe", func := "loop.example/g01359/laws.FnExactRankOf", spec := "fnExactRankOf", plainKeys := false, apart := false }
def FnExactRankOfSaid : Prop := fnExactRankOfRow.holds Try.pinned (OpenSpec.ofChange fnExactRankOfSpec)

/-- ITS FALSE NEIGHBOUR: 'it returns false'. Refute it at one input. -/
def fnExactRankOfWrong : ChangeSpec := { name := "fnExactRankOf", fn := fun _ => fun
  | [d] => { results := [.lit (.bool false)], args := [d] }
  | _ => none }
def FnExactRankOfWrongFalsely : Prop := fnExactRankOfRow.holds Try.pinned (OpenSpec.ofChange fnExactRankOfWrong)

/-- 'laws.FnExactImageOf': WHATEVER THE INPUT: true; the input reads as it did. -/
def fnExactImageOfSpec : ChangeSpec := { name := "fnExactImageOf", fn := fun _ => fun
  | [d1, d2] => { results := [.lit (.bool true)], args := [d1, d2] }
  | _ => none }
def fnExactImageOfRow : OpenClaim := { program := "ytaabenkbcbpccaa", sum := "af7c73f501a2cbaa43ad1f297228ab571c2f24402c813ccae4fa0d79e227f2fe", func := "loop.example/g01359/laws.FnExactImageOf", spec := "fnExactImageOf", plainKeys := false, apart := false }
def FnExactImageOfSaid : Prop := fnExactImageOfRow.holds Try.pinned (OpenSpec.ofChange fnExactImageOfSpec)

/-- ITS FALSE NEIGHBOUR: 'it returns false'. Refute it at one input. -/
def fnExactImageOfWrong : ChangeSpec := { name := "fnExactImageOf", fn := fun _ => fun
  | [d1, d2] => { results := [.lit (.bool false)], args := [d1, d2] }
  | _ => none }
def FnExactImageOfWrongFalsely : Prop := fnExactImageOfRow.holds Try.pinned (OpenSpec.ofChange fnExactImageOfWrong)

/-- 'laws.FnExactInverseOf': WHATEVER THE INPUT: true; the input reads as it did. -/
def fnExactInverseOfSpec : ChangeSpec := { name := "fnExactInverseOf", fn := fun _ => fun
  | [d] => { results := [.lit (.bool true)], args := [d] }
  | _ => none }
def fnExactInverseOfRow : OpenClaim := { program := "ytaabenkbcbpccaa", sum := "af7c73f501a2cbaa43ad1f297228ab571c2f24402c813ccae4fa0d79e227f2fe", func := "loop.example/g01359/laws.FnExactInverseOf", spec := "fnExactInverseOf", plainKeys := false, apart := false }
def FnExactInverseOfSaid : Prop := fnExactInverseOfRow.holds Try.pinned (OpenSpec.ofChange fnExactInverseOfSpec)

/-- ITS FALSE NEIGHBOUR: 'it returns false'. Refute it at one input. -/
def fnExactInverseOfWrong : ChangeSpec := { name := "fnExactInverseOf", fn := fun _ => fun
  | [d] => { results := [.lit (.bool false)], args := [d] }
  | _ => none }
def FnExactInverseOfWrongFalsely : Prop := fnExactInverseOfRow.holds Try.pinned (OpenSpec.ofChange fnExactInverseOfWrong)

/-- 'laws.FnExactRenumberMap': WHATEVER THE INPUT: true; the input reads as it did. -/
def fnExactRenumberMapSpec : ChangeSpec := { name := "fnExactRenumberMap", fn := fun _ => fun
  | [d1, d2] => { results := [.lit (.bool true)], args := [d1, d2] }
  | _ => none }
def fnExactRenumberMapRow : OpenClaim := { program := "ytaabenkbcbpccaa", sum := "af7c73f501a2cbaa43ad1f297228ab571c2f24402c813ccae4fa0d79e227f2fe", func := "loop.example/g01359/laws.FnExactRenumberMap", spec := "fnExactRenumberMap", plainKeys := false, apart := false }
def FnExactRenumberMapSaid : Prop := fnExactRenumberMapRow.holds Try.pinned (OpenSpec.ofChange fnExactRenumberMapSpec)

/-- ITS FALSE NEIGHBOUR: 'it returns false'. Refute it at one input. -/
def fnExactRenumberMapWrong : ChangeSpec := { name := "fnExactRenumberMap", fn := fun _ => fun
  | [d1, d2] => { results := [.lit (.bool false)], args := [d1, d2] }
  | _ => none }
def FnExactRenumberMapWrongFalsely : Prop := fnExactRenumberMapRow.holds Try.pinned (OpenSpec.ofChange fnExactRenumberMapWrong)

/-- 'laws.FnExactUnitsOf': WHATEVER THE INPUT: true; the input reads as it did. -/
def fnExactUnitsOfSpec : ChangeSpec := { name := "fnExactUnitsOf", fn := fun _ => fun
  | [d] => { results := [.lit (.bool true)], args := [d] }
  | _ => none }
def fnExactUnitsOfRow : OpenClaim := { program := "ytaabenkbcbpccaa", sum := "af7c73f501a2cbaa43ad1f297228ab571c2f24402c813ccae4fa0d79e227f2fe", func := "loop.example/g01359/laws.FnExactUnitsOf", spec := "fnExactUnitsOf", unfollowed := true, recurses := true, plainKeys := false, apart := false }
def FnExactUnitsOfSaid : Prop := fnExactUnitsOfRow.holds Try.pinned (OpenSpec.ofChange fnExactUnitsOfSpec)

/-- ITS FALSE NEIGHBOUR: 'it returns false'. Refute it at one input. -/
def fnExactUnitsOfWrong : ChangeSpec := { name := "fnExactUnitsOf", fn := fun _ => fun
  | [d] => { results := [.lit (.bool false)], args := [d] }
  | _ => none }
def FnExactUnitsOfWrongFalsely : Prop := fnExactUnitsOfRow.holds Try.pinned (OpenSpec.ofChange fnExactUnitsOfWrong)

/-- 'laws.FnExactSizesByRank': WHATEVER THE INPUT: true; the input reads as it did. -/
def fnExactSizesByRankSpec : ChangeSpec := { name := "fnExactSizesByRank", fn := fun _ => fun
  | [d] => { results := [.lit (.bool true)], args := [d] }
  | _ => none }
def fnExactSizesByRankRow : OpenClaim := { program := "ytaabenkbcbpccaa", sum := "af7c73f501a2cbaa43ad1f297228ab571c2f24402c813ccae4fa0d79e227f2fe", func := "loop.example/g01359/laws.FnExactSizesByRank", spec := "fnExactSizesByRank", unfollowed := true, recurses := true, plainKeys := false, apart := false }
def FnExactSizesByRankSaid : Prop := fnExactSizesByRankRow.holds Try.pinned (OpenSpec.ofChange fnExactSizesByRankSpec)

/-- ITS FALSE NEIGHBOUR: 'it returns false'. Refute it at one input. -/
def fnExactSizesByRankWrong : ChangeSpec := { name := "fnExactSizesByRank", fn := fun _ => fun
  | [d] => { results := [.lit (.bool false)], args := [d] }
  | _ => none }
def FnExactSizesByRankWrongFalsely : Prop := fnExactSizesByRankRow.holds Try.pinned (OpenSpec.ofChange fnExactSizesByRankWrong)

/- THE SECOND FORM. 'bulk': how many values and letters a reading holds, each counted each time it is reached (what is shared counts as often as it is met; a slice's spare places count too). A statement '..UptoSaid' is the law's where the arguments, and the package variables that the reading takes, are together of bulk at most 1048576: NARROWER than '..Said'. Prove '..Said' where nothing that the law and all that it calls make is longer than what came in: it says more and counts as full. Else prove '..UptoSaid'. A law counts once. -/
mutual
def uptoBulk {H : Type} : DataW H → Nat
  | .lit (.string bytes) => bytes.length + 1
  | .lit _ => 1
  | .nil => 1
  | .ptr d => uptoBulk d + 1
  | .slice elems spare => uptoBulkAll elems + uptoBulkAll spare + 1
  | .agg parts => uptoBulkAll parts + 1
  | .iface _ d => uptoBulk d + 1
  | .map entries => uptoBulkEntries entries + 1
  | .held _ => 1
def uptoBulkAll {H : Type} : List (DataW H) → Nat
  | [] => 0
  | d :: r => uptoBulk d + uptoBulkAll r
def uptoBulkEntries {H : Type} : List (Lit × DataW H) → Nat
  | [] => 0
  | x :: r => uptoBulkEntry x + uptoBulkEntries r
def uptoBulkEntry {H : Type} : Lit × DataW H → Nat
  | (.string bytes, d) => bytes.length + uptoBulk d + 1
  | (_, d) => uptoBulk d + 1
 end
def uptoSmall : (H : Type) → List (DataW H) → Bool := fun _ ds => decide (uptoBulkAll ds ≤ 1048576)
def OpenSpec.upto (s : _root_.Go.ChangeSpec) : _root_.Go.OpenSpec := { _root_.Go.OpenSpec.ofChange s with cond := some uptoSmall }

/-- 'laws.FnExactRankOf', WHERE WHAT IT READS IS OF BULK AT MOST 1048576: true; the input reads as it did. -/
def fnExactRankOfUptoRow : OpenClaim := { program := "ytaabenkbcbpccaa", sum := "af7c73f501a2cbaa43ad1f297228ab571c2f24402c813ccae4fa0d79e227f2fe", func := "loop.example/g01359/laws.FnExactRankOf", spec := "fnExactRankOf", plainKeys := false, apart := false, narrowed := true }
def FnExactRankOfUptoSaid : Prop := fnExactRankOfUptoRow.holds Try.pinned (OpenSpec.upto fnExactRankOfSpec)

/-- 'laws.FnExactImageOf', WHERE WHAT IT READS IS OF BULK AT MOST 1048576: true; the input reads as it did. -/
def fnExactImageOfUptoRow : OpenClaim := { program := "ytaabenkbcbpccaa", sum := "af7c73f501a2cbaa43ad1f297228ab571c2f24402c813ccae4fa0d79e227f2fe", func := "loop.example/g01359/laws.FnExactImageOf", spec := "fnExactImageOf", plainKeys := false, apart := false, narrowed := true }
def FnExactImageOfUptoSaid : Prop := fnExactImageOfUptoRow.holds Try.pinned (OpenSpec.upto fnExactImageOfSpec)

/-- 'laws.FnExactInverseOf', WHERE WHAT IT READS IS OF BULK AT MOST 1048576: true; the input reads as it did. -/
def fnExactInverseOfUptoRow : OpenClaim := { program := "ytaabenkbcbpccaa", sum := "af7c73f501a2cbaa43ad1f297228ab571c2f24402c813ccae4fa0d79e227f2fe", func := "loop.example/g01359/laws.FnExactInverseOf", spec := "fnExactInverseOf", plainKeys := false, apart := false, narrowed := true }
def FnExactInverseOfUptoSaid : Prop := fnExactInverseOfUptoRow.holds Try.pinned (OpenSpec.upto fnExactInverseOfSpec)

/-- 'laws.FnExactRenumberMap', WHERE WHAT IT READS IS OF BULK AT MOST 1048576: true; the input reads as it did. -/
def fnExactRenumberMapUptoRow : OpenClaim := { program := "ytaabenkbcbpccaa", sum := "af7c73f501a2cbaa43ad1f297228ab571c2f24402c813ccae4fa0d79e227f2fe", func := "loop.example/g01359/laws.FnExactRenumberMap", spec := "fnExactRenumberMap", plainKeys := false, apart := false, narrowed := true }
def FnExactRenumberMapUptoSaid : Prop := fnExactRenumberMapUptoRow.holds Try.pinned (OpenSpec.upto fnExactRenumberMapSpec)

/-- 'laws.FnExactUnitsOf', WHERE WHAT IT READS IS OF BULK AT MOST 1048576: true; the input reads as it did. -/
def fnExactUnitsOfUptoRow : OpenClaim := { program := "ytaabenkbcbpccaa", sum := "af7c73f501a2cbaa43ad1f297228ab571c2f24402c813ccae4fa0d79e227f2fe", func := "loop.example/g01359/laws.FnExactUnitsOf", spec := "fnExactUnitsOf", unfollowed := true, recurses := true, plainKeys := false, apart := false, narrowed := true }
def FnExactUnitsOfUptoSaid : Prop := fnExactUnitsOfUptoRow.holds Try.pinned (OpenSpec.upto fnExactUnitsOfSpec)

/-- 'laws.FnExactSizesByRank', WHERE WHAT IT READS IS OF BULK AT MOST 1048576: true; the input reads as it did. -/
def fnExactSizesByRankUptoRow : OpenClaim := { program := "ytaabenkbcbpccaa", sum := "af7c73f501a2cbaa43ad1f297228ab571c2f24402c813ccae4fa0d79e227f2fe", func := "loop.example/g01359/laws.FnExactSizesByRank", spec := "fnExactSizesByRank", unfollowed := true, recurses := true, plainKeys := false, apart := false, narrowed := true }
def FnExactSizesByRankUptoSaid : Prop := fnExactSizesByRankUptoRow.holds Try.pinned (OpenSpec.upto fnExactSizesByRankSpec)

end Rows
end Go.Proofs.Ytaabenkbcbpccaa
