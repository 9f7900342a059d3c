/-
  No cell of these rows narrows 'for every input' (looked for: loops, veiled, ifaces, maps, wideKeys, modest, calm, conditions, laid).
  DERIVED. THE GIVEN ROWS OF THIS SEAT. 8 by the template 'for every input the law returns true; each argument reads behind the call as it read before'; 0 by the template 'total and deterministic' (their statements: YtiakoplfknkhmaaTotals.lean).
  GIVEN WITH THE SEED: the statements are not yours to turn. If you find one false, say at which input.
  Laid BY PROGRAM, IN A SANDBOX (cutbox-rows.mjs): the forced cells as the released guide's own fill.sh prints them over the translation b1854adbbdb80c7a… (all of the seat's roots in one cut). By AI agents, Wed Nov 11 2026. No macro, syntax, notation, axiom, sorry.
-/
import Derived.Test.YtiakoplfknkhmaaChecked
import GoSem.Claim
import GoSem.ClaimJoined
import GoSem.ClaimMapViews
import Derived.JoinedTies
import Derived.KernelRfl
namespace Go.Proofs.Ytiakoplfknkhmaa
/- THE CELL 'sum', in the pinned program and in every row, IS THE sha256 OF THE DUMP (.gsa) THAT YtiakoplfknkhmaaProg.lean LOADS. Nothing in Lean hashes anything: it is a label: what it is worth is what the hold of that sum in a sandbox is worth. -/
noncomputable def Try.pinned : Pinned := { name := "ytiakoplfknkhmaa", sum := "b1854adbbdb80c7a3a9fec0409e67f768e6b91ab6d51c0e5361700b10bd83fdf", checked := Try.checked }
namespace Rows
def none {H : Type} : Left H := { results := [], args := [] }

/-- 'laws.FnExactIsAcceptor': WHATEVER THE INPUT: true; the input reads as it did. -/
def fnExactIsAcceptorSpec : ChangeSpec := { name := "fnExactIsAcceptor", fn := fun _ => fun
  | [d] => { results := [.lit (.bool true)], args := [d] }
  | _ => none }
def fnExactIsAcceptorRow : OpenClaim := { program := "ytiakoplfknkhmaa", sum := "b1854adbbdb80c7a3a9fec0409e67f768e6b91ab6d51c0e5361700b10bd83fdf", func := "loop.example/g01359/laws.FnExactIsAcceptor", spec := "fnExactIsAcceptor", apart := false }
def FnExactIsAcceptorSaid : Prop := fnExactIsAcceptorRow.holds Try.pinned (OpenSpec.ofChange fnExactIsAcceptorSpec)

/-- ITS FALSE NEIGHBOUR: 'it returns false'. Refute it at one input. -/
def fnExactIsAcceptorWrong : ChangeSpec := { name := "fnExactIsAcceptor", fn := fun _ => fun
  | [d] => { results := [.lit (.bool false)], args := [d] }
  | _ => none }
def FnExactIsAcceptorWrongFalsely : Prop := fnExactIsAcceptorRow.holds Try.pinned (OpenSpec.ofChange fnExactIsAcceptorWrong)

/-- 'laws.FnExactPointsReached': WHATEVER THE INPUT: true; the input reads as it did. -/
def fnExactPointsReachedSpec : ChangeSpec := { name := "fnExactPointsReached", fn := fun _ => fun
  | [d] => { results := [.lit (.bool true)], args := [d] }
  | _ => none }
def fnExactPointsReachedRow : OpenClaim := { program := "ytiakoplfknkhmaa", sum := "b1854adbbdb80c7a3a9fec0409e67f768e6b91ab6d51c0e5361700b10bd83fdf", func := "loop.example/g01359/laws.FnExactPointsReached", spec := "fnExactPointsReached", unfollowed := true, recurses := true, apart := false }
def FnExactPointsReachedSaid : Prop := fnExactPointsReachedRow.holds Try.pinned (OpenSpec.ofChange fnExactPointsReachedSpec)

/-- ITS FALSE NEIGHBOUR: 'it returns false'. Refute it at one input. -/
def fnExactPointsReachedWrong : ChangeSpec := { name := "fnExactPointsReached", fn := fun _ => fun
  | [d] => { results := [.lit (.bool false)], args := [d] }
  | _ => none }
def FnExactPointsReachedWrongFalsely : Prop := fnExactPointsReachedRow.holds Try.pinned (OpenSpec.ofChange fnExactPointsReachedWrong)

/-- 'laws.FnExactFirstApart': WHATEVER THE INPUT: true; the input reads as it did. -/
def fnExactFirstApartSpec : ChangeSpec := { name := "fnExactFirstApart", fn := fun _ => fun
  | [d1, d2, d3] => { results := [.lit (.bool true)], args := [d1, d2, d3] }
  | _ => none }
def fnExactFirstApartRow : OpenClaim := { program := "ytiakoplfknkhmaa", sum := "b1854adbbdb80c7a3a9fec0409e67f768e6b91ab6d51c0e5361700b10bd83fdf", func := "loop.example/g01359/laws.FnExactFirstApart", spec := "fnExactFirstApart", unfollowed := true, recurses := true, apart := false }
def FnExactFirstApartSaid : Prop := fnExactFirstApartRow.holds Try.pinned (OpenSpec.ofChange fnExactFirstApartSpec)

/-- ITS FALSE NEIGHBOUR: 'it returns false'. Refute it at one input. -/
def fnExactFirstApartWrong : ChangeSpec := { name := "fnExactFirstApart", fn := fun _ => fun
  | [d1, d2, d3] => { results := [.lit (.bool false)], args := [d1, d2, d3] }
  | _ => none }
def FnExactFirstApartWrongFalsely : Prop := fnExactFirstApartRow.holds Try.pinned (OpenSpec.ofChange fnExactFirstApartWrong)

/-- 'laws.FnExactLeastAcceptor': WHATEVER THE INPUT: true; the input reads as it did. -/
def fnExactLeastAcceptorSpec : ChangeSpec := { name := "fnExactLeastAcceptor", fn := fun _ => fun
  | [d] => { results := [.lit (.bool true)], args := [d] }
  | _ => none }
def fnExactLeastAcceptorRow : OpenClaim := { program := "ytiakoplfknkhmaa", sum := "b1854adbbdb80c7a3a9fec0409e67f768e6b91ab6d51c0e5361700b10bd83fdf", func := "loop.example/g01359/laws.FnExactLeastAcceptor", spec := "fnExactLeastAcceptor", unfollowed := true, recurses := true, apart := false }
def FnExactLeastAcceptorSaid : Prop := fnExactLeastAcceptorRow.holds Try.pinned (OpenSpec.ofChange fnExactLeastAcceptorSpec)

/-- ITS FALSE NEIGHBOUR: 'it returns false'. Refute it at one input. -/
def fnExactLeastAcceptorWrong : ChangeSpec := { name := "fnExactLeastAcceptor", fn := fun _ => fun
  | [d] => { results := [.lit (.bool false)], args := [d] }
  | _ => none }
def FnExactLeastAcceptorWrongFalsely : Prop := fnExactLeastAcceptorRow.holds Try.pinned (OpenSpec.ofChange fnExactLeastAcceptorWrong)

/-- 'laws.FnExactAreEqual': WHATEVER THE INPUT: true; the input reads as it did. -/
def fnExactAreEqualSpec : ChangeSpec := { name := "fnExactAreEqual", fn := fun _ => fun
  | [d1, d2] => { results := [.lit (.bool true)], args := [d1, d2] }
  | _ => none }
def fnExactAreEqualRow : OpenClaim := { program := "ytiakoplfknkhmaa", sum := "b1854adbbdb80c7a3a9fec0409e67f768e6b91ab6d51c0e5361700b10bd83fdf", func := "loop.example/g01359/laws.FnExactAreEqual", spec := "fnExactAreEqual", unfollowed := true, recurses := true, apart := false }
def FnExactAreEqualSaid : Prop := fnExactAreEqualRow.holds Try.pinned (OpenSpec.ofChange fnExactAreEqualSpec)

/-- ITS FALSE NEIGHBOUR: 'it returns false'. Refute it at one input. -/
def fnExactAreEqualWrong : ChangeSpec := { name := "fnExactAreEqual", fn := fun _ => fun
  | [d1, d2] => { results := [.lit (.bool false)], args := [d1, d2] }
  | _ => none }
def FnExactAreEqualWrongFalsely : Prop := fnExactAreEqualRow.holds Try.pinned (OpenSpec.ofChange fnExactAreEqualWrong)

/-- 'laws.FnExactFirstDifferent': WHATEVER THE INPUT: true; the input reads as it did. -/
def fnExactFirstDifferentSpec : ChangeSpec := { name := "fnExactFirstDifferent", fn := fun _ => fun
  | [d1, d2] => { results := [.lit (.bool true)], args := [d1, d2] }
  | _ => none }
def fnExactFirstDifferentRow : OpenClaim := { program := "ytiakoplfknkhmaa", sum := "b1854adbbdb80c7a3a9fec0409e67f768e6b91ab6d51c0e5361700b10bd83fdf", func := "loop.example/g01359/laws.FnExactFirstDifferent", spec := "fnExactFirstDifferent", unfollowed := true, recurses := true, apart := false }
def FnExactFirstDifferentSaid : Prop := fnExactFirstDifferentRow.holds Try.pinned (OpenSpec.ofChange fnExactFirstDifferentSpec)

/-- ITS FALSE NEIGHBOUR: 'it returns false'. Refute it at one input. -/
def fnExactFirstDifferentWrong : ChangeSpec := { name := "fnExactFirstDifferent", fn := fun _ => fun
  | [d1, d2] => { results := [.lit (.bool false)], args := [d1, d2] }
  | _ => none }
def FnExactFirstDifferentWrongFalsely : Prop := fnExactFirstDifferentRow.holds Try.pinned (OpenSpec.ofChange fnExactFirstDifferentWrong)

/-- 'laws.FnExactFirstAccepted': WHATEVER THE INPUT: true; the input reads as it did. -/
def fnExactFirstAcceptedSpec : ChangeSpec := { name := "fnExactFirstAccepted", fn := fun _ => fun
  | [d] => { results := [.lit (.bool true)], args := [d] }
  | _ => none }
def fnExactFirstAcceptedRow : OpenClaim := { program := "ytiakoplfknkhmaa", sum := "b1854adbbdb80c7a3a9fec0409e67f768e6b91ab6d51c0e5361700b10bd83fdf", func := "loop.example/g01359/laws.FnExactFirstAccepted", spec := "fnExactFirstAccepted", unfollowed := true, recurses := true, apart := false }
def FnExactFirstAcceptedSaid : Prop := fnExactFirstAcceptedRow.holds Try.pinned (OpenSpec.ofChange fnExactFirstAcceptedSpec)

/-- ITS FALSE NEIGHBOUR: 'it returns false'. Refute it at one input. -/
def fnExactFirstAcceptedWrong : ChangeSpec := { name := "fnExactFirstAccepted", fn := fun _ => fun
  | [d] => { results := [.lit (.bool false)], args := [d] }
  | _ => none }
def FnExactFirstAcceptedWrongFalsely : Prop := fnExactFirstAcceptedRow.holds Try.pinned (OpenSpec.ofChange fnExactFirstAcceptedWrong)

/-- 'laws.FnExactComplementOf': WHATEVER THE INPUT: true; the input reads as it did. -/
def fnExactComplementOfSpec : ChangeSpec := { name := "fnExactComplementOf", fn := fun _ => fun
  | [d] => { results := [.lit (.bool true)], args := [d] }
  | _ => none }
def fnExactComplementOfRow : OpenClaim := { program := "ytiakoplfknkhmaa", sum := "b1854adbbdb80c7a3a9fec0409e67f768e6b91ab6d51c0e5361700b10bd83fdf", func := "loop.example/g01359/laws.FnExactComplementOf", spec := "fnExactComplementOf", apart := false }
def FnExactComplementOfSaid : Prop := fnExactComplementOfRow.holds Try.pinned (OpenSpec.ofChange fnExactComplementOfSpec)

/-- ITS FALSE NEIGHBOUR: 'it returns false'. Refute it at one input. -/
def fnExactComplementOfWrong : ChangeSpec := { name := "fnExactComplementOf", fn := fun _ => fun
  | [d] => { results := [.lit (.bool false)], args := [d] }
  | _ => none }
def FnExactComplementOfWrongFalsely : Prop := fnExactComplementOfRow.holds Try.pinned (OpenSpec.ofChange fnExactComplementOfWrong)

/- THE SECOND FORM. 'bulk': how many values and letters a reading holds, each counted each time it is reached (what is shared counts as often as it is met; a slice's spare places count too). A statement '..UptoSaid' is the law's where the arguments, and the package variables that the reading takes, are together of bulk at most 1048576: NARROWER than '..Said'. Prove '..Said' where nothing that the law and all that it calls make is longer than what came in: it says more and counts as full. Else prove '..UptoSaid'. A law counts once. -/
mutual
def uptoBulk {H : Type} : DataW H → Nat
  | .lit (.string bytes) => bytes.length + 1
  | .lit _ => 1
  | .nil => 1
  | .ptr d => uptoBulk d + 1
  | .slice elems spare => uptoBulkAll elems + uptoBulkAll spare + 1
  | .agg parts => uptoBulkAll parts + 1
  | .iface _ d => uptoBulk d + 1
  | .map entries => uptoBulkEntries entries + 1
  | .held _ => 1
def uptoBulkAll {H : Type} : List (DataW H) → Nat
  | [] => 0
  | d :: r => uptoBulk d + uptoBulkAll r
def uptoBulkEntries {H : Type} : List (Lit × DataW H) → Nat
  | [] => 0
  | x :: r => uptoBulkEntry x + uptoBulkEntries r
def uptoBulkEntry {H : Type} : Lit × DataW H → Nat
  | (.string bytes, d) => bytes.length + uptoBulk d + 1
  | (_, d) => uptoBulk d + 1
 end
def uptoSmall : (H : Type) → List (DataW H) → Bool := fun _ ds => decide (uptoBulkAll ds ≤ 1048576)
def OpenSpec.upto (s : _root_.Go.ChangeSpec) : _root_.Go.OpenSpec := { _root_.Go.OpenSpec.ofChange s with cond := some uptoSmall }

/-- 'laws.FnExactIsAcceptor', WHERE WHAT IT READS IS OF BULK AT MOST 1048576: true; the input reads as it did. -/
def fnExactIsAcceptorUptoRow : OpenClaim := { program := "ytiakoplfknkhmaa", sum := "b1854adbbdb80c7a3a9fec0409e67f768e6b91ab6d51c0e5361700b10bd83fdf", func := "loop.example/g01359/laws.FnExactIsAcceptor", spec := "fnExactIsAcceptor", apart := false, narrowed := true }
def FnExactIsAcceptorUptoSaid : Prop := fnExactIsAcceptorUptoRow.holds Try.pinned (OpenSpec.upto fnExactIsAcceptorSpec)

/-- 'laws.FnExactPointsReached', WHERE WHAT IT READS IS OF BULK AT MOST 1048576: true; the input reads as it did. -/
def fnExactPointsReachedUptoRow : OpenClaim := { program := "ytiakoplfknkhmaa", sum := "b1854adbbdb80c7a3a9fec0409e67f768e6b91ab6d51c0e5361700b10bd83fdf", func := "loop.example/g01359/laws.FnExactPointsReached", spec := "fnExactPointsReached", unfollowed := true, recurses := true, apart := false, narrowed := true }
def FnExactPointsReachedUptoSaid : Prop := fnExactPointsReachedUptoRow.holds Try.pinned (OpenSpec.upto fnExactPointsReachedSpec)

/-- 'laws.FnExactFirstApart', WHERE WHAT IT READS IS OF BULK AT MOST 1048576: true; the input reads as it did. -/
def fnExactFirstApartUptoRow : OpenClaim := { program := "ytiakoplfknkhmaa", sum := "b1854adbbdb80c7a3a9fec0409e67f768e6b91ab6d51c0e5361700b10bd83fdf", func := "loop.example/g01359/laws.FnExactFirstApart", spec := "fnExactFirstApart", unfollowed := true, recurses := true, apart := false, narrowed := true }
def FnExactFirstApartUptoSaid : Prop := fnExactFirstApartUptoRow.holds Try.pinned (OpenSpec.upto fnExactFirstApartSpec)

/-- 'laws.FnExactLeastAcceptor', WHERE WHAT IT READS IS OF BULK AT MOST 1048576: true; the input reads as it did. -/
def fnExactLeastAcceptorUptoRow : OpenClaim := { program := "ytiakoplfknkhmaa", sum := "b1854adbbdb80c7a3a9fec0409e67f768e6b91ab6d51c0e5361700b10bd83fdf", func := "loop.example/g01359/laws.FnExactLeastAcceptor", spec := "fnExactLeastAcceptor", unfollowed := true, recurses := true, apart := false, narrowed := true }
def FnExactLeastAcceptorUptoSaid : Prop := fnExactLeastAcceptorUptoRow.holds Try.pinned (OpenSpec.upto fnExactLeastAcceptorSpec)

/-- 'laws.FnExactAreEqual', WHERE WHAT IT READS IS OF BULK AT MOST 1048576: true; the input reads as it did. -/
def fnExactAreEqualUptoRow : OpenClaim := { program := "ytiakoplfknkhmaa", sum := "b1854adbbdb80c7a3a9fec0409e67f768e6b91ab6d51c0e5361700b10bd83fdf", func := "loop.example/g01359/laws.FnExactAreEqual", spec := "fnExactAreEqual", unfollowed := true, recurses := true, apart := false, narrowed := true }
def FnExactAreEqualUptoSaid : Prop := fnExactAreEqualUptoRow.holds Try.pinned (OpenSpec.upto fnExactAreEqualSpec)

/-- 'laws.FnExactFirstDifferent', WHERE WHAT IT READS IS OF BULK AT MOST 1048576: true; the input reads as it did. -/
def fnExactFirstDifferentUptoRow : OpenClaim := { program := "ytiakoplfknkhmaa", sum := "b1854adbbdb80c7a3a9fec0409e67f768e6b91ab6d51c0e5361700b10bd83fdf", func := "loop.example/g01359/laws.FnExactFirstDifferent", spec := "fnExactFirstDifferent", unfollowed := true, recurses := true, apart := false, narrowed := true }
def FnExactFirstDifferentUptoSaid : Prop := fnExactFirstDifferentUptoRow.holds Try.pinned (OpenSpec.upto fnExactFirstDifferentSpec)

/-- 'laws.FnExactFirstAccepted', WHERE WHAT IT READS IS OF BULK AT MOST 1048576: true; the input reads as it did. -/
def fnExactFirstAcceptedUptoRow : OpenClaim := { program := "ytiakoplfknkhmaa", sum := "b1854adbbdb80c7a3a9fec0409e67f768e6b91ab6d51c0e5361700b10bd83fdf", func := "loop.example/g01359/laws.FnExactFirstAccepted", spec := "fnExactFirstAccepted", unfollowed := true, recurses := true, apart := false, narrowed := true }
def FnExactFirstAcceptedUptoSaid : Prop := fnExactFirstAcceptedUptoRow.holds Try.pinned (OpenSpec.upto fnExactFirstAcceptedSpec)

/-- 'laws.FnExactComplementOf', WHERE WHAT IT READS IS OF BULK AT MOST 1048576: true; the input reads as it did. -/
def fnExactComplementOfUptoRow : OpenClaim := { program := "ytiakoplfknkhmaa", sum := "b1854adbbdb80c7a3a9fec0409e67f768e6b91ab6d51c0e5361700b10bd83fdf", func := "loop.example/g01359/laws.FnExactComplementOf", spec := "fnExactComplementOf", apart := false, narrowed := true }
def FnExactComplementOfUptoSaid : Prop := fnExactComplementOfUptoRow.holds Try.pinned (OpenSpec.upto fnExactComplementOfSpec)

end Rows
end Go.Proofs.Ytiakoplfknkhmaa
