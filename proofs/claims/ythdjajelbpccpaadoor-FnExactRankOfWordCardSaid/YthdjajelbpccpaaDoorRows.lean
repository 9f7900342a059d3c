/-
  NARROWER THAN 'FOR EVERY INPUT', by the rows' own cells (each row's printed sentence says how): FnExactLeadPoint: ifaces, laid · FnExactRankOfWord: ifaces, laid · FnExactImageAlong: ifaces, laid · FnExactFixedByWord: ifaces, laid · FnExactAccepts: ifaces, laid.
  DERIVED. THE GIVEN ROWS OF THIS SEAT. 5 by the template 'for every input the law returns true; each argument reads behind the call as it read before'; 0 by the template 'total and deterministic' (their statements: YthdjajelbpccpaaDoorTotals.lean).
  GIVEN WITH THE SEED: the statements are not yours to turn. If you find one false, say at which input.
  Laid BY PROGRAM, IN A SANDBOX (cutbox-rows.mjs): the forced cells as the released guide's own fill.sh prints them over the translation 8165d16a41cb4dfb… (all of the seat's roots in one cut). By AI agents, Wed Nov 11 2026. No macro, syntax, notation, axiom, sorry.
-/
import Derived.Test.YthdjajelbpccpaaDoorChecked
import GoSem.Claim
import GoSem.ClaimJoined
import GoSem.ClaimMapViews
import Derived.JoinedTies
import Derived.KernelRfl
namespace Go.Proofs.YthdjajelbpccpaaDoor
/- THE CELL 'sum', in the pinned program and in every row, IS THE sha256 OF THE DUMP (.gsa) THAT YthdjajelbpccpaaDoorProg.lean LOADS. Nothing in Lean hashes anything: it is a label: what it is worth is what the hold of that sum in a sandbox is worth. -/
noncomputable def Tryd.pinned : Pinned := { name := "ythdjajelbpccpaadoor", sum := "8165d16a41cb4dfb4d04eb9d37f6e4ebad8f73eb4b9c86dca04147f5bf551488", checked := Tryd.checked }
namespace Rows
def none {H : Type} : Left H := { results := [], args := [] }

/- WHAT THE LISTED PACKAGE-LEVEL VARIABLES READ AS WHEN THE CALL BEGINS. Each datum BY PROGRAM (the guide's laid-datum.mjs) off the statement by which the dump's own 'gosem.cut.vars' lays the variable. In a bare row this is a premise. The card (YthdjajelbpccpaaDoorCards.lean) ties it to the program's text. -/
def laid_loop_example_g01359_impl_errNoWord {H : Type} : DataW H := .iface "*errors.errorString" (.ptr (.agg [.lit (.string [116, 104, 101, 32, 110, 117, 109, 98, 101, 114, 115, 32, 97, 114, 101, 32, 110, 111, 32, 119, 111, 114, 100])]))

/-- 'laws.FnExactLeadPoint': WHATEVER THE INPUT: true; the input reads as it did. -/
def fnExactLeadPointSpec : ChangeSpec := { name := "fnExactLeadPoint", vars := ["loop.example/g01359/impl.errNoWord"], fn := fun _ => fun
  | [d1, d2, d3, g1] => { results := [.lit (.bool true)], args := [d1, d2, d3], vars := [g1] }
  | _ => none }
def fnExactLeadPointRow : OpenClaim := { program := "ythdjajelbpccpaadoor", sum := "8165d16a41cb4dfb4d04eb9d37f6e4ebad8f73eb4b9c86dca04147f5bf551488", func := "loop.example/g01359/laws.FnExactLeadPoint", spec := "fnExactLeadPoint", unfollowed := true, recurses := true, named := ["loop.example/g01359/impl.errNoWord"], ifaces := true, apart := false, laid := [("loop.example/g01359/impl.errNoWord", laid_loop_example_g01359_impl_errNoWord)] }
def FnExactLeadPointSaid : Prop := fnExactLeadPointRow.holds Tryd.pinned (OpenSpec.ofChange fnExactLeadPointSpec)

/-- ITS FALSE NEIGHBOUR: 'it returns false'. Refute it at one input. -/
def fnExactLeadPointWrong : ChangeSpec := { name := "fnExactLeadPoint", vars := ["loop.example/g01359/impl.errNoWord"], fn := fun _ => fun
  | [d1, d2, d3, g1] => { results := [.lit (.bool false)], args := [d1, d2, d3], vars := [g1] }
  | _ => none }
def FnExactLeadPointWrongFalsely : Prop := fnExactLeadPointRow.holds Tryd.pinned (OpenSpec.ofChange fnExactLeadPointWrong)

/-- 'laws.FnExactRankOfWord': WHATEVER THE INPUT: true; the input reads as it did. -/
def fnExactRankOfWordSpec : ChangeSpec := { name := "fnExactRankOfWord", vars := ["loop.example/g01359/impl.errNoWord"], fn := fun _ => fun
  | [d1, d2, g1] => { results := [.lit (.bool true)], args := [d1, d2], vars := [g1] }
  | _ => none }
def fnExactRankOfWordRow : OpenClaim := { program := "ythdjajelbpccpaadoor", sum := "8165d16a41cb4dfb4d04eb9d37f6e4ebad8f73eb4b9c86dca04147f5bf551488", func := "loop.example/g01359/laws.FnExactRankOfWord", spec := "fnExactRankOfWord", unfollowed := true, recurses := true, named := ["loop.example/g01359/impl.errNoWord"], ifaces := true, apart := false, laid := [("loop.example/g01359/impl.errNoWord", laid_loop_example_g01359_impl_errNoWord)] }
def FnExactRankOfWordSaid : Prop := fnExactRankOfWordRow.holds Tryd.pinned (OpenSpec.ofChange fnExactRankOfWordSpec)

/-- ITS FALSE NEIGHBOUR: 'it returns false'. Refute it at one input. -/
def fnExactRankOfWordWrong : ChangeSpec := { name := "fnExactRankOfWord", vars := ["loop.example/g01359/impl.errNoWord"], fn := fun _ => fun
  | [d1, d2, g1] => { results := [.lit (.bool false)], args := [d1, d2], vars := [g1] }
  | _ => none }
def FnExactRankOfWordWrongFalsely : Prop := fnExactRankOfWordRow.holds Tryd.pinned (OpenSpec.ofChange fnExactRankOfWordWrong)

/-- 'laws.FnExactImageAlong': WHATEVER THE INPUT: true; the input reads as it did. -/
def fnExactImageAlongSpec : ChangeSpec := { name := "fnExactImageAlong", vars := ["loop.example/g01359/impl.errNoWord"], fn := fun _ => fun
  | [d1, d2, d3, g1] => { results := [.lit (.bool true)], args := [d1, d2, d3], vars := [g1] }
  | _ => none }
def fnExactImageAlongRow : OpenClaim := { program := "ythdjajelbpccpaadoor", sum := "8165d16a41cb4dfb4d04eb9d37f6e4ebad8f73eb4b9c86dca04147f5bf551488", func := "loop.example/g01359/laws.FnExactImageAlong", spec := "fnExactImageAlong", unfollowed := true, recurses := true, named := ["loop.example/g01359/impl.errNoWord"], ifaces := true, apart := false, laid := [("loop.example/g01359/impl.errNoWord", laid_loop_example_g01359_impl_errNoWord)] }
def FnExactImageAlongSaid : Prop := fnExactImageAlongRow.holds Tryd.pinned (OpenSpec.ofChange fnExactImageAlongSpec)

/-- ITS FALSE NEIGHBOUR: 'it returns false'. Refute it at one input. -/
def fnExactImageAlongWrong : ChangeSpec := { name := "fnExactImageAlong", vars := ["loop.example/g01359/impl.errNoWord"], fn := fun _ => fun
  | [d1, d2, d3, g1] => { results := [.lit (.bool false)], args := [d1, d2, d3], vars := [g1] }
  | _ => none }
def FnExactImageAlongWrongFalsely : Prop := fnExactImageAlongRow.holds Tryd.pinned (OpenSpec.ofChange fnExactImageAlongWrong)

/-- 'laws.FnExactFixedByWord': WHATEVER THE INPUT: true; the input reads as it did. -/
def fnExactFixedByWordSpec : ChangeSpec := { name := "fnExactFixedByWord", vars := ["loop.example/g01359/impl.errNoWord"], fn := fun _ => fun
  | [d1, d2, g1] => { results := [.lit (.bool true)], args := [d1, d2], vars := [g1] }
  | _ => none }
def fnExactFixedByWordRow : OpenClaim := { program := "ythdjajelbpccpaadoor", sum := "8165d16a41cb4dfb4d04eb9d37f6e4ebad8f73eb4b9c86dca04147f5bf551488", func := "loop.example/g01359/laws.FnExactFixedByWord", spec := "fnExactFixedByWord", unfollowed := true, recurses := true, named := ["loop.example/g01359/impl.errNoWord"], ifaces := true, apart := false, laid := [("loop.example/g01359/impl.errNoWord", laid_loop_example_g01359_impl_errNoWord)] }
def FnExactFixedByWordSaid : Prop := fnExactFixedByWordRow.holds Tryd.pinned (OpenSpec.ofChange fnExactFixedByWordSpec)

/-- ITS FALSE NEIGHBOUR: 'it returns false'. Refute it at one input. -/
def fnExactFixedByWordWrong : ChangeSpec := { name := "fnExactFixedByWord", vars := ["loop.example/g01359/impl.errNoWord"], fn := fun _ => fun
  | [d1, d2, g1] => { results := [.lit (.bool false)], args := [d1, d2], vars := [g1] }
  | _ => none }
def FnExactFixedByWordWrongFalsely : Prop := fnExactFixedByWordRow.holds Tryd.pinned (OpenSpec.ofChange fnExactFixedByWordWrong)

/-- 'laws.FnExactAccepts': WHATEVER THE INPUT: true; the input reads as it did. -/
def fnExactAcceptsSpec : ChangeSpec := { name := "fnExactAccepts", vars := ["loop.example/g01359/impl.errNoWord"], fn := fun _ => fun
  | [d1, d2, g1] => { results := [.lit (.bool true)], args := [d1, d2], vars := [g1] }
  | _ => none }
def fnExactAcceptsRow : OpenClaim := { program := "ythdjajelbpccpaadoor", sum := "8165d16a41cb4dfb4d04eb9d37f6e4ebad8f73eb4b9c86dca04147f5bf551488", func := "loop.example/g01359/laws.FnExactAccepts", spec := "fnExactAccepts", unfollowed := true, recurses := true, named := ["loop.example/g01359/impl.errNoWord"], ifaces := true, apart := false, laid := [("loop.example/g01359/impl.errNoWord", laid_loop_example_g01359_impl_errNoWord)] }
def FnExactAcceptsSaid : Prop := fnExactAcceptsRow.holds Tryd.pinned (OpenSpec.ofChange fnExactAcceptsSpec)

/-- ITS FALSE NEIGHBOUR: 'it returns false'. Refute it at one input. -/
def fnExactAcceptsWrong : ChangeSpec := { name := "fnExactAccepts", vars := ["loop.example/g01359/impl.errNoWord"], fn := fun _ => fun
  | [d1, d2, g1] => { results := [.lit (.bool false)], args := [d1, d2], vars := [g1] }
  | _ => none }
def FnExactAcceptsWrongFalsely : Prop := fnExactAcceptsRow.holds Tryd.pinned (OpenSpec.ofChange fnExactAcceptsWrong)

/- THE SECOND FORM. 'bulk': how many values and letters a reading holds, each counted each time it is reached (what is shared counts as often as it is met; a slice's spare places count too). A statement '..UptoSaid' is the law's where the arguments, and the package variables that the reading takes, are together of bulk at most 1048576: NARROWER than '..Said'. Prove '..Said' where nothing that the law and all that it calls make is longer than what came in: it says more and counts as full. Else prove '..UptoSaid'. A law counts once. -/
mutual
def uptoBulk {H : Type} : DataW H → Nat
  | .lit (.string bytes) => bytes.length + 1
  | .lit _ => 1
  | .nil => 1
  | .ptr d => uptoBulk d + 1
  | .slice elems spare => uptoBulkAll elems + uptoBulkAll spare + 1
  | .agg parts => uptoBulkAll parts + 1
  | .iface _ d => uptoBulk d + 1
  | .map entries => uptoBulkEntries entries + 1
  | .held _ => 1
def uptoBulkAll {H : Type} : List (DataW H) → Nat
  | [] => 0
  | d :: r => uptoBulk d + uptoBulkAll r
def uptoBulkEntries {H : Type} : List (Lit × DataW H) → Nat
  | [] => 0
  | x :: r => uptoBulkEntry x + uptoBulkEntries r
def uptoBulkEntry {H : Type} : Lit × DataW H → Nat
  | (.string bytes, d) => bytes.length + uptoBulk d + 1
  | (_, d) => uptoBulk d + 1
 end
def uptoSmall : (H : Type) → List (DataW H) → Bool := fun _ ds => decide (uptoBulkAll ds ≤ 1048576)
def OpenSpec.upto (s : _root_.Go.ChangeSpec) : _root_.Go.OpenSpec := { _root_.Go.OpenSpec.ofChange s with cond := some uptoSmall }

/-- 'laws.FnExactLeadPoint', WHERE WHAT IT READS IS OF BULK AT MOST 1048576: true; the input reads as it did. -/
def fnExactLeadPointUptoRow : OpenClaim := { program := "ythdjajelbpccpaadoor", sum := "8165d16a41cb4dfb4d04eb9d37f6e4ebad8f73eb4b9c86dca04147f5bf551488", func := "loop.example/g01359/laws.FnExactLeadPoint", spec := "fnExactLeadPoint", unfollowed := true, recurses := true, named := ["loop.example/g01359/impl.errNoWord"], ifaces := true, apart := false, laid := [("loop.example/g01359/impl.errNoWord", laid_loop_example_g01359_impl_errNoWord)], narrowed := true }
def FnExactLeadPointUptoSaid : Prop := fnExactLeadPointUptoRow.holds Tryd.pinned (OpenSpec.upto fnExactLeadPointSpec)

/-- 'laws.FnExactRankOfWord', WHERE WHAT IT READS IS OF BULK AT MOST 1048576: true; the input reads as it did. -/
def fnExactRankOfWordUptoRow : OpenClaim := { program := "ythdjajelbpccpaadoor", sum := "8165d16a41cb4dfb4d04eb9d37f6e4ebad8f73eb4b9c86dca04147f5bf551488", func := "loop.example/g01359/laws.FnExactRankOfWord", spec := "fnExactRankOfWord", unfollowed := true, recurses := true, named := ["loop.example/g01359/impl.errNoWord"], ifaces := true, apart := false, laid := [("loop.example/g01359/impl.errNoWord", laid_loop_example_g01359_impl_errNoWord)], narrowed := true }
def FnExactRankOfWordUptoSaid : Prop := fnExactRankOfWordUptoRow.holds Tryd.pinned (OpenSpec.upto fnExactRankOfWordSpec)

/-- 'laws.FnExactImageAlong', WHERE WHAT IT READS IS OF BULK AT MOST 1048576: true; the input reads as it did. -/
def fnExactImageAlongUptoRow : OpenClaim := { program := "ythdjajelbpccpaadoor", sum := "8165d16a41cb4dfb4d04eb9d37f6e4ebad8f73eb4b9c86dca04147f5bf551488", func := "loop.example/g01359/laws.FnExactImageAlong", spec := "fnExactImageAlong", unfollowed := true, recurses := true, named := ["loop.example/g01359/impl.errNoWord"], ifaces := true, apart := false, laid := [("loop.example/g01359/impl.errNoWord", laid_loop_example_g01359_impl_errNoWord)], narrowed := true }
def FnExactImageAlongUptoSaid : Prop := fnExactImageAlongUptoRow.holds Tryd.pinned (OpenSpec.upto fnExactImageAlongSpec)

/-- 'laws.FnExactFixedByWord', WHERE WHAT IT READS IS OF BULK AT MOST 1048576: true; the input reads as it did. -/
def fnExactFixedByWordUptoRow : OpenClaim := { program := "ythdjajelbpccpaadoor", sum := "8165d16a41cb4dfb4d04eb9d37f6e4ebad8f73eb4b9c86dca04147f5bf551488", func := "loop.example/g01359/laws.FnExactFixedByWord", spec := "fnExactFixedByWord", unfollowed := true, recurses := true, named := ["loop.example/g01359/impl.errNoWord"], ifaces := true, apart := false, laid := [("loop.example/g01359/impl.errNoWord", laid_loop_example_g01359_impl_errNoWord)], narrowed := true }
def FnExactFixedByWordUptoSaid : Prop := fnExactFixedByWordUptoRow.holds Tryd.pinned (OpenSpec.upto fnExactFixedByWordSpec)

/-- 'laws.FnExactAccepts', WHERE WHAT IT READS IS OF BULK AT MOST 1048576: true; the input reads as it did. -/
def fnExactAcceptsUptoRow : OpenClaim := { program := "ythdjajelbpccpaadoor", sum := "8165d16a41cb4dfb4d04eb9d37f6e4ebad8f73eb4b9c86dca04147f5bf551488", func := "loop.example/g01359/laws.FnExactAccepts", spec := "fnExactAccepts", unfollowed := true, recurses := true, named := ["loop.example/g01359/impl.errNoWord"], ifaces := true, apart := false, laid := [("loop.example/g01359/impl.errNoWord", laid_loop_example_g01359_impl_errNoWord)], narrowed := true }
def FnExactAcceptsUptoSaid : Prop := fnExactAcceptsUptoRow.holds Tryd.pinned (OpenSpec.upto fnExactAcceptsSpec)

end Rows
end Go.Proofs.YthdjajelbpccpaaDoor
