/-
  NARROWER THAN 'FOR EVERY INPUT', by the rows' own cells (each row's printed sentence says how): FnExactStrongParts: ifaces, laid · FnExactIsTransitive: ifaces, laid · FnExactIsInvariantPartition: ifaces, laid · FnExactInvariantPartitions: ifaces, laid · FnExactIsPrimitive: ifaces, laid · FnExactListOfClasses: ifaces, laid.
  DERIVED. THE GIVEN ROWS OF THIS SEAT. 6 by the template 'for every input the law returns true; each argument reads behind the call as it read before'; 0 by the template 'total and deterministic' (their statements: YtpphihjbgikjkaaDoorTotals.lean).
  GIVEN WITH THE SEED: the statements are not yours to turn. If you find one false, say at which input.
  Laid BY PROGRAM, IN A SANDBOX (cutbox-rows.mjs): the forced cells as the released guide's own fill.sh prints them over the translation 76726a4e1ad9453b… (all of the seat's roots in one cut). By AI agents, Wed Nov 11 2026. No macro, syntax, notation, axiom, sorry.
-/
import Derived.Test.YtpphihjbgikjkaaDoorChecked
import GoSem.Claim
import GoSem.ClaimJoined
import GoSem.ClaimMapViews
import Derived.JoinedTies
import Derived.KernelRfl
namespace Go.Proofs.YtpphihjbgikjkaaDoor
/- THE CELL 'sum', in the pinned program and in every row, IS THE sha256 OF THE DUMP (.gsa) THAT YtpphihjbgikjkaaDoorProg.lean LOADS. Nothing in Lean hashes anything: it is a label: what it is worth is what the hold of that sum in a sandbox is worth. -/
noncomputable def Tryd.pinned : Pinned := { name := "ytpphihjbgikjkaadoor", sum := "76726a4e1ad9453bdec78dc188816669caa45c4a18571e31b820ad4598a44c3c", checked := Tryd.checked }
namespace Rows
def none {H : Type} : Left H := { results := [], args := [] }

/- WHAT THE LISTED PACKAGE-LEVEL VARIABLES READ AS WHEN THE CALL BEGINS. Each datum BY PROGRAM (the guide's laid-datum.mjs) off the statement by which the dump's own 'gosem.cut.vars' lays the variable. In a bare row this is a premise. The card (YtpphihjbgikjkaaDoorCards.lean) ties it to the program's text. -/
def laid_loop_example_g01359_impl_errNoPartition {H : Type} : DataW H := .iface "*errors.errorString" (.ptr (.agg [.lit (.string [116, 104, 101, 32, 110, 117, 109, 98, 101, 114, 115, 32, 97, 114, 101, 32, 110, 111, 32, 112, 97, 114, 116, 105, 116, 105, 111, 110])]))

/-- 'laws.FnExactStrongParts': WHATEVER THE INPUT: true; the input reads as it did. -/
def fnExactStrongPartsSpec : ChangeSpec := { name := "fnExactStrongParts", vars := ["loop.example/g01359/impl.errNoPartition"], fn := fun _ => fun
  | [d, g1] => { results := [.lit (.bool true)], args := [d], vars := [g1] }
  | _ => none }
def fnExactStrongPartsRow : OpenClaim := { program := "ytpphihjbgikjkaadoor", sum := "76726a4e1ad9453bdec78dc188816669caa45c4a18571e31b820ad4598a44c3c", func := "loop.example/g01359/laws.FnExactStrongParts", spec := "fnExactStrongParts", unfollowed := true, recurses := true, named := ["loop.example/g01359/impl.errNoPartition"], ifaces := true, plainKeys := false, apart := false, laid := [("loop.example/g01359/impl.errNoPartition", laid_loop_example_g01359_impl_errNoPartition)] }
def FnExactStrongPartsSaid : Prop := fnExactStrongPartsRow.holds Tryd.pinned (OpenSpec.ofChange fnExactStrongPartsSpec)

/-- ITS FALSE NEIGHBOUR: 'it returns false'. Refute it at one input. -/
def fnExactStrongPartsWrong : ChangeSpec := { name := "fnExactStrongParts", vars := ["loop.example/g01359/impl.errNoPartition"], fn := fun _ => fun
  | [d, g1] => { results := [.lit (.bool false)], args := [d], vars := [g1] }
  | _ => none }
def FnExactStrongPartsWrongFalsely : Prop := fnExactStrongPartsRow.holds Tryd.pinned (OpenSpec.ofChange fnExactStrongPartsWrong)

/-- 'laws.FnExactIsTransitive': WHATEVER THE INPUT: true; the input reads as it did. -/
def fnExactIsTransitiveSpec : ChangeSpec := { name := "fnExactIsTransitive", vars := ["loop.example/g01359/impl.errNoPartition"], fn := fun _ => fun
  | [d, g1] => { results := [.lit (.bool true)], args := [d], vars := [g1] }
  | _ => none }
def fnExactIsTransitiveRow : OpenClaim := { program := "ytpphihjbgikjkaadoor", sum := "76726a4e1ad9453bdec78dc188816669caa45c4a18571e31b820ad4598a44c3c", func := "loop.example/g01359/laws.FnExactIsTransitive", spec := "fnExactIsTransitive", unfollowed := true, recurses := true, named := ["loop.example/g01359/impl.errNoPartition"], ifaces := true, plainKeys := false, apart := false, laid := [("loop.example/g01359/impl.errNoPartition", laid_loop_example_g01359_impl_errNoPartition)] }
def FnExactIsTransitiveSaid : Prop := fnExactIsTransitiveRow.holds Tryd.pinned (OpenSpec.ofChange fnExactIsTransitiveSpec)

/-- ITS FALSE NEIGHBOUR: 'it returns false'. Refute it at one input. -/
def fnExactIsTransitiveWrong : ChangeSpec := { name := "fnExactIsTransitive", vars := ["loop.example/g01359/impl.errNoPartition"], fn := fun _ => fun
  | [d, g1] => { results := [.lit (.bool false)], args := [d], vars := [g1] }
  | _ => none }
def FnExactIsTransitiveWrongFalsely : Prop := fnExactIsTransitiveRow.holds Tryd.pinned (OpenSpec.ofChange fnExactIsTransitiveWrong)

/-- 'laws.FnExactIsInvariantPartition': WHATEVER THE INPUT: true; the input reads as it did. -/
def fnExactIsInvariantPartitionSpec : ChangeSpec := { name := "fnExactIsInvariantPartition", vars := ["loop.example/g01359/impl.errNoPartition"], fn := fun _ => fun
  | [d1, d2, g1] => { results := [.lit (.bool true)], args := [d1, d2], vars := [g1] }
  | _ => none }
def fnExactIsInvariantPartitionRow : OpenClaim := { program := "ytpphihjbgikjkaadoor", sum := "76726a4e1ad9453bdec78dc188816669caa45c4a18571e31b820ad4598a44c3c", func := "loop.example/g01359/laws.FnExactIsInvariantPartition", spec := "fnExactIsInvariantPartition", unfollowed := true, recurses := true, named := ["loop.example/g01359/impl.errNoPartition"], ifaces := true, plainKeys := false, apart := false, laid := [("loop.example/g01359/impl.errNoPartition", laid_loop_example_g01359_impl_errNoPartition)] }
def FnExactIsInvariantPartitionSaid : Prop := fnExactIsInvariantPartitionRow.holds Tryd.pinned (OpenSpec.ofChange fnExactIsInvariantPartitionSpec)

/-- ITS FALSE NEIGHBOUR: 'it returns false'. Refute it at one input. -/
def fnExactIsInvariantPartitionWrong : ChangeSpec := { name := "fnExactIsInvariantPartition", vars := ["loop.example/g01359/impl.errNoPartition"], fn := fun _ => fun
  | [d1, d2, g1] => { results := [.lit (.bool false)], args := [d1, d2], vars := [g1] }
  | _ => none }
def FnExactIsInvariantPartitionWrongFalsely : Prop := fnExactIsInvariantPartitionRow.holds Tryd.pinned (OpenSpec.ofChange fnExactIsInvariantPartitionWrong)

/-- 'laws.FnExactInvariantPartitions': WHATEVER THE INPUT: true; the input reads as it did. -/
def fnExactInvariantPartitionsSpec : ChangeSpec := { name := "fnExactInvariantPartitions", vars := ["loop.example/g01359/impl.errNoPartition"], fn := fun _ => fun
  | [d, g1] => { results := [.lit (.bool true)], args := [d], vars := [g1] }
  | _ => none }
def fnExactInvariantPartitionsRow : OpenClaim := { program := "ytpphihjbgikjkaadoor", sum := "76726a4e1ad9453bdec78dc188816669caa45c4a18571e31b820ad4598a44c3c", func := "loop.example/g01359/laws.FnExactInvariantPartitions", spec := "fnExactInvariantPartitions", unfollowed := true, recurses := true, named := ["loop.example/g01359/impl.errNoPartition"], ifaces := true, plainKeys := false, apart := false, laid := [("loop.example/g01359/impl.errNoPartition", laid_loop_example_g01359_impl_errNoPartition)] }
def FnExactInvariantPartitionsSaid : Prop := fnExactInvariantPartitionsRow.holds Tryd.pinned (OpenSpec.ofChange fnExactInvariantPartitionsSpec)

/-- ITS FALSE NEIGHBOUR: 'it returns false'. Refute it at one input. -/
def fnExactInvariantPartitionsWrong : ChangeSpec := { name := "fnExactInvariantPartitions", vars := ["loop.example/g01359/impl.errNoPartition"], fn := fun _ => fun
  | [d, g1] => { results := [.lit (.bool false)], args := [d], vars := [g1] }
  | _ => none }
def FnExactInvariantPartitionsWrongFalsely : Prop := fnExactInvariantPartitionsRow.holds Tryd.pinned (OpenSpec.ofChange fnExactInvariantPartitionsWrong)

/-- 'laws.FnExactIsPrimitive': WHATEVER THE INPUT: true; the input reads as it did. -/
def fnExactIsPrimitiveSpec : ChangeSpec := { name := "fnExactIsPrimitive", vars := ["loop.example/g01359/impl.errNoPartition"], fn := fun _ => fun
  | [d, g1] => { results := [.lit (.bool true)], args := [d], vars := [g1] }
  | _ => none }
def fnExactIsPrimitiveRow : OpenClaim := { program := "ytpphihjbgikjkaadoor", sum := "76726a4e1ad9453bdec78dc188816669caa45c4a18571e31b820ad4598a44c3c", func := "loop.example/g01359/laws.FnExactIsPrimitive", spec := "fnExactIsPrimitive", unfollowed := true, recurses := true, named := ["loop.example/g01359/impl.errNoPartition"], ifaces := true, plainKeys := false, apart := false, laid := [("loop.example/g01359/impl.errNoPartition", laid_loop_example_g01359_impl_errNoPartition)] }
def FnExactIsPrimitiveSaid : Prop := fnExactIsPrimitiveRow.holds Tryd.pinned (OpenSpec.ofChange fnExactIsPrimitiveSpec)

/-- ITS FALSE NEIGHBOUR: 'it returns false'. Refute it at one input. -/
def fnExactIsPrimitiveWrong : ChangeSpec := { name := "fnExactIsPrimitive", vars := ["loop.example/g01359/impl.errNoPartition"], fn := fun _ => fun
  | [d, g1] => { results := [.lit (.bool false)], args := [d], vars := [g1] }
  | _ => none }
def FnExactIsPrimitiveWrongFalsely : Prop := fnExactIsPrimitiveRow.holds Tryd.pinned (OpenSpec.ofChange fnExactIsPrimitiveWrong)

/-- 'laws.FnExactListOfClasses': WHATEVER THE INPUT: true; the input reads as it did. -/
def fnExactListOfClassesSpec : ChangeSpec := { name := "fnExactListOfClasses", vars := ["loop.example/g01359/impl.errNoPartition"], fn := fun _ => fun
  | [d1, d2, g1] => { results := [.lit (.bool true)], args := [d1, d2], vars := [g1] }
  | _ => none }
def fnExactListOfClassesRow : OpenClaim := { program := "ytpphihjbgikjkaadoor", sum := "76726a4e1ad9453bdec78dc188816669caa45c4a18571e31b820ad4598a44c3c", func := "loop.example/g01359/laws.FnExactListOfClasses", spec := "fnExactListOfClasses", unfollowed := true, recurses := true, named := ["loop.example/g01359/impl.errNoPartition"], ifaces := true, plainKeys := false, apart := false, laid := [("loop.example/g01359/impl.errNoPartition", laid_loop_example_g01359_impl_errNoPartition)] }
def FnExactListOfClassesSaid : Prop := fnExactListOfClassesRow.holds Tryd.pinned (OpenSpec.ofChange fnExactListOfClassesSpec)

/-- ITS FALSE NEIGHBOUR: 'it returns false'. Refute it at one input. -/
def fnExactListOfClassesWrong : ChangeSpec := { name := "fnExactListOfClasses", vars := ["loop.example/g01359/impl.errNoPartition"], fn := fun _ => fun
  | [d1, d2, g1] => { results := [.lit (.bool false)], args := [d1, d2], vars := [g1] }
  | _ => none }
def FnExactListOfClassesWrongFalsely : Prop := fnExactListOfClassesRow.holds Tryd.pinned (OpenSpec.ofChange fnExactListOfClassesWrong)

/- THE SECOND FORM. 'bulk': how many values and letters a reading holds, each counted each time it is reached (what is shared counts as often as it is met; a slice's spare places count too). A statement '..UptoSaid' is the law's where the arguments, and the package variables that the reading takes, are together of bulk at most 1048576: NARROWER than '..Said'. Prove '..Said' where nothing that the law and all that it calls make is longer than what came in: it says more and counts as full. Else prove '..UptoSaid'. A law counts once. -/
mutual
def uptoBulk {H : Type} : DataW H → Nat
  | .lit (.string bytes) => bytes.length + 1
  | .lit _ => 1
  | .nil => 1
  | .ptr d => uptoBulk d + 1
  | .slice elems spare => uptoBulkAll elems + uptoBulkAll spare + 1
  | .agg parts => uptoBulkAll parts + 1
  | .iface _ d => uptoBulk d + 1
  | .map entries => uptoBulkEntries entries + 1
  | .held _ => 1
def uptoBulkAll {H : Type} : List (DataW H) → Nat
  | [] => 0
  | d :: r => uptoBulk d + uptoBulkAll r
def uptoBulkEntries {H : Type} : List (Lit × DataW H) → Nat
  | [] => 0
  | x :: r => uptoBulkEntry x + uptoBulkEntries r
def uptoBulkEntry {H : Type} : Lit × DataW H → Nat
  | (.string bytes, d) => bytes.length + uptoBulk d + 1
  | (_, d) => uptoBulk d + 1
 end
def uptoSmall : (H : Type) → List (DataW H) → Bool := fun _ ds => decide (uptoBulkAll ds ≤ 1048576)
def OpenSpec.upto (s : _root_.Go.ChangeSpec) : _root_.Go.OpenSpec := { _root_.Go.OpenSpec.ofChange s with cond := some uptoSmall }

/-- 'laws.FnExactStrongParts', WHERE WHAT IT READS IS OF BULK AT MOST 1048576: true; the input reads as it did. -/
def fnExactStrongPartsUptoRow : OpenClaim := { program := "ytpphihjbgikjkaadoor", sum := "76726a4e1ad9453bdec78dc188816669caa45c4a18571e31b820ad4598a44c3c", func := "loop.example/g01359/laws.FnExactStrongParts", spec := "fnExactStrongParts", unfollowed := true, recurses := true, named := ["loop.example/g01359/impl.errNoPartition"], ifaces := true, plainKeys := false, apart := false, laid := [("loop.example/g01359/impl.errNoPartition", laid_loop_example_g01359_impl_errNoPartition)], narrowed := true }
def FnExactStrongPartsUptoSaid : Prop := fnExactStrongPartsUptoRow.holds Tryd.pinned (OpenSpec.upto fnExactStrongPartsSpec)

/-- 'laws.FnExactIsTransitive', WHERE WHAT IT READS IS OF BULK AT MOST 1048576: true; the input reads as it did. -/
def fnExactIsTransitiveUptoRow : OpenClaim := { program := "ytpphihjbgikjkaadoor", sum := "76726a4e1ad9453bdec78dc188816669caa45c4a18571e31b820ad4598a44c3c", func := "loop.example/g01359/laws.FnExactIsTransitive", spec := "fnExactIsTransitive", unfollowed := true, recurses := true, named := ["loop.example/g01359/impl.errNoPartition"], ifaces := true, plainKeys := false, apart := false, laid := [("loop.example/g01359/impl.errNoPartition", laid_loop_example_g01359_impl_errNoPartition)], narrowed := true }
def FnExactIsTransitiveUptoSaid : Prop := fnExactIsTransitiveUptoRow.holds Tryd.pinned (OpenSpec.upto fnExactIsTransitiveSpec)

/-- 'laws.FnExactIsInvariantPartition', WHERE WHAT IT READS IS OF BULK AT MOST 1048576: true; the input reads as it did. -/
def fnExactIsInvariantPartitionUptoRow : OpenClaim := { program := "ytpphihjbgikjkaadoor", sum := "76726a4e1ad9453bdec78dc188816669caa45c4a18571e31b820ad4598a44c3c", func := "loop.example/g01359/laws.FnExactIsInvariantPartition", spec := "fnExactIsInvariantPartition", unfollowed := true, recurses := true, named := ["loop.example/g01359/impl.errNoPartition"], ifaces := true, plainKeys := false, apart := false, laid := [("loop.example/g01359/impl.errNoPartition", laid_loop_example_g01359_impl_errNoPartition)], narrowed := true }
def FnExactIsInvariantPartitionUptoSaid : Prop := fnExactIsInvariantPartitionUptoRow.holds Tryd.pinned (OpenSpec.upto fnExactIsInvariantPartitionSpec)

/-- 'laws.FnExactInvariantPartitions', WHERE WHAT IT READS IS OF BULK AT MOST 1048576: true; the input reads as it did. -/
def fnExactInvariantPartitionsUptoRow : OpenClaim := { program := "ytpphihjbgikjkaadoor", sum := "76726a4e1ad9453bdec78dc188816669caa45c4a18571e31b820ad4598a44c3c", func := "loop.example/g01359/laws.FnExactInvariantPartitions", spec := "fnExactInvariantPartitions", unfollowed := true, recurses := true, named := ["loop.example/g01359/impl.errNoPartition"], ifaces := true, plainKeys := false, apart := false, laid := [("loop.example/g01359/impl.errNoPartition", laid_loop_example_g01359_impl_errNoPartition)], narrowed := true }
def FnExactInvariantPartitionsUptoSaid : Prop := fnExactInvariantPartitionsUptoRow.holds Tryd.pinned (OpenSpec.upto fnExactInvariantPartitionsSpec)

/-- 'laws.FnExactIsPrimitive', WHERE WHAT IT READS IS OF BULK AT MOST 1048576: true; the input reads as it did. -/
def fnExactIsPrimitiveUptoRow : OpenClaim := { program := "ytpphihjbgikjkaadoor", sum := "76726a4e1ad9453bdec78dc188816669caa45c4a18571e31b820ad4598a44c3c", func := "loop.example/g01359/laws.FnExactIsPrimitive", spec := "fnExactIsPrimitive", unfollowed := true, recurses := true, named := ["loop.example/g01359/impl.errNoPartition"], ifaces := true, plainKeys := false, apart := false, laid := [("loop.example/g01359/impl.errNoPartition", laid_loop_example_g01359_impl_errNoPartition)], narrowed := true }
def FnExactIsPrimitiveUptoSaid : Prop := fnExactIsPrimitiveUptoRow.holds Tryd.pinned (OpenSpec.upto fnExactIsPrimitiveSpec)

/-- 'laws.FnExactListOfClasses', WHERE WHAT IT READS IS OF BULK AT MOST 1048576: true; the input reads as it did. -/
def fnExactListOfClassesUptoRow : OpenClaim := { program := "ytpphihjbgikjkaadoor", sum := "76726a4e1ad9453bdec78dc188816669caa45c4a18571e31b820ad4598a44c3c", func := "loop.example/g01359/laws.FnExactListOfClasses", spec := "fnExactListOfClasses", unfollowed := true, recurses := true, named := ["loop.example/g01359/impl.errNoPartition"], ifaces := true, plainKeys := false, apart := false, laid := [("loop.example/g01359/impl.errNoPartition", laid_loop_example_g01359_impl_errNoPartition)], narrowed := true }
def FnExactListOfClassesUptoSaid : Prop := fnExactListOfClassesUptoRow.holds Tryd.pinned (OpenSpec.upto fnExactListOfClassesSpec)

end Rows
end Go.Proofs.YtpphihjbgikjkaaDoor
