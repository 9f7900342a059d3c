/-
  No cell of these rows narrows 'for every input' (looked for: loops, veiled, ifaces, maps, wideKeys, modest, calm, conditions, laid).
  DERIVED. THE GIVEN ROWS OF THIS SEAT. 10 by the template 'for every input the law returns true; each argument reads behind the call as it read before'; 0 by the template 'total and deterministic' (their statements: YtoagpklippdlmaaTotals.lean).
  GIVEN WITH THE SEED: the statements are not yours to turn. If you find one false, say at which input.
  Laid BY PROGRAM, IN A SANDBOX (cutbox-rows.mjs): the forced cells as the released guide's own fill.sh prints them over the translation 9da21e00c223d01c… (all of the seat's roots in one cut). By AI agents, Wed Nov 11 2026. No macro, syntax, notation, axiom, sorry.
-/
import Derived.Test.YtoagpklippdlmaaChecked
import GoSem.Claim
import GoSem.ClaimJoined
import GoSem.ClaimMapViews
import Derived.JoinedTies
import Derived.KernelRfl
namespace Go.Proofs.Ytoagpklippdlmaa
/- THE CELL 'sum', in the pinned program and in every row, IS THE sha256 OF THE DUMP (.gsa) THAT YtoagpklippdlmaaProg.lean LOADS. Nothing in Lean hashes anything: it is a label: what it is worth is what the hold of that sum in a sandbox is worth. -/
noncomputable def Try.pinned : Pinned := { name := "ytoagpklippdlmaa", sum := "9da21e00c223d01cc6fe60e2462360ef6685024dffee8c0b91a2b8505115692b", checked := Try.checked }
namespace Rows
def none {H : Type} : Left H := { results := [], args := [] }

/-- 'laws.FnExactRightCongruence': WHATEVER THE INPUT: true; the input reads as it did. -/
def fnExactRightCongruenceSpec : ChangeSpec := { name := "fnExactRightCongruence", fn := fun _ => fun
  | [d1, d2] => { results := [.lit (.bool true)], args := [d1, d2] }
  | _ => none }
def fnExactRightCongruenceRow : OpenClaim := { program := "ytoagpklippdlmaa", sum := "9da21e00c223d01cc6fe60e2462360ef6685024dffee8c0b91a2b8505115692b", func := "loop.example/g01359/laws.FnExactRightCongruence", spec := "fnExactRightCongruence", unfollowed := true, recurses := true, plainKeys := false, apart := false }
def FnExactRightCongruenceSaid : Prop := fnExactRightCongruenceRow.holds Try.pinned (OpenSpec.ofChange fnExactRightCongruenceSpec)

/-- ITS FALSE NEIGHBOUR: 'it returns false'. Refute it at one input. -/
def fnExactRightCongruenceWrong : ChangeSpec := { name := "fnExactRightCongruence", fn := fun _ => fun
  | [d1, d2] => { results := [.lit (.bool false)], args := [d1, d2] }
  | _ => none }
def FnExactRightCongruenceWrongFalsely : Prop := fnExactRightCongruenceRow.holds Try.pinned (OpenSpec.ofChange fnExactRightCongruenceWrong)

/-- 'laws.FnExactCongruenceOf': WHATEVER THE INPUT: true; the input reads as it did. -/
def fnExactCongruenceOfSpec : ChangeSpec := { name := "fnExactCongruenceOf", fn := fun _ => fun
  | [d1, d2] => { results := [.lit (.bool true)], args := [d1, d2] }
  | _ => none }
def fnExactCongruenceOfRow : OpenClaim := { program := "ytoagpklippdlmaa", sum := "9da21e00c223d01cc6fe60e2462360ef6685024dffee8c0b91a2b8505115692b", func := "loop.example/g01359/laws.FnExactCongruenceOf", spec := "fnExactCongruenceOf", unfollowed := true, recurses := true, plainKeys := false, apart := false }
def FnExactCongruenceOfSaid : Prop := fnExactCongruenceOfRow.holds Try.pinned (OpenSpec.ofChange fnExactCongruenceOfSpec)

/-- ITS FALSE NEIGHBOUR: 'it returns false'. Refute it at one input. -/
def fnExactCongruenceOfWrong : ChangeSpec := { name := "fnExactCongruenceOf", fn := fun _ => fun
  | [d1, d2] => { results := [.lit (.bool false)], args := [d1, d2] }
  | _ => none }
def FnExactCongruenceOfWrongFalsely : Prop := fnExactCongruenceOfRow.holds Try.pinned (OpenSpec.ofChange fnExactCongruenceOfWrong)

/-- 'laws.FnExactIsRightCongruence': WHATEVER THE INPUT: true; the input reads as it did. -/
def fnExactIsRightCongruenceSpec : ChangeSpec := { name := "fnExactIsRightCongruence", fn := fun _ => fun
  | [d1, d2] => { results := [.lit (.bool true)], args := [d1, d2] }
  | _ => none }
def fnExactIsRightCongruenceRow : OpenClaim := { program := "ytoagpklippdlmaa", sum := "9da21e00c223d01cc6fe60e2462360ef6685024dffee8c0b91a2b8505115692b", func := "loop.example/g01359/laws.FnExactIsRightCongruence", spec := "fnExactIsRightCongruence", unfollowed := true, recurses := true, plainKeys := false, apart := false }
def FnExactIsRightCongruenceSaid : Prop := fnExactIsRightCongruenceRow.holds Try.pinned (OpenSpec.ofChange fnExactIsRightCongruenceSpec)

/-- ITS FALSE NEIGHBOUR: 'it returns false'. Refute it at one input. -/
def fnExactIsRightCongruenceWrong : ChangeSpec := { name := "fnExactIsRightCongruence", fn := fun _ => fun
  | [d1, d2] => { results := [.lit (.bool false)], args := [d1, d2] }
  | _ => none }
def FnExactIsRightCongruenceWrongFalsely : Prop := fnExactIsRightCongruenceRow.holds Try.pinned (OpenSpec.ofChange fnExactIsRightCongruenceWrong)

/-- 'laws.FnExactIsCongruence': WHATEVER THE INPUT: true; the input reads as it did. -/
def fnExactIsCongruenceSpec : ChangeSpec := { name := "fnExactIsCongruence", fn := fun _ => fun
  | [d1, d2] => { results := [.lit (.bool true)], args := [d1, d2] }
  | _ => none }
def fnExactIsCongruenceRow : OpenClaim := { program := "ytoagpklippdlmaa", sum := "9da21e00c223d01cc6fe60e2462360ef6685024dffee8c0b91a2b8505115692b", func := "loop.example/g01359/laws.FnExactIsCongruence", spec := "fnExactIsCongruence", unfollowed := true, recurses := true, plainKeys := false, apart := false }
def FnExactIsCongruenceSaid : Prop := fnExactIsCongruenceRow.holds Try.pinned (OpenSpec.ofChange fnExactIsCongruenceSpec)

/-- ITS FALSE NEIGHBOUR: 'it returns false'. Refute it at one input. -/
def fnExactIsCongruenceWrong : ChangeSpec := { name := "fnExactIsCongruence", fn := fun _ => fun
  | [d1, d2] => { results := [.lit (.bool false)], args := [d1, d2] }
  | _ => none }
def FnExactIsCongruenceWrongFalsely : Prop := fnExactIsCongruenceRow.holds Try.pinned (OpenSpec.ofChange fnExactIsCongruenceWrong)

/-- 'laws.FnExactJoinCongruences': WHATEVER THE INPUT: true; the input reads as it did. -/
def fnExactJoinCongruencesSpec : ChangeSpec := { name := "fnExactJoinCongruences", fn := fun _ => fun
  | [d1, d2, d3] => { results := [.lit (.bool true)], args := [d1, d2, d3] }
  | _ => none }
def fnExactJoinCongruencesRow : OpenClaim := { program := "ytoagpklippdlmaa", sum := "9da21e00c223d01cc6fe60e2462360ef6685024dffee8c0b91a2b8505115692b", func := "loop.example/g01359/laws.FnExactJoinCongruences", spec := "fnExactJoinCongruences", unfollowed := true, recurses := true, plainKeys := false, apart := false }
def FnExactJoinCongruencesSaid : Prop := fnExactJoinCongruencesRow.holds Try.pinned (OpenSpec.ofChange fnExactJoinCongruencesSpec)

/-- ITS FALSE NEIGHBOUR: 'it returns false'. Refute it at one input. -/
def fnExactJoinCongruencesWrong : ChangeSpec := { name := "fnExactJoinCongruences", fn := fun _ => fun
  | [d1, d2, d3] => { results := [.lit (.bool false)], args := [d1, d2, d3] }
  | _ => none }
def FnExactJoinCongruencesWrongFalsely : Prop := fnExactJoinCongruencesRow.holds Try.pinned (OpenSpec.ofChange fnExactJoinCongruencesWrong)

/-- 'laws.FnExactMeetCongruences': WHATEVER THE INPUT: true; the input reads as it did. -/
def fnExactMeetCongruencesSpec : ChangeSpec := { name := "fnExactMeetCongruences", fn := fun _ => fun
  | [d1, d2, d3] => { results := [.lit (.bool true)], args := [d1, d2, d3] }
  | _ => none }
def fnExactMeetCongruencesRow : OpenClaim := { program := "ytoagpklippdlmaa", sum := "9da21e00c223d01cc6fe60e2462360ef6685024dffee8c0b91a2b8505115692b", func := "loop.example/g01359/laws.FnExactMeetCongruences", spec := "fnExactMeetCongruences", unfollowed := true, recurses := true, plainKeys := false, apart := false }
def FnExactMeetCongruencesSaid : Prop := fnExactMeetCongruencesRow.holds Try.pinned (OpenSpec.ofChange fnExactMeetCongruencesSpec)

/-- ITS FALSE NEIGHBOUR: 'it returns false'. Refute it at one input. -/
def fnExactMeetCongruencesWrong : ChangeSpec := { name := "fnExactMeetCongruences", fn := fun _ => fun
  | [d1, d2, d3] => { results := [.lit (.bool false)], args := [d1, d2, d3] }
  | _ => none }
def FnExactMeetCongruencesWrongFalsely : Prop := fnExactMeetCongruencesRow.holds Try.pinned (OpenSpec.ofChange fnExactMeetCongruencesWrong)

/-- 'laws.FnExactQuotientTable': WHATEVER THE INPUT: true; the input reads as it did. -/
def fnExactQuotientTableSpec : ChangeSpec := { name := "fnExactQuotientTable", fn := fun _ => fun
  | [d1, d2] => { results := [.lit (.bool true)], args := [d1, d2] }
  | _ => none }
def fnExactQuotientTableRow : OpenClaim := { program := "ytoagpklippdlmaa", sum := "9da21e00c223d01cc6fe60e2462360ef6685024dffee8c0b91a2b8505115692b", func := "loop.example/g01359/laws.FnExactQuotientTable", spec := "fnExactQuotientTable", unfollowed := true, recurses := true, plainKeys := false, apart := false }
def FnExactQuotientTableSaid : Prop := fnExactQuotientTableRow.holds Try.pinned (OpenSpec.ofChange fnExactQuotientTableSpec)

/-- ITS FALSE NEIGHBOUR: 'it returns false'. Refute it at one input. -/
def fnExactQuotientTableWrong : ChangeSpec := { name := "fnExactQuotientTable", fn := fun _ => fun
  | [d1, d2] => { results := [.lit (.bool false)], args := [d1, d2] }
  | _ => none }
def FnExactQuotientTableWrongFalsely : Prop := fnExactQuotientTableRow.holds Try.pinned (OpenSpec.ofChange fnExactQuotientTableWrong)

/-- 'laws.FnExactTableOf': WHATEVER THE INPUT: true; the input reads as it did. -/
def fnExactTableOfSpec : ChangeSpec := { name := "fnExactTableOf", fn := fun _ => fun
  | [d] => { results := [.lit (.bool true)], args := [d] }
  | _ => none }
def fnExactTableOfRow : OpenClaim := { program := "ytoagpklippdlmaa", sum := "9da21e00c223d01cc6fe60e2462360ef6685024dffee8c0b91a2b8505115692b", func := "loop.example/g01359/laws.FnExactTableOf", spec := "fnExactTableOf", unfollowed := true, recurses := true, plainKeys := false, apart := false }
def FnExactTableOfSaid : Prop := fnExactTableOfRow.holds Try.pinned (OpenSpec.ofChange fnExactTableOfSpec)

/-- ITS FALSE NEIGHBOUR: 'it returns false'. Refute it at one input. -/
def fnExactTableOfWrong : ChangeSpec := { name := "fnExactTableOf", fn := fun _ => fun
  | [d] => { results := [.lit (.bool false)], args := [d] }
  | _ => none }
def FnExactTableOfWrongFalsely : Prop := fnExactTableOfRow.holds Try.pinned (OpenSpec.ofChange fnExactTableOfWrong)

/-- 'laws.FnExactFindIsomorphism': WHATEVER THE INPUT: true; the input reads as it did. -/
def fnExactFindIsomorphismSpec : ChangeSpec := { name := "fnExactFindIsomorphism", fn := fun _ => fun
  | [d1, d2] => { results := [.lit (.bool true)], args := [d1, d2] }
  | _ => none }
def fnExactFindIsomorphismRow : OpenClaim := { program := "ytoagpklippdlmaa", sum := "9da21e00c223d01cc6fe60e2462360ef6685024dffee8c0b91a2b8505115692b", func := "loop.example/g01359/laws.FnExactFindIsomorphism", spec := "fnExactFindIsomorphism", unfollowed := true, recurses := true, plainKeys := false, apart := false }
def FnExactFindIsomorphismSaid : Prop := fnExactFindIsomorphismRow.holds Try.pinned (OpenSpec.ofChange fnExactFindIsomorphismSpec)

/-- ITS FALSE NEIGHBOUR: 'it returns false'. Refute it at one input. -/
def fnExactFindIsomorphismWrong : ChangeSpec := { name := "fnExactFindIsomorphism", fn := fun _ => fun
  | [d1, d2] => { results := [.lit (.bool false)], args := [d1, d2] }
  | _ => none }
def FnExactFindIsomorphismWrongFalsely : Prop := fnExactFindIsomorphismRow.holds Try.pinned (OpenSpec.ofChange fnExactFindIsomorphismWrong)

/-- 'laws.FnExactCountTableSymmetries': WHATEVER THE INPUT: true; the input reads as it did. -/
def fnExactCountTableSymmetriesSpec : ChangeSpec := { name := "fnExactCountTableSymmetries", fn := fun _ => fun
  | [d] => { results := [.lit (.bool true)], args := [d] }
  | _ => none }
def fnExactCountTableSymmetriesRow : OpenClaim := { program := "ytoagpklippdlmaa", sum := "9da21e00c223d01cc6fe60e2462360ef6685024dffee8c0b91a2b8505115692b", func := "loop.example/g01359/laws.FnExactCountTableSymmetries", spec := "fnExactCountTableSymmetries", recurses := true, plainKeys := false, apart := false }
def FnExactCountTableSymmetriesSaid : Prop := fnExactCountTableSymmetriesRow.holds Try.pinned (OpenSpec.ofChange fnExactCountTableSymmetriesSpec)

/-- ITS FALSE NEIGHBOUR: 'it returns false'. Refute it at one input. -/
def fnExactCountTableSymmetriesWrong : ChangeSpec := { name := "fnExactCountTableSymmetries", fn := fun _ => fun
  | [d] => { results := [.lit (.bool false)], args := [d] }
  | _ => none }
def FnExactCountTableSymmetriesWrongFalsely : Prop := fnExactCountTableSymmetriesRow.holds Try.pinned (OpenSpec.ofChange fnExactCountTableSymmetriesWrong)

/- THE SECOND FORM. 'bulk': how many values and letters a reading holds, each counted each time it is reached (what is shared counts as often as it is met; a slice's spare places count too). A statement '..UptoSaid' is the law's where the arguments, and the package variables that the reading takes, are together of bulk at most 1048576: NARROWER than '..Said'. Prove '..Said' where nothing that the law and all that it calls make is longer than what came in: it says more and counts as full. Else prove '..UptoSaid'. A law counts once. -/
mutual
def uptoBulk {H : Type} : DataW H → Nat
  | .lit (.string bytes) => bytes.length + 1
  | .lit _ => 1
  | .nil => 1
  | .ptr d => uptoBulk d + 1
  | .slice elems spare => uptoBulkAll elems + uptoBulkAll spare + 1
  | .agg parts => uptoBulkAll parts + 1
  | .iface _ d => uptoBulk d + 1
  | .map entries => uptoBulkEntries entries + 1
  | .held _ => 1
def uptoBulkAll {H : Type} : List (DataW H) → Nat
  | [] => 0
  | d :: r => uptoBulk d + uptoBulkAll r
def uptoBulkEntries {H : Type} : List (Lit × DataW H) → Nat
  | [] => 0
  | x :: r => uptoBulkEntry x + uptoBulkEntries r
def uptoBulkEntry {H : Type} : Lit × DataW H → Nat
  | (.string bytes, d) => bytes.length + uptoBulk d + 1
  | (_, d) => uptoBulk d + 1
 end
def uptoSmall : (H : Type) → List (DataW H) → Bool := fun _ ds => decide (uptoBulkAll ds ≤ 1048576)
def OpenSpec.upto (s : _root_.Go.ChangeSpec) : _root_.Go.OpenSpec := { _root_.Go.OpenSpec.ofChange s with cond := some uptoSmall }

/-- 'laws.FnExactRightCongruence', WHERE WHAT IT READS IS OF BULK AT MOST 1048576: true; the input reads as it did. -/
def fnExactRightCongruenceUptoRow : OpenClaim := { program := "ytoagpklippdlmaa", sum := "9da21e00c223d01cc6fe60e2462360ef6685024dffee8c0b91a2b8505115692b", func := "loop.example/g01359/laws.FnExactRightCongruence", spec := "fnExactRightCongruence", unfollowed := true, recurses := true, plainKeys := false, apart := false, narrowed := true }
def FnExactRightCongruenceUptoSaid : Prop := fnExactRightCongruenceUptoRow.holds Try.pinned (OpenSpec.upto fnExactRightCongruenceSpec)

/-- 'laws.FnExactCongruenceOf', WHERE WHAT IT READS IS OF BULK AT MOST 1048576: true; the input reads as it did. -/
def fnExactCongruenceOfUptoRow : OpenClaim := { program := "ytoagpklippdlmaa", sum := "9da21e00c223d01cc6fe60e2462360ef6685024dffee8c0b91a2b8505115692b", func := "loop.example/g01359/laws.FnExactCongruenceOf", spec := "fnExactCongruenceOf", unfollowed := true, recurses := true, plainKeys := false, apart := false, narrowed := true }
def FnExactCongruenceOfUptoSaid : Prop := fnExactCongruenceOfUptoRow.holds Try.pinned (OpenSpec.upto fnExactCongruenceOfSpec)

/-- 'laws.FnExactIsRightCongruence', WHERE WHAT IT READS IS OF BULK AT MOST 1048576: true; the input reads as it did. -/
def fnExactIsRightCongruenceUptoRow : OpenClaim := { program := "ytoagpklippdlmaa", sum := "9da21e00c223d01cc6fe60e2462360ef6685024dffee8c0b91a2b8505115692b", func := "loop.example/g01359/laws.FnExactIsRightCongruence", spec := "fnExactIsRightCongruence", unfollowed := true, recurses := true, plainKeys := false, apart := false, narrowed := true }
def FnExactIsRightCongruenceUptoSaid : Prop := fnExactIsRightCongruenceUptoRow.holds Try.pinned (OpenSpec.upto fnExactIsRightCongruenceSpec)

/-- 'laws.FnExactIsCongruence', WHERE WHAT IT READS IS OF BULK AT MOST 1048576: true; the input reads as it did. -/
def fnExactIsCongruenceUptoRow : OpenClaim := { program := "ytoagpklippdlmaa", sum := "9da21e00c223d01cc6fe60e2462360ef6685024dffee8c0b91a2b8505115692b", func := "loop.example/g01359/laws.FnExactIsCongruence", spec := "fnExactIsCongruence", unfollowed := true, recurses := true, plainKeys := false, apart := false, narrowed := true }
def FnExactIsCongruenceUptoSaid : Prop := fnExactIsCongruenceUptoRow.holds Try.pinned (OpenSpec.upto fnExactIsCongruenceSpec)

/-- 'laws.FnExactJoinCongruences', WHERE WHAT IT READS IS OF BULK AT MOST 1048576: true; the input reads as it did. -/
def fnExactJoinCongruencesUptoRow : OpenClaim := { program := "ytoagpklippdlmaa", sum := "9da21e00c223d01cc6fe60e2462360ef6685024dffee8c0b91a2b8505115692b", func := "loop.example/g01359/laws.FnExactJoinCongruences", spec := "fnExactJoinCongruences", unfollowed := true, recurses := true, plainKeys := false, apart := false, narrowed := true }
def FnExactJoinCongruencesUptoSaid : Prop := fnExactJoinCongruencesUptoRow.holds Try.pinned (OpenSpec.upto fnExactJoinCongruencesSpec)

/-- 'laws.FnExactMeetCongruences', WHERE WHAT IT READS IS OF BULK AT MOST 1048576: true; the input reads as it did. -/
def fnExactMeetCongruencesUptoRow : OpenClaim := { program := "ytoagpklippdlmaa", sum := "9da21e00c223d01cc6fe60e2462360ef6685024dffee8c0b91a2b8505115692b", func := "loop.example/g01359/laws.FnExactMeetCongruences", spec := "fnExactMeetCongruences", unfollowed := true, recurses := true, plainKeys := false, apart := false, narrowed := true }
def FnExactMeetCongruencesUptoSaid : Prop := fnExactMeetCongruencesUptoRow.holds Try.pinned (OpenSpec.upto fnExactMeetCongruencesSpec)

/-- 'laws.FnExactQuotientTable', WHERE WHAT IT READS IS OF BULK AT MOST 1048576: true; the input reads as it did. -/
def fnExactQuotientTableUptoRow : OpenClaim := { program := "ytoagpklippdlmaa", sum := "9da21e00c223d01cc6fe60e2462360ef6685024dffee8c0b91a2b8505115692b", func := "loop.example/g01359/laws.FnExactQuotientTable", spec := "fnExactQuotientTable", unfollowed := true, recurses := true, plainKeys := false, apart := false, narrowed := true }
def FnExactQuotientTableUptoSaid : Prop := fnExactQuotientTableUptoRow.holds Try.pinned (OpenSpec.upto fnExactQuotientTableSpec)

/-- 'laws.FnExactTableOf', WHERE WHAT IT READS IS OF BULK AT MOST 1048576: true; the input reads as it did. -/
def fnExactTableOfUptoRow : OpenClaim := { program := "ytoagpklippdlmaa", sum := "9da21e00c223d01cc6fe60e2462360ef6685024dffee8c0b91a2b8505115692b", func := "loop.example/g01359/laws.FnExactTableOf", spec := "fnExactTableOf", unfollowed := true, recurses := true, plainKeys := false, apart := false, narrowed := true }
def FnExactTableOfUptoSaid : Prop := fnExactTableOfUptoRow.holds Try.pinned (OpenSpec.upto fnExactTableOfSpec)

/-- 'laws.FnExactFindIsomorphism', WHERE WHAT IT READS IS OF BULK AT MOST 1048576: true; the input reads as it did. -/
def fnExactFindIsomorphismUptoRow : OpenClaim := { program := "ytoagpklippdlmaa", sum := "9da21e00c223d01cc6fe60e2462360ef6685024dffee8c0b91a2b8505115692b", func := "loop.example/g01359/laws.FnExactFindIsomorphism", spec := "fnExactFindIsomorphism", unfollowed := true, recurses := true, plainKeys := false, apart := false, narrowed := true }
def FnExactFindIsomorphismUptoSaid : Prop := fnExactFindIsomorphismUptoRow.holds Try.pinned (OpenSpec.upto fnExactFindIsomorphismSpec)

/-- 'laws.FnExactCountTableSymmetries', WHERE WHAT IT READS IS OF BULK AT MOST 1048576: true; the input reads as it did. -/
def fnExactCountTableSymmetriesUptoRow : OpenClaim := { program := "ytoagpklippdlmaa", sum := "9da21e00c223d01cc6fe60e2462360ef6685024dffee8c0b91a2b8505115692b", func := "loop.example/g01359/laws.FnExactCountTableSymmetries", spec := "fnExactCountTableSymmetries", recurses := true, plainKeys := false, apart := false, narrowed := true }
def FnExactCountTableSymmetriesUptoSaid : Prop := fnExactCountTableSymmetriesUptoRow.holds Try.pinned (OpenSpec.upto fnExactCountTableSymmetriesSpec)

end Rows
end Go.Proofs.Ytoagpklippdlmaa
