/-
  No cell of these rows narrows 'for every input' (looked for: loops, veiled, ifaces, maps, wideKeys, modest, calm, conditions, laid).
  DERIVED. THE GIVEN ROWS OF THIS SEAT. 12 by the template 'for every input the law returns true; each argument reads behind the call as it read before'; 0 by the template 'total and deterministic' (their statements: YtfigcefdkdlcaabTotals.lean).
  GIVEN WITH THE SEED: the statements are not yours to turn. If you find one false, say at which input.
  Laid BY PROGRAM, IN A SANDBOX (cutbox-rows.mjs): the forced cells as the released guide's own fill.sh prints them over the translation 605770a3ad85cdfc… (all of the seat's roots in one cut). By AI agents, Wed Nov 11 2026. No macro, syntax, notation, axiom, sorry.
-/
import Derived.Test.YtfigcefdkdlcaabChecked
import GoSem.Claim
import GoSem.ClaimJoined
import GoSem.ClaimMapViews
import Derived.JoinedTies
import Derived.KernelRfl
namespace Go.Proofs.Ytfigcefdkdlcaab
/- THE CELL 'sum', in the pinned program and in every row, IS THE sha256 OF THE DUMP (.gsa) THAT YtfigcefdkdlcaabProg.lean LOADS. Nothing in Lean hashes anything: it is a label: what it is worth is what the hold of that sum in a sandbox is worth. -/
noncomputable def Try.pinned : Pinned := { name := "ytfigcefdkdlcaab", sum := "605770a3ad85cdfcf436d0f2c1980a4839e6d47b11dd17536679d8069b728231", checked := Try.checked }
namespace Rows
def none {H : Type} : Left H := { results := [], args := [] }

/-- 'laws.FnExactKindOf': WHATEVER THE INPUT: true; the input reads as it did. -/
def fnExactKindOfSpec : ChangeSpec := { name := "fnExactKindOf", fn := fun _ => fun
  | [d] => { results := [.lit (.bool true)], args := [d] }
  | _ => none }
def fnExactKindOfRow : OpenClaim := { program := "ytfigcefdkdlcaab", sum := "605770a3ad85cdfcf436d0f2c1980a4839e6d47b11dd17536679d8069b728231", func := "loop.example/g00420/laws.FnExactKindOf", spec := "fnExactKindOf", unfollowed := true, recurses := true, plainKeys := false, apart := false }
def FnExactKindOfSaid : Prop := fnExactKindOfRow.holds Try.pinned (OpenSpec.ofChange fnExactKindOfSpec)

/-- ITS FALSE NEIGHBOUR: 'it returns false'. Refute it at one input. -/
def fnExactKindOfWrong : ChangeSpec := { name := "fnExactKindOf", fn := fun _ => fun
  | [d] => { results := [.lit (.bool false)], args := [d] }
  | _ => none }
def FnExactKindOfWrongFalsely : Prop := fnExactKindOfRow.holds Try.pinned (OpenSpec.ofChange fnExactKindOfWrong)

/-- 'laws.FnExactTextIn': WHATEVER THE INPUT: true; the input reads as it did. -/
def fnExactTextInSpec : ChangeSpec := { name := "fnExactTextIn", fn := fun _ => fun
  | [d] => { results := [.lit (.bool true)], args := [d] }
  | _ => none }
def fnExactTextInRow : OpenClaim := { program := "ytfigcefdkdlcaab", sum := "605770a3ad85cdfcf436d0f2c1980a4839e6d47b11dd17536679d8069b728231", func := "loop.example/g00420/laws.FnExactTextIn", spec := "fnExactTextIn", unfollowed := true, recurses := true, plainKeys := false, apart := false }
def FnExactTextInSaid : Prop := fnExactTextInRow.holds Try.pinned (OpenSpec.ofChange fnExactTextInSpec)

/-- ITS FALSE NEIGHBOUR: 'it returns false'. Refute it at one input. -/
def fnExactTextInWrong : ChangeSpec := { name := "fnExactTextIn", fn := fun _ => fun
  | [d] => { results := [.lit (.bool false)], args := [d] }
  | _ => none }
def FnExactTextInWrongFalsely : Prop := fnExactTextInRow.holds Try.pinned (OpenSpec.ofChange fnExactTextInWrong)

/-- 'laws.FnExactTripleOk': WHATEVER THE INPUT: true; the input reads as it did. -/
def fnExactTripleOkSpec : ChangeSpec := { name := "fnExactTripleOk", fn := fun _ => fun
  | [d] => { results := [.lit (.bool true)], args := [d] }
  | _ => none }
def fnExactTripleOkRow : OpenClaim := { program := "ytfigcefdkdlcaab", sum := "605770a3ad85cdfcf436d0f2c1980a4839e6d47b11dd17536679d8069b728231", func := "loop.example/g00420/laws.FnExactTripleOk", spec := "fnExactTripleOk", unfollowed := true, recurses := true, plainKeys := false, apart := false }
def FnExactTripleOkSaid : Prop := fnExactTripleOkRow.holds Try.pinned (OpenSpec.ofChange fnExactTripleOkSpec)

/-- ITS FALSE NEIGHBOUR: 'it returns false'. Refute it at one input. -/
def fnExactTripleOkWrong : ChangeSpec := { name := "fnExactTripleOk", fn := fun _ => fun
  | [d] => { results := [.lit (.bool false)], args := [d] }
  | _ => none }
def FnExactTripleOkWrongFalsely : Prop := fnExactTripleOkRow.holds Try.pinned (OpenSpec.ofChange fnExactTripleOkWrong)

/-- 'laws.FnExactTripleText': WHATEVER THE INPUT: true; the input reads as it did. -/
def fnExactTripleTextSpec : ChangeSpec := { name := "fnExactTripleText", fn := fun _ => fun
  | [d] => { results := [.lit (.bool true)], args := [d] }
  | _ => none }
def fnExactTripleTextRow : OpenClaim := { program := "ytfigcefdkdlcaab", sum := "605770a3ad85cdfcf436d0f2c1980a4839e6d47b11dd17536679d8069b728231", func := "loop.example/g00420/laws.FnExactTripleText", spec := "fnExactTripleText", unfollowed := true, recurses := true, plainKeys := false, apart := false }
def FnExactTripleTextSaid : Prop := fnExactTripleTextRow.holds Try.pinned (OpenSpec.ofChange fnExactTripleTextSpec)

/-- ITS FALSE NEIGHBOUR: 'it returns false'. Refute it at one input. -/
def fnExactTripleTextWrong : ChangeSpec := { name := "fnExactTripleText", fn := fun _ => fun
  | [d] => { results := [.lit (.bool false)], args := [d] }
  | _ => none }
def FnExactTripleTextWrongFalsely : Prop := fnExactTripleTextRow.holds Try.pinned (OpenSpec.ofChange fnExactTripleTextWrong)

/-- 'laws.FnExactReadTriple': WHATEVER THE INPUT: true; the input reads as it did. -/
def fnExactReadTripleSpec : ChangeSpec := { name := "fnExactReadTriple", fn := fun _ => fun
  | [d] => { results := [.lit (.bool true)], args := [d] }
  | _ => none }
def fnExactReadTripleRow : OpenClaim := { program := "ytfigcefdkdlcaab", sum := "605770a3ad85cdfcf436d0f2c1980a4839e6d47b11dd17536679d8069b728231", func := "loop.example/g00420/laws.FnExactReadTriple", spec := "fnExactReadTriple", inPlace := ["internal/bytealg.IndexByteString", "internal/bytealg.IndexString"], unfollowed := true, recurses := true, named := ["internal/bytealg.MaxLen"], plainKeys := false, apart := false }
def FnExactReadTripleSaid : Prop := fnExactReadTripleRow.holds Try.pinned (OpenSpec.ofChange fnExactReadTripleSpec)

/-- ITS FALSE NEIGHBOUR: 'it returns false'. Refute it at one input. -/
def fnExactReadTripleWrong : ChangeSpec := { name := "fnExactReadTriple", fn := fun _ => fun
  | [d] => { results := [.lit (.bool false)], args := [d] }
  | _ => none }
def FnExactReadTripleWrongFalsely : Prop := fnExactReadTripleRow.holds Try.pinned (OpenSpec.ofChange fnExactReadTripleWrong)

/-- 'laws.FnExactAhead': WHATEVER THE INPUT: true; the input reads as it did. -/
def fnExactAheadSpec : ChangeSpec := { name := "fnExactAhead", fn := fun _ => fun
  | [d1, d2] => { results := [.lit (.bool true)], args := [d1, d2] }
  | _ => none }
def fnExactAheadRow : OpenClaim := { program := "ytfigcefdkdlcaab", sum := "605770a3ad85cdfcf436d0f2c1980a4839e6d47b11dd17536679d8069b728231", func := "loop.example/g00420/laws.FnExactAhead", spec := "fnExactAhead", plainKeys := false, apart := false }
def FnExactAheadSaid : Prop := fnExactAheadRow.holds Try.pinned (OpenSpec.ofChange fnExactAheadSpec)

/-- ITS FALSE NEIGHBOUR: 'it returns false'. Refute it at one input. -/
def fnExactAheadWrong : ChangeSpec := { name := "fnExactAhead", fn := fun _ => fun
  | [d1, d2] => { results := [.lit (.bool false)], args := [d1, d2] }
  | _ => none }
def FnExactAheadWrongFalsely : Prop := fnExactAheadRow.holds Try.pinned (OpenSpec.ofChange fnExactAheadWrong)

/-- 'laws.FnExactGraphOk': WHATEVER THE INPUT: true; the input reads as it did. -/
def fnExactGraphOkSpec : ChangeSpec := { name := "fnExactGraphOk", fn := fun _ => fun
  | [d] => { results := [.lit (.bool true)], args := [d] }
  | _ => none }
def fnExactGraphOkRow : OpenClaim := { program := "ytfigcefdkdlcaab", sum := "605770a3ad85cdfcf436d0f2c1980a4839e6d47b11dd17536679d8069b728231", func := "loop.example/g00420/laws.FnExactGraphOk", spec := "fnExactGraphOk", unfollowed := true, recurses := true, plainKeys := false, apart := false }
def FnExactGraphOkSaid : Prop := fnExactGraphOkRow.holds Try.pinned (OpenSpec.ofChange fnExactGraphOkSpec)

/-- ITS FALSE NEIGHBOUR: 'it returns false'. Refute it at one input. -/
def fnExactGraphOkWrong : ChangeSpec := { name := "fnExactGraphOk", fn := fun _ => fun
  | [d] => { results := [.lit (.bool false)], args := [d] }
  | _ => none }
def FnExactGraphOkWrongFalsely : Prop := fnExactGraphOkRow.holds Try.pinned (OpenSpec.ofChange fnExactGraphOkWrong)

/-- 'laws.FnExactWith': WHATEVER THE INPUT: true; the input reads as it did. -/
def fnExactWithSpec : ChangeSpec := { name := "fnExactWith", fn := fun _ => fun
  | [d1, d2] => { results := [.lit (.bool true)], args := [d1, d2] }
  | _ => none }
def fnExactWithRow : OpenClaim := { program := "ytfigcefdkdlcaab", sum := "605770a3ad85cdfcf436d0f2c1980a4839e6d47b11dd17536679d8069b728231", func := "loop.example/g00420/laws.FnExactWith", spec := "fnExactWith", unfollowed := true, recurses := true, plainKeys := false, apart := false }
def FnExactWithSaid : Prop := fnExactWithRow.holds Try.pinned (OpenSpec.ofChange fnExactWithSpec)

/-- ITS FALSE NEIGHBOUR: 'it returns false'. Refute it at one input. -/
def fnExactWithWrong : ChangeSpec := { name := "fnExactWith", fn := fun _ => fun
  | [d1, d2] => { results := [.lit (.bool false)], args := [d1, d2] }
  | _ => none }
def FnExactWithWrongFalsely : Prop := fnExactWithRow.holds Try.pinned (OpenSpec.ofChange fnExactWithWrong)

/-- 'laws.FnExactWithout': WHATEVER THE INPUT: true; the input reads as it did. -/
def fnExactWithoutSpec : ChangeSpec := { name := "fnExactWithout", fn := fun _ => fun
  | [d1, d2] => { results := [.lit (.bool true)], args := [d1, d2] }
  | _ => none }
def fnExactWithoutRow : OpenClaim := { program := "ytfigcefdkdlcaab", sum := "605770a3ad85cdfcf436d0f2c1980a4839e6d47b11dd17536679d8069b728231", func := "loop.example/g00420/laws.FnExactWithout", spec := "fnExactWithout", unfollowed := true, recurses := true, plainKeys := false, apart := false }
def FnExactWithoutSaid : Prop := fnExactWithoutRow.holds Try.pinned (OpenSpec.ofChange fnExactWithoutSpec)

/-- ITS FALSE NEIGHBOUR: 'it returns false'. Refute it at one input. -/
def fnExactWithoutWrong : ChangeSpec := { name := "fnExactWithout", fn := fun _ => fun
  | [d1, d2] => { results := [.lit (.bool false)], args := [d1, d2] }
  | _ => none }
def FnExactWithoutWrongFalsely : Prop := fnExactWithoutRow.holds Try.pinned (OpenSpec.ofChange fnExactWithoutWrong)

/-- 'laws.FnExactGraphText': WHATEVER THE INPUT: true; the input reads as it did. -/
def fnExactGraphTextSpec : ChangeSpec := { name := "fnExactGraphText", fn := fun _ => fun
  | [d] => { results := [.lit (.bool true)], args := [d] }
  | _ => none }
def fnExactGraphTextRow : OpenClaim := { program := "ytfigcefdkdlcaab", sum := "605770a3ad85cdfcf436d0f2c1980a4839e6d47b11dd17536679d8069b728231", func := "loop.example/g00420/laws.FnExactGraphText", spec := "fnExactGraphText", inPlace := ["internal/abi.NoEscape"], unfollowed := true, recurses := true, plainKeys := false, apart := false }
def FnExactGraphTextSaid : Prop := fnExactGraphTextRow.holds Try.pinned (OpenSpec.ofChange fnExactGraphTextSpec)

/-- ITS FALSE NEIGHBOUR: 'it returns false'. Refute it at one input. -/
def fnExactGraphTextWrong : ChangeSpec := { name := "fnExactGraphText", fn := fun _ => fun
  | [d] => { results := [.lit (.bool false)], args := [d] }
  | _ => none }
def FnExactGraphTextWrongFalsely : Prop := fnExactGraphTextRow.holds Try.pinned (OpenSpec.ofChange fnExactGraphTextWrong)

/-- 'laws.FnExactReadGraph': WHATEVER THE INPUT: true; the input reads as it did. -/
def fnExactReadGraphSpec : ChangeSpec := { name := "fnExactReadGraph", fn := fun _ => fun
  | [d] => { results := [.lit (.bool true)], args := [d] }
  | _ => none }
def fnExactReadGraphRow : OpenClaim := { program := "ytfigcefdkdlcaab", sum := "605770a3ad85cdfcf436d0f2c1980a4839e6d47b11dd17536679d8069b728231", func := "loop.example/g00420/laws.FnExactReadGraph", spec := "fnExactReadGraph", inPlace := ["internal/bytealg.IndexByteString", "internal/bytealg.IndexString"], unfollowed := true, recurses := true, named := ["internal/bytealg.MaxLen"], plainKeys := false, apart := false }
def FnExactReadGraphSaid : Prop := fnExactReadGraphRow.holds Try.pinned (OpenSpec.ofChange fnExactReadGraphSpec)

/-- ITS FALSE NEIGHBOUR: 'it returns false'. Refute it at one input. -/
def fnExactReadGraphWrong : ChangeSpec := { name := "fnExactReadGraph", fn := fun _ => fun
  | [d] => { results := [.lit (.bool false)], args := [d] }
  | _ => none }
def FnExactReadGraphWrongFalsely : Prop := fnExactReadGraphRow.holds Try.pinned (OpenSpec.ofChange fnExactReadGraphWrong)

/-- 'laws.FnExactUnion': WHATEVER THE INPUT: true; the input reads as it did. -/
def fnExactUnionSpec : ChangeSpec := { name := "fnExactUnion", fn := fun _ => fun
  | [d1, d2] => { results := [.lit (.bool true)], args := [d1, d2] }
  | _ => none }
def fnExactUnionRow : OpenClaim := { program := "ytfigcefdkdlcaab", sum := "605770a3ad85cdfcf436d0f2c1980a4839e6d47b11dd17536679d8069b728231", func := "loop.example/g00420/laws.FnExactUnion", spec := "fnExactUnion", unfollowed := true, recurses := true, plainKeys := false, apart := false }
def FnExactUnionSaid : Prop := fnExactUnionRow.holds Try.pinned (OpenSpec.ofChange fnExactUnionSpec)

/-- ITS FALSE NEIGHBOUR: 'it returns false'. Refute it at one input. -/
def fnExactUnionWrong : ChangeSpec := { name := "fnExactUnion", fn := fun _ => fun
  | [d1, d2] => { results := [.lit (.bool false)], args := [d1, d2] }
  | _ => none }
def FnExactUnionWrongFalsely : Prop := fnExactUnionRow.holds Try.pinned (OpenSpec.ofChange fnExactUnionWrong)

/- THE SECOND FORM. 'bulk': how many values and letters a reading holds, each counted each time it is reached (what is shared counts as often as it is met; a slice's spare places count too). A statement '..UptoSaid' is the law's where the arguments, and the package variables that the reading takes, are together of bulk at most 1048576: NARROWER than '..Said'. Prove '..Said' where nothing that the law and all that it calls make is longer than what came in: it says more and counts as full. Else prove '..UptoSaid'. A law counts once. -/
mutual
def uptoBulk {H : Type} : DataW H → Nat
  | .lit (.string bytes) => bytes.length + 1
  | .lit _ => 1
  | .nil => 1
  | .ptr d => uptoBulk d + 1
  | .slice elems spare => uptoBulkAll elems + uptoBulkAll spare + 1
  | .agg parts => uptoBulkAll parts + 1
  | .iface _ d => uptoBulk d + 1
  | .map entries => uptoBulkEntries entries + 1
  | .held _ => 1
def uptoBulkAll {H : Type} : List (DataW H) → Nat
  | [] => 0
  | d :: r => uptoBulk d + uptoBulkAll r
def uptoBulkEntries {H : Type} : List (Lit × DataW H) → Nat
  | [] => 0
  | x :: r => uptoBulkEntry x + uptoBulkEntries r
def uptoBulkEntry {H : Type} : Lit × DataW H → Nat
  | (.string bytes, d) => bytes.length + uptoBulk d + 1
  | (_, d) => uptoBulk d + 1
 end
def uptoSmall : (H : Type) → List (DataW H) → Bool := fun _ ds => decide (uptoBulkAll ds ≤ 1048576)
def OpenSpec.upto (s : _root_.Go.ChangeSpec) : _root_.Go.OpenSpec := { _root_.Go.OpenSpec.ofChange s with cond := some uptoSmall }

/-- 'laws.FnExactKindOf', WHERE WHAT IT READS IS OF BULK AT MOST 1048576: true; the input reads as it did. -/
def fnExactKindOfUptoRow : OpenClaim := { program := "ytfigcefdkdlcaab", sum := "605770a3ad85cdfcf436d0f2c1980a4839e6d47b11dd17536679d8069b728231", func := "loop.example/g00420/laws.FnExactKindOf", spec := "fnExactKindOf", unfollowed := true, recurses := true, plainKeys := false, apart := false, narrowed := true }
def FnExactKindOfUptoSaid : Prop := fnExactKindOfUptoRow.holds Try.pinned (OpenSpec.upto fnExactKindOfSpec)

/-- 'laws.FnExactTextIn', WHERE WHAT IT READS IS OF BULK AT MOST 1048576: true; the input reads as it did. -/
def fnExactTextInUptoRow : OpenClaim := { program := "ytfigcefdkdlcaab", sum := "605770a3ad85cdfcf436d0f2c1980a4839e6d47b11dd17536679d8069b728231", func := "loop.example/g00420/laws.FnExactTextIn", spec := "fnExactTextIn", unfollowed := true, recurses := true, plainKeys := false, apart := false, narrowed := true }
def FnExactTextInUptoSaid : Prop := fnExactTextInUptoRow.holds Try.pinned (OpenSpec.upto fnExactTextInSpec)

/-- 'laws.FnExactTripleOk', WHERE WHAT IT READS IS OF BULK AT MOST 1048576: true; the input reads as it did. -/
def fnExactTripleOkUptoRow : OpenClaim := { program := "ytfigcefdkdlcaab", sum := "605770a3ad85cdfcf436d0f2c1980a4839e6d47b11dd17536679d8069b728231", func := "loop.example/g00420/laws.FnExactTripleOk", spec := "fnExactTripleOk", unfollowed := true, recurses := true, plainKeys := false, apart := false, narrowed := true }
def FnExactTripleOkUptoSaid : Prop := fnExactTripleOkUptoRow.holds Try.pinned (OpenSpec.upto fnExactTripleOkSpec)

/-- 'laws.FnExactTripleText', WHERE WHAT IT READS IS OF BULK AT MOST 1048576: true; the input reads as it did. -/
def fnExactTripleTextUptoRow : OpenClaim := { program := "ytfigcefdkdlcaab", sum := "605770a3ad85cdfcf436d0f2c1980a4839e6d47b11dd17536679d8069b728231", func := "loop.example/g00420/laws.FnExactTripleText", spec := "fnExactTripleText", unfollowed := true, recurses := true, plainKeys := false, apart := false, narrowed := true }
def FnExactTripleTextUptoSaid : Prop := fnExactTripleTextUptoRow.holds Try.pinned (OpenSpec.upto fnExactTripleTextSpec)

/-- 'laws.FnExactReadTriple', WHERE WHAT IT READS IS OF BULK AT MOST 1048576: true; the input reads as it did. -/
def fnExactReadTripleUptoRow : OpenClaim := { program := "ytfigcefdkdlcaab", sum := "605770a3ad85cdfcf436d0f2c1980a4839e6d47b11dd17536679d8069b728231", func := "loop.example/g00420/laws.FnExactReadTriple", spec := "fnExactReadTriple", inPlace := ["internal/bytealg.IndexByteString", "internal/bytealg.IndexString"], unfollowed := true, recurses := true, named := ["internal/bytealg.MaxLen"], plainKeys := false, apart := false, narrowed := true }
def FnExactReadTripleUptoSaid : Prop := fnExactReadTripleUptoRow.holds Try.pinned (OpenSpec.upto fnExactReadTripleSpec)

/-- 'laws.FnExactAhead', WHERE WHAT IT READS IS OF BULK AT MOST 1048576: true; the input reads as it did. -/
def fnExactAheadUptoRow : OpenClaim := { program := "ytfigcefdkdlcaab", sum := "605770a3ad85cdfcf436d0f2c1980a4839e6d47b11dd17536679d8069b728231", func := "loop.example/g00420/laws.FnExactAhead", spec := "fnExactAhead", plainKeys := false, apart := false, narrowed := true }
def FnExactAheadUptoSaid : Prop := fnExactAheadUptoRow.holds Try.pinned (OpenSpec.upto fnExactAheadSpec)

/-- 'laws.FnExactGraphOk', WHERE WHAT IT READS IS OF BULK AT MOST 1048576: true; the input reads as it did. -/
def fnExactGraphOkUptoRow : OpenClaim := { program := "ytfigcefdkdlcaab", sum := "605770a3ad85cdfcf436d0f2c1980a4839e6d47b11dd17536679d8069b728231", func := "loop.example/g00420/laws.FnExactGraphOk", spec := "fnExactGraphOk", unfollowed := true, recurses := true, plainKeys := false, apart := false, narrowed := true }
def FnExactGraphOkUptoSaid : Prop := fnExactGraphOkUptoRow.holds Try.pinned (OpenSpec.upto fnExactGraphOkSpec)

/-- 'laws.FnExactWith', WHERE WHAT IT READS IS OF BULK AT MOST 1048576: true; the input reads as it did. -/
def fnExactWithUptoRow : OpenClaim := { program := "ytfigcefdkdlcaab", sum := "605770a3ad85cdfcf436d0f2c1980a4839e6d47b11dd17536679d8069b728231", func := "loop.example/g00420/laws.FnExactWith", spec := "fnExactWith", unfollowed := true, recurses := true, plainKeys := false, apart := false, narrowed := true }
def FnExactWithUptoSaid : Prop := fnExactWithUptoRow.holds Try.pinned (OpenSpec.upto fnExactWithSpec)

/-- 'laws.FnExactWithout', WHERE WHAT IT READS IS OF BULK AT MOST 1048576: true; the input reads as it did. -/
def fnExactWithoutUptoRow : OpenClaim := { program := "ytfigcefdkdlcaab", sum := "605770a3ad85cdfcf436d0f2c1980a4839e6d47b11dd17536679d8069b728231", func := "loop.example/g00420/laws.FnExactWithout", spec := "fnExactWithout", unfollowed := true, recurses := true, plainKeys := false, apart := false, narrowed := true }
def FnExactWithoutUptoSaid : Prop := fnExactWithoutUptoRow.holds Try.pinned (OpenSpec.upto fnExactWithoutSpec)

/-- 'laws.FnExactGraphText', WHERE WHAT IT READS IS OF BULK AT MOST 1048576: true; the input reads as it did. -/
def fnExactGraphTextUptoRow : OpenClaim := { program := "ytfigcefdkdlcaab", sum := "605770a3ad85cdfcf436d0f2c1980a4839e6d47b11dd17536679d8069b728231", func := "loop.example/g00420/laws.FnExactGraphText", spec := "fnExactGraphText", inPlace := ["internal/abi.NoEscape"], unfollowed := true, recurses := true, plainKeys := false, apart := false, narrowed := true }
def FnExactGraphTextUptoSaid : Prop := fnExactGraphTextUptoRow.holds Try.pinned (OpenSpec.upto fnExactGraphTextSpec)

/-- 'laws.FnExactReadGraph', WHERE WHAT IT READS IS OF BULK AT MOST 1048576: true; the input reads as it did. -/
def fnExactReadGraphUptoRow : OpenClaim := { program := "ytfigcefdkdlcaab", sum := "605770a3ad85cdfcf436d0f2c1980a4839e6d47b11dd17536679d8069b728231", func := "loop.example/g00420/laws.FnExactReadGraph", spec := "fnExactReadGraph", inPlace := ["internal/bytealg.IndexByteString", "internal/bytealg.IndexString"], unfollowed := true, recurses := true, named := ["internal/bytealg.MaxLen"], plainKeys := false, apart := false, narrowed := true }
def FnExactReadGraphUptoSaid : Prop := fnExactReadGraphUptoRow.holds Try.pinned (OpenSpec.upto fnExactReadGraphSpec)

/-- 'laws.FnExactUnion', WHERE WHAT IT READS IS OF BULK AT MOST 1048576: true; the input reads as it did. -/
def fnExactUnionUptoRow : OpenClaim := { program := "ytfigcefdkdlcaab", sum := "605770a3ad85cdfcf436d0f2c1980a4839e6d47b11dd17536679d8069b728231", func := "loop.example/g00420/laws.FnExactUnion", spec := "fnExactUnion", unfollowed := true, recurses := true, plainKeys := false, apart := false, narrowed := true }
def FnExactUnionUptoSaid : Prop := fnExactUnionUptoRow.holds Try.pinned (OpenSpec.upto fnExactUnionSpec)

end Rows
end Go.Proofs.Ytfigcefdkdlcaab
