/-
  No cell of these rows narrows 'for every input' (looked for: loops, veiled, ifaces, maps, wideKeys, modest, calm, conditions, laid).
  DERIVED. THE GIVEN ROWS OF THIS SEAT. 12 by the template 'for every input the law returns true; each argument reads behind the call as it read before'; 0 by the template 'total and deterministic' (their statements: YtfigcefdkdlcaaaTotals.lean).
  GIVEN WITH THE SEED: the statements are not yours to turn. If you find one false, say at which input.
  Laid BY PROGRAM, IN A SANDBOX (cutbox-rows.mjs): the forced cells as the released guide's own fill.sh prints them over the translation 0edadf47891f9312… (all of the seat's roots in one cut). By AI agents, Wed Nov 11 2026. No macro, syntax, notation, axiom, sorry.
-/
import Derived.Test.YtfigcefdkdlcaaaChecked
import GoSem.Claim
import GoSem.ClaimJoined
import GoSem.ClaimMapViews
import Derived.JoinedTies
import Derived.KernelRfl
namespace Go.Proofs.Ytfigcefdkdlcaaa
/- THE CELL 'sum', in the pinned program and in every row, IS THE sha256 OF THE DUMP (.gsa) THAT YtfigcefdkdlcaaaProg.lean LOADS. Nothing in Lean hashes anything: it is a label: what it is worth is what the hold of that sum in a sandbox is worth. -/
noncomputable def Try.pinned : Pinned := { name := "ytfigcefdkdlcaaa", sum := "0edadf47891f931206146236e111f6a5356fb9dcf424c5292e06841ffe08a486", checked := Try.checked }
namespace Rows
def none {H : Type} : Left H := { results := [], args := [] }

/-- 'laws.FnEscapes': WHATEVER THE INPUT: true; the input reads as it did. -/
def fnEscapesSpec : ChangeSpec := { name := "fnEscapes", fn := fun _ => fun
  | [d] => { results := [.lit (.bool true)], args := [d] }
  | _ => none }
def fnEscapesRow : OpenClaim := { program := "ytfigcefdkdlcaaa", sum := "0edadf47891f931206146236e111f6a5356fb9dcf424c5292e06841ffe08a486", func := "loop.example/g00420/laws.FnEscapes", spec := "fnEscapes", plainKeys := false, apart := false }
def FnEscapesSaid : Prop := fnEscapesRow.holds Try.pinned (OpenSpec.ofChange fnEscapesSpec)

/-- ITS FALSE NEIGHBOUR: 'it returns false'. Refute it at one input. -/
def fnEscapesWrong : ChangeSpec := { name := "fnEscapes", fn := fun _ => fun
  | [d] => { results := [.lit (.bool false)], args := [d] }
  | _ => none }
def FnEscapesWrongFalsely : Prop := fnEscapesRow.holds Try.pinned (OpenSpec.ofChange fnEscapesWrong)

/-- 'laws.FnKinds': WHATEVER THE INPUT: true; the input reads as it did. -/
def fnKindsSpec : ChangeSpec := { name := "fnKinds", fn := fun _ => fun
  | [d] => { results := [.lit (.bool true)], args := [d] }
  | _ => none }
def fnKindsRow : OpenClaim := { program := "ytfigcefdkdlcaaa", sum := "0edadf47891f931206146236e111f6a5356fb9dcf424c5292e06841ffe08a486", func := "loop.example/g00420/laws.FnKinds", spec := "fnKinds", unfollowed := true, recurses := true, plainKeys := false, apart := false }
def FnKindsSaid : Prop := fnKindsRow.holds Try.pinned (OpenSpec.ofChange fnKindsSpec)

/-- ITS FALSE NEIGHBOUR: 'it returns false'. Refute it at one input. -/
def fnKindsWrong : ChangeSpec := { name := "fnKinds", fn := fun _ => fun
  | [d] => { results := [.lit (.bool false)], args := [d] }
  | _ => none }
def FnKindsWrongFalsely : Prop := fnKindsRow.holds Try.pinned (OpenSpec.ofChange fnKindsWrong)

/-- 'laws.FnTriples': WHATEVER THE INPUT: true; the input reads as it did. -/
def fnTriplesSpec : ChangeSpec := { name := "fnTriples", fn := fun _ => fun
  | [d] => { results := [.lit (.bool true)], args := [d] }
  | _ => none }
def fnTriplesRow : OpenClaim := { program := "ytfigcefdkdlcaaa", sum := "0edadf47891f931206146236e111f6a5356fb9dcf424c5292e06841ffe08a486", func := "loop.example/g00420/laws.FnTriples", spec := "fnTriples", inPlace := ["internal/bytealg.IndexByteString", "internal/bytealg.IndexString"], unfollowed := true, recurses := true, named := ["internal/bytealg.MaxLen"], plainKeys := false, apart := false }
def FnTriplesSaid : Prop := fnTriplesRow.holds Try.pinned (OpenSpec.ofChange fnTriplesSpec)

/-- ITS FALSE NEIGHBOUR: 'it returns false'. Refute it at one input. -/
def fnTriplesWrong : ChangeSpec := { name := "fnTriples", fn := fun _ => fun
  | [d] => { results := [.lit (.bool false)], args := [d] }
  | _ => none }
def FnTriplesWrongFalsely : Prop := fnTriplesRow.holds Try.pinned (OpenSpec.ofChange fnTriplesWrong)

/-- 'laws.FnAhead': WHATEVER THE INPUT: true; the input reads as it did. -/
def fnAheadSpec : ChangeSpec := { name := "fnAhead", fn := fun _ => fun
  | [d] => { results := [.lit (.bool true)], args := [d] }
  | _ => none }
def fnAheadRow : OpenClaim := { program := "ytfigcefdkdlcaaa", sum := "0edadf47891f931206146236e111f6a5356fb9dcf424c5292e06841ffe08a486", func := "loop.example/g00420/laws.FnAhead", spec := "fnAhead", plainKeys := false, apart := false }
def FnAheadSaid : Prop := fnAheadRow.holds Try.pinned (OpenSpec.ofChange fnAheadSpec)

/-- ITS FALSE NEIGHBOUR: 'it returns false'. Refute it at one input. -/
def fnAheadWrong : ChangeSpec := { name := "fnAhead", fn := fun _ => fun
  | [d] => { results := [.lit (.bool false)], args := [d] }
  | _ => none }
def FnAheadWrongFalsely : Prop := fnAheadRow.holds Try.pinned (OpenSpec.ofChange fnAheadWrong)

/-- 'laws.FnGraphs': WHATEVER THE INPUT: true; the input reads as it did. -/
def fnGraphsSpec : ChangeSpec := { name := "fnGraphs", fn := fun _ => fun
  | [d] => { results := [.lit (.bool true)], args := [d] }
  | _ => none }
def fnGraphsRow : OpenClaim := { program := "ytfigcefdkdlcaaa", sum := "0edadf47891f931206146236e111f6a5356fb9dcf424c5292e06841ffe08a486", func := "loop.example/g00420/laws.FnGraphs", spec := "fnGraphs", inPlace := ["internal/abi.NoEscape", "internal/bytealg.IndexByteString", "internal/bytealg.IndexString"], unfollowed := true, recurses := true, named := ["internal/bytealg.MaxLen"], plainKeys := false, apart := false }
def FnGraphsSaid : Prop := fnGraphsRow.holds Try.pinned (OpenSpec.ofChange fnGraphsSpec)

/-- ITS FALSE NEIGHBOUR: 'it returns false'. Refute it at one input. -/
def fnGraphsWrong : ChangeSpec := { name := "fnGraphs", fn := fun _ => fun
  | [d] => { results := [.lit (.bool false)], args := [d] }
  | _ => none }
def FnGraphsWrongFalsely : Prop := fnGraphsRow.holds Try.pinned (OpenSpec.ofChange fnGraphsWrong)

/-- 'laws.FnWith': WHATEVER THE INPUT: true; the input reads as it did. -/
def fnWithSpec : ChangeSpec := { name := "fnWith", fn := fun _ => fun
  | [d] => { results := [.lit (.bool true)], args := [d] }
  | _ => none }
def fnWithRow : OpenClaim := { program := "ytfigcefdkdlcaaa", sum := "0edadf47891f931206146236e111f6a5356fb9dcf424c5292e06841ffe08a486", func := "loop.example/g00420/laws.FnWith", spec := "fnWith", unfollowed := true, recurses := true, plainKeys := false, apart := false }
def FnWithSaid : Prop := fnWithRow.holds Try.pinned (OpenSpec.ofChange fnWithSpec)

/-- ITS FALSE NEIGHBOUR: 'it returns false'. Refute it at one input. -/
def fnWithWrong : ChangeSpec := { name := "fnWith", fn := fun _ => fun
  | [d] => { results := [.lit (.bool false)], args := [d] }
  | _ => none }
def FnWithWrongFalsely : Prop := fnWithRow.holds Try.pinned (OpenSpec.ofChange fnWithWrong)

/-- 'laws.FnWithout': WHATEVER THE INPUT: true; the input reads as it did. -/
def fnWithoutSpec : ChangeSpec := { name := "fnWithout", fn := fun _ => fun
  | [d] => { results := [.lit (.bool true)], args := [d] }
  | _ => none }
def fnWithoutRow : OpenClaim := { program := "ytfigcefdkdlcaaa", sum := "0edadf47891f931206146236e111f6a5356fb9dcf424c5292e06841ffe08a486", func := "loop.example/g00420/laws.FnWithout", spec := "fnWithout", unfollowed := true, recurses := true, plainKeys := false, apart := false }
def FnWithoutSaid : Prop := fnWithoutRow.holds Try.pinned (OpenSpec.ofChange fnWithoutSpec)

/-- ITS FALSE NEIGHBOUR: 'it returns false'. Refute it at one input. -/
def fnWithoutWrong : ChangeSpec := { name := "fnWithout", fn := fun _ => fun
  | [d] => { results := [.lit (.bool false)], args := [d] }
  | _ => none }
def FnWithoutWrongFalsely : Prop := fnWithoutRow.holds Try.pinned (OpenSpec.ofChange fnWithoutWrong)

/-- 'laws.FnUnion': WHATEVER THE INPUT: true; the input reads as it did. -/
def fnUnionSpec : ChangeSpec := { name := "fnUnion", fn := fun _ => fun
  | [d] => { results := [.lit (.bool true)], args := [d] }
  | _ => none }
def fnUnionRow : OpenClaim := { program := "ytfigcefdkdlcaaa", sum := "0edadf47891f931206146236e111f6a5356fb9dcf424c5292e06841ffe08a486", func := "loop.example/g00420/laws.FnUnion", spec := "fnUnion", unfollowed := true, recurses := true, plainKeys := false, apart := false }
def FnUnionSaid : Prop := fnUnionRow.holds Try.pinned (OpenSpec.ofChange fnUnionSpec)

/-- ITS FALSE NEIGHBOUR: 'it returns false'. Refute it at one input. -/
def fnUnionWrong : ChangeSpec := { name := "fnUnion", fn := fun _ => fun
  | [d] => { results := [.lit (.bool false)], args := [d] }
  | _ => none }
def FnUnionWrongFalsely : Prop := fnUnionRow.holds Try.pinned (OpenSpec.ofChange fnUnionWrong)

/-- 'laws.FnUnionTwice': WHATEVER THE INPUT: true; the input reads as it did. -/
def fnUnionTwiceSpec : ChangeSpec := { name := "fnUnionTwice", fn := fun _ => fun
  | [d] => { results := [.lit (.bool true)], args := [d] }
  | _ => none }
def fnUnionTwiceRow : OpenClaim := { program := "ytfigcefdkdlcaaa", sum := "0edadf47891f931206146236e111f6a5356fb9dcf424c5292e06841ffe08a486", func := "loop.example/g00420/laws.FnUnionTwice", spec := "fnUnionTwice", unfollowed := true, recurses := true, plainKeys := false, apart := false }
def FnUnionTwiceSaid : Prop := fnUnionTwiceRow.holds Try.pinned (OpenSpec.ofChange fnUnionTwiceSpec)

/-- ITS FALSE NEIGHBOUR: 'it returns false'. Refute it at one input. -/
def fnUnionTwiceWrong : ChangeSpec := { name := "fnUnionTwice", fn := fun _ => fun
  | [d] => { results := [.lit (.bool false)], args := [d] }
  | _ => none }
def FnUnionTwiceWrongFalsely : Prop := fnUnionTwiceRow.holds Try.pinned (OpenSpec.ofChange fnUnionTwiceWrong)

/-- 'laws.FnWithAny': WHATEVER THE INPUT: true; the input reads as it did. -/
def fnWithAnySpec : ChangeSpec := { name := "fnWithAny", fn := fun _ => fun
  | [d] => { results := [.lit (.bool true)], args := [d] }
  | _ => none }
def fnWithAnyRow : OpenClaim := { program := "ytfigcefdkdlcaaa", sum := "0edadf47891f931206146236e111f6a5356fb9dcf424c5292e06841ffe08a486", func := "loop.example/g00420/laws.FnWithAny", spec := "fnWithAny", unfollowed := true, recurses := true, plainKeys := false, apart := false }
def FnWithAnySaid : Prop := fnWithAnyRow.holds Try.pinned (OpenSpec.ofChange fnWithAnySpec)

/-- ITS FALSE NEIGHBOUR: 'it returns false'. Refute it at one input. -/
def fnWithAnyWrong : ChangeSpec := { name := "fnWithAny", fn := fun _ => fun
  | [d] => { results := [.lit (.bool false)], args := [d] }
  | _ => none }
def FnWithAnyWrongFalsely : Prop := fnWithAnyRow.holds Try.pinned (OpenSpec.ofChange fnWithAnyWrong)

/-- 'laws.FnExactEscaped': WHATEVER THE INPUT: true; the input reads as it did. -/
def fnExactEscapedSpec : ChangeSpec := { name := "fnExactEscaped", fn := fun _ => fun
  | [d] => { results := [.lit (.bool true)], args := [d] }
  | _ => none }
def fnExactEscapedRow : OpenClaim := { program := "ytfigcefdkdlcaaa", sum := "0edadf47891f931206146236e111f6a5356fb9dcf424c5292e06841ffe08a486", func := "loop.example/g00420/laws.FnExactEscaped", spec := "fnExactEscaped", plainKeys := false, apart := false }
def FnExactEscapedSaid : Prop := fnExactEscapedRow.holds Try.pinned (OpenSpec.ofChange fnExactEscapedSpec)

/-- ITS FALSE NEIGHBOUR: 'it returns false'. Refute it at one input. -/
def fnExactEscapedWrong : ChangeSpec := { name := "fnExactEscaped", fn := fun _ => fun
  | [d] => { results := [.lit (.bool false)], args := [d] }
  | _ => none }
def FnExactEscapedWrongFalsely : Prop := fnExactEscapedRow.holds Try.pinned (OpenSpec.ofChange fnExactEscapedWrong)

/-- 'laws.FnExactUnescaped': WHATEVER THE INPUT: true; the input reads as it did. -/
def fnExactUnescapedSpec : ChangeSpec := { name := "fnExactUnescaped", fn := fun _ => fun
  | [d] => { results := [.lit (.bool true)], args := [d] }
  | _ => none }
def fnExactUnescapedRow : OpenClaim := { program := "ytfigcefdkdlcaaa", sum := "0edadf47891f931206146236e111f6a5356fb9dcf424c5292e06841ffe08a486", func := "loop.example/g00420/laws.FnExactUnescaped", spec := "fnExactUnescaped", plainKeys := false, apart := false }
def FnExactUnescapedSaid : Prop := fnExactUnescapedRow.holds Try.pinned (OpenSpec.ofChange fnExactUnescapedSpec)

/-- ITS FALSE NEIGHBOUR: 'it returns false'. Refute it at one input. -/
def fnExactUnescapedWrong : ChangeSpec := { name := "fnExactUnescaped", fn := fun _ => fun
  | [d] => { results := [.lit (.bool false)], args := [d] }
  | _ => none }
def FnExactUnescapedWrongFalsely : Prop := fnExactUnescapedRow.holds Try.pinned (OpenSpec.ofChange fnExactUnescapedWrong)

/- THE SECOND FORM. 'bulk': how many values and letters a reading holds, each counted each time it is reached (what is shared counts as often as it is met; a slice's spare places count too). A statement '..UptoSaid' is the law's where the arguments, and the package variables that the reading takes, are together of bulk at most 1048576: NARROWER than '..Said'. Prove '..Said' where nothing that the law and all that it calls make is longer than what came in: it says more and counts as full. Else prove '..UptoSaid'. A law counts once. -/
mutual
def uptoBulk {H : Type} : DataW H → Nat
  | .lit (.string bytes) => bytes.length + 1
  | .lit _ => 1
  | .nil => 1
  | .ptr d => uptoBulk d + 1
  | .slice elems spare => uptoBulkAll elems + uptoBulkAll spare + 1
  | .agg parts => uptoBulkAll parts + 1
  | .iface _ d => uptoBulk d + 1
  | .map entries => uptoBulkEntries entries + 1
  | .held _ => 1
def uptoBulkAll {H : Type} : List (DataW H) → Nat
  | [] => 0
  | d :: r => uptoBulk d + uptoBulkAll r
def uptoBulkEntries {H : Type} : List (Lit × DataW H) → Nat
  | [] => 0
  | x :: r => uptoBulkEntry x + uptoBulkEntries r
def uptoBulkEntry {H : Type} : Lit × DataW H → Nat
  | (.string bytes, d) => bytes.length + uptoBulk d + 1
  | (_, d) => uptoBulk d + 1
 end
def uptoSmall : (H : Type) → List (DataW H) → Bool := fun _ ds => decide (uptoBulkAll ds ≤ 1048576)
def OpenSpec.upto (s : _root_.Go.ChangeSpec) : _root_.Go.OpenSpec := { _root_.Go.OpenSpec.ofChange s with cond := some uptoSmall }

/-- 'laws.FnEscapes', WHERE WHAT IT READS IS OF BULK AT MOST 1048576: true; the input reads as it did. -/
def fnEscapesUptoRow : OpenClaim := { program := "ytfigcefdkdlcaaa", sum := "0edadf47891f931206146236e111f6a5356fb9dcf424c5292e06841ffe08a486", func := "loop.example/g00420/laws.FnEscapes", spec := "fnEscapes", plainKeys := false, apart := false, narrowed := true }
def FnEscapesUptoSaid : Prop := fnEscapesUptoRow.holds Try.pinned (OpenSpec.upto fnEscapesSpec)

/-- 'laws.FnKinds', WHERE WHAT IT READS IS OF BULK AT MOST 1048576: true; the input reads as it did. -/
def fnKindsUptoRow : OpenClaim := { program := "ytfigcefdkdlcaaa", sum := "0edadf47891f931206146236e111f6a5356fb9dcf424c5292e06841ffe08a486", func := "loop.example/g00420/laws.FnKinds", spec := "fnKinds", unfollowed := true, recurses := true, plainKeys := false, apart := false, narrowed := true }
def FnKindsUptoSaid : Prop := fnKindsUptoRow.holds Try.pinned (OpenSpec.upto fnKindsSpec)

/-- 'laws.FnTriples', WHERE WHAT IT READS IS OF BULK AT MOST 1048576: true; the input reads as it did. -/
def fnTriplesUptoRow : OpenClaim := { program := "ytfigcefdkdlcaaa", sum := "0edadf47891f931206146236e111f6a5356fb9dcf424c5292e06841ffe08a486", func := "loop.example/g00420/laws.FnTriples", spec := "fnTriples", inPlace := ["internal/bytealg.IndexByteString", "internal/bytealg.IndexString"], unfollowed := true, recurses := true, named := ["internal/bytealg.MaxLen"], plainKeys := false, apart := false, narrowed := true }
def FnTriplesUptoSaid : Prop := fnTriplesUptoRow.holds Try.pinned (OpenSpec.upto fnTriplesSpec)

/-- 'laws.FnAhead', WHERE WHAT IT READS IS OF BULK AT MOST 1048576: true; the input reads as it did. -/
def fnAheadUptoRow : OpenClaim := { program := "ytfigcefdkdlcaaa", sum := "0edadf47891f931206146236e111f6a5356fb9dcf424c5292e06841ffe08a486", func := "loop.example/g00420/laws.FnAhead", spec := "fnAhead", plainKeys := false, apart := false, narrowed := true }
def FnAheadUptoSaid : Prop := fnAheadUptoRow.holds Try.pinned (OpenSpec.upto fnAheadSpec)

/-- 'laws.FnGraphs', WHERE WHAT IT READS IS OF BULK AT MOST 1048576: true; the input reads as it did. -/
def fnGraphsUptoRow : OpenClaim := { program := "ytfigcefdkdlcaaa", sum := "0edadf47891f931206146236e111f6a5356fb9dcf424c5292e06841ffe08a486", func := "loop.example/g00420/laws.FnGraphs", spec := "fnGraphs", inPlace := ["internal/abi.NoEscape", "internal/bytealg.IndexByteString", "internal/bytealg.IndexString"], unfollowed := true, recurses := true, named := ["internal/bytealg.MaxLen"], plainKeys := false, apart := false, narrowed := true }
def FnGraphsUptoSaid : Prop := fnGraphsUptoRow.holds Try.pinned (OpenSpec.upto fnGraphsSpec)

/-- 'laws.FnWith', WHERE WHAT IT READS IS OF BULK AT MOST 1048576: true; the input reads as it did. -/
def fnWithUptoRow : OpenClaim := { program := "ytfigcefdkdlcaaa", sum := "0edadf47891f931206146236e111f6a5356fb9dcf424c5292e06841ffe08a486", func := "loop.example/g00420/laws.FnWith", spec := "fnWith", unfollowed := true, recurses := true, plainKeys := false, apart := false, narrowed := true }
def FnWithUptoSaid : Prop := fnWithUptoRow.holds Try.pinned (OpenSpec.upto fnWithSpec)

/-- 'laws.FnWithout', WHERE WHAT IT READS IS OF BULK AT MOST 1048576: true; the input reads as it did. -/
def fnWithoutUptoRow : OpenClaim := { program := "ytfigcefdkdlcaaa", sum := "0edadf47891f931206146236e111f6a5356fb9dcf424c5292e06841ffe08a486", func := "loop.example/g00420/laws.FnWithout", spec := "fnWithout", unfollowed := true, recurses := true, plainKeys := false, apart := false, narrowed := true }
def FnWithoutUptoSaid : Prop := fnWithoutUptoRow.holds Try.pinned (OpenSpec.upto fnWithoutSpec)

/-- 'laws.FnUnion', WHERE WHAT IT READS IS OF BULK AT MOST 1048576: true; the input reads as it did. -/
def fnUnionUptoRow : OpenClaim := { program := "ytfigcefdkdlcaaa", sum := "0edadf47891f931206146236e111f6a5356fb9dcf424c5292e06841ffe08a486", func := "loop.example/g00420/laws.FnUnion", spec := "fnUnion", unfollowed := true, recurses := true, plainKeys := false, apart := false, narrowed := true }
def FnUnionUptoSaid : Prop := fnUnionUptoRow.holds Try.pinned (OpenSpec.upto fnUnionSpec)

/-- 'laws.FnUnionTwice', WHERE WHAT IT READS IS OF BULK AT MOST 1048576: true; the input reads as it did. -/
def fnUnionTwiceUptoRow : OpenClaim := { program := "ytfigcefdkdlcaaa", sum := "0edadf47891f931206146236e111f6a5356fb9dcf424c5292e06841ffe08a486", func := "loop.example/g00420/laws.FnUnionTwice", spec := "fnUnionTwice", unfollowed := true, recurses := true, plainKeys := false, apart := false, narrowed := true }
def FnUnionTwiceUptoSaid : Prop := fnUnionTwiceUptoRow.holds Try.pinned (OpenSpec.upto fnUnionTwiceSpec)

/-- 'laws.FnWithAny', WHERE WHAT IT READS IS OF BULK AT MOST 1048576: true; the input reads as it did. -/
def fnWithAnyUptoRow : OpenClaim := { program := "ytfigcefdkdlcaaa", sum := "0edadf47891f931206146236e111f6a5356fb9dcf424c5292e06841ffe08a486", func := "loop.example/g00420/laws.FnWithAny", spec := "fnWithAny", unfollowed := true, recurses := true, plainKeys := false, apart := false, narrowed := true }
def FnWithAnyUptoSaid : Prop := fnWithAnyUptoRow.holds Try.pinned (OpenSpec.upto fnWithAnySpec)

/-- 'laws.FnExactEscaped', WHERE WHAT IT READS IS OF BULK AT MOST 1048576: true; the input reads as it did. -/
def fnExactEscapedUptoRow : OpenClaim := { program := "ytfigcefdkdlcaaa", sum := "0edadf47891f931206146236e111f6a5356fb9dcf424c5292e06841ffe08a486", func := "loop.example/g00420/laws.FnExactEscaped", spec := "fnExactEscaped", plainKeys := false, apart := false, narrowed := true }
def FnExactEscapedUptoSaid : Prop := fnExactEscapedUptoRow.holds Try.pinned (OpenSpec.upto fnExactEscapedSpec)

/-- 'laws.FnExactUnescaped', WHERE WHAT IT READS IS OF BULK AT MOST 1048576: true; the input reads as it did. -/
def fnExactUnescapedUptoRow : OpenClaim := { program := "ytfigcefdkdlcaaa", sum := "0edadf47891f931206146236e111f6a5356fb9dcf424c5292e06841ffe08a486", func := "loop.example/g00420/laws.FnExactUnescaped", spec := "fnExactUnescaped", plainKeys := false, apart := false, narrowed := true }
def FnExactUnescapedUptoSaid : Prop := fnExactUnescapedUptoRow.holds Try.pinned (OpenSpec.upto fnExactUnescapedSpec)

end Rows
end Go.Proofs.Ytfigcefdkdlcaaa
