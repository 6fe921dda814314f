/-
  No cell of these rows narrows 'for every input' (looked for: loops, veiled, ifaces, maps, wideKeys, modest, calm, conditions, laid).
  DERIVED. THE GIVEN ROWS OF THIS SEAT. 10 by the template 'for every input the law returns true; each argument reads behind the call as it read before'; 0 by the template 'total and deterministic' (their statements: YtmklnkogmidkdaaTotals.lean).
  GIVEN WITH THE SEED: the statements are not yours to turn. If you find one false, say at which input.
  Laid BY PROGRAM, IN A SANDBOX (cutbox-rows.mjs): the forced cells as the released guide's own fill.sh prints them over the translation 8e9dd6c0647ebe28… (all of the seat's roots in one cut). By AI agents, Wed Nov 11 2026. No macro, syntax, notation, axiom, sorry.
-/
import Derived.Test.YtmklnkogmidkdaaChecked
import GoSem.Claim
import GoSem.ClaimJoined
import GoSem.ClaimMapViews
import Derived.JoinedTies
import Derived.KernelRfl
namespace Go.Proofs.Ytmklnkogmidkdaa
/- THE CELL 'sum', in the pinned program and in every row, IS THE sha256 OF THE DUMP (.gsa) THAT YtmklnkogmidkdaaProg.lean LOADS. Nothing in Lean hashes anything: it is a label: what it is worth is what the hold of that sum in a sandbox is worth. -/
noncomputable def Try.pinned : Pinned := { name := "ytmklnkogmidkdaa", sum := "8e9dd6c0647ebe28dc045ded14f89b010fd61310a52f97f60186c1da3e95517f", checked := Try.checked }
namespace Rows
def none {H : Type} : Left H := { results := [], args := [] }

/-- 'laws.FnWith': WHATEVER THE INPUT: true; the input reads as it did. -/
def fnWithSpec : ChangeSpec := { name := "fnWith", fn := fun _ => fun
  | [d] => { results := [.lit (.bool true)], args := [d] }
  | _ => none }
def fnWithRow : OpenClaim := { program := "ytmklnkogmidkdaa", sum := "8e9dd6c0647ebe28dc045ded14f89b010fd61310a52f97f60186c1da3e95517f", func := "loop.example/g00420/laws.FnWith", spec := "fnWith", unfollowed := true, recurses := true, plainKeys := false, apart := false }
def FnWithSaid : Prop := fnWithRow.holds Try.pinned (OpenSpec.ofChange fnWithSpec)

/-- ITS FALSE NEIGHBOUR: 'it returns false'. Refute it at one input. -/
def fnWithWrong : ChangeSpec := { name := "fnWith", fn := fun _ => fun
  | [d] => { results := [.lit (.bool false)], args := [d] }
  | _ => none }
def FnWithWrongFalsely : Prop := fnWithRow.holds Try.pinned (OpenSpec.ofChange fnWithWrong)

/-- 'laws.FnWithout': WHATEVER THE INPUT: true; the input reads as it did. -/
def fnWithoutSpec : ChangeSpec := { name := "fnWithout", fn := fun _ => fun
  | [d] => { results := [.lit (.bool true)], args := [d] }
  | _ => none }
def fnWithoutRow : OpenClaim := { program := "ytmklnkogmidkdaa", sum := "8e9dd6c0647ebe28dc045ded14f89b010fd61310a52f97f60186c1da3e95517f", func := "loop.example/g00420/laws.FnWithout", spec := "fnWithout", unfollowed := true, recurses := true, plainKeys := false, apart := false }
def FnWithoutSaid : Prop := fnWithoutRow.holds Try.pinned (OpenSpec.ofChange fnWithoutSpec)

/-- ITS FALSE NEIGHBOUR: 'it returns false'. Refute it at one input. -/
def fnWithoutWrong : ChangeSpec := { name := "fnWithout", fn := fun _ => fun
  | [d] => { results := [.lit (.bool false)], args := [d] }
  | _ => none }
def FnWithoutWrongFalsely : Prop := fnWithoutRow.holds Try.pinned (OpenSpec.ofChange fnWithoutWrong)

/-- 'laws.FnUnion': WHATEVER THE INPUT: true; the input reads as it did. -/
def fnUnionSpec : ChangeSpec := { name := "fnUnion", fn := fun _ => fun
  | [d] => { results := [.lit (.bool true)], args := [d] }
  | _ => none }
def fnUnionRow : OpenClaim := { program := "ytmklnkogmidkdaa", sum := "8e9dd6c0647ebe28dc045ded14f89b010fd61310a52f97f60186c1da3e95517f", func := "loop.example/g00420/laws.FnUnion", spec := "fnUnion", unfollowed := true, recurses := true, plainKeys := false, apart := false }
def FnUnionSaid : Prop := fnUnionRow.holds Try.pinned (OpenSpec.ofChange fnUnionSpec)

/-- ITS FALSE NEIGHBOUR: 'it returns false'. Refute it at one input. -/
def fnUnionWrong : ChangeSpec := { name := "fnUnion", fn := fun _ => fun
  | [d] => { results := [.lit (.bool false)], args := [d] }
  | _ => none }
def FnUnionWrongFalsely : Prop := fnUnionRow.holds Try.pinned (OpenSpec.ofChange fnUnionWrong)

/-- 'laws.FnUnionTwice': WHATEVER THE INPUT: true; the input reads as it did. -/
def fnUnionTwiceSpec : ChangeSpec := { name := "fnUnionTwice", fn := fun _ => fun
  | [d] => { results := [.lit (.bool true)], args := [d] }
  | _ => none }
def fnUnionTwiceRow : OpenClaim := { program := "ytmklnkogmidkdaa", sum := "8e9dd6c0647ebe28dc045ded14f89b010fd61310a52f97f60186c1da3e95517f", func := "loop.example/g00420/laws.FnUnionTwice", spec := "fnUnionTwice", unfollowed := true, recurses := true, plainKeys := false, apart := false }
def FnUnionTwiceSaid : Prop := fnUnionTwiceRow.holds Try.pinned (OpenSpec.ofChange fnUnionTwiceSpec)

/-- ITS FALSE NEIGHBOUR: 'it returns false'. Refute it at one input. -/
def fnUnionTwiceWrong : ChangeSpec := { name := "fnUnionTwice", fn := fun _ => fun
  | [d] => { results := [.lit (.bool false)], args := [d] }
  | _ => none }
def FnUnionTwiceWrongFalsely : Prop := fnUnionTwiceRow.holds Try.pinned (OpenSpec.ofChange fnUnionTwiceWrong)

/-- 'laws.FnWithAny': WHATEVER THE INPUT: true; the input reads as it did. -/
def fnWithAnySpec : ChangeSpec := { name := "fnWithAny", fn := fun _ => fun
  | [d] => { results := [.lit (.bool true)], args := [d] }
  | _ => none }
def fnWithAnyRow : OpenClaim := { program := "ytmklnkogmidkdaa", sum := "8e9dd6c0647ebe28dc045ded14f89b010fd61310a52f97f60186c1da3e95517f", func := "loop.example/g00420/laws.FnWithAny", spec := "fnWithAny", unfollowed := true, recurses := true, plainKeys := false, apart := false }
def FnWithAnySaid : Prop := fnWithAnyRow.holds Try.pinned (OpenSpec.ofChange fnWithAnySpec)

/-- ITS FALSE NEIGHBOUR: 'it returns false'. Refute it at one input. -/
def fnWithAnyWrong : ChangeSpec := { name := "fnWithAny", fn := fun _ => fun
  | [d] => { results := [.lit (.bool false)], args := [d] }
  | _ => none }
def FnWithAnyWrongFalsely : Prop := fnWithAnyRow.holds Try.pinned (OpenSpec.ofChange fnWithAnyWrong)

/-- 'laws.FnExactWith': WHATEVER THE INPUT: true; the input reads as it did. -/
def fnExactWithSpec : ChangeSpec := { name := "fnExactWith", fn := fun _ => fun
  | [d1, d2] => { results := [.lit (.bool true)], args := [d1, d2] }
  | _ => none }
def fnExactWithRow : OpenClaim := { program := "ytmklnkogmidkdaa", sum := "8e9dd6c0647ebe28dc045ded14f89b010fd61310a52f97f60186c1da3e95517f", func := "loop.example/g00420/laws.FnExactWith", spec := "fnExactWith", unfollowed := true, recurses := true, plainKeys := false, apart := false }
def FnExactWithSaid : Prop := fnExactWithRow.holds Try.pinned (OpenSpec.ofChange fnExactWithSpec)

/-- ITS FALSE NEIGHBOUR: 'it returns false'. Refute it at one input. -/
def fnExactWithWrong : ChangeSpec := { name := "fnExactWith", fn := fun _ => fun
  | [d1, d2] => { results := [.lit (.bool false)], args := [d1, d2] }
  | _ => none }
def FnExactWithWrongFalsely : Prop := fnExactWithRow.holds Try.pinned (OpenSpec.ofChange fnExactWithWrong)

/-- 'laws.FnExactWithout': WHATEVER THE INPUT: true; the input reads as it did. -/
def fnExactWithoutSpec : ChangeSpec := { name := "fnExactWithout", fn := fun _ => fun
  | [d1, d2] => { results := [.lit (.bool true)], args := [d1, d2] }
  | _ => none }
def fnExactWithoutRow : OpenClaim := { program := "ytmklnkogmidkdaa", sum := "8e9dd6c0647ebe28dc045ded14f89b010fd61310a52f97f60186c1da3e95517f", func := "loop.example/g00420/laws.FnExactWithout", spec := "fnExactWithout", unfollowed := true, recurses := true, plainKeys := false, apart := false }
def FnExactWithoutSaid : Prop := fnExactWithoutRow.holds Try.pinned (OpenSpec.ofChange fnExactWithoutSpec)

/-- ITS FALSE NEIGHBOUR: 'it returns false'. Refute it at one input. -/
def fnExactWithoutWrong : ChangeSpec := { name := "fnExactWithout", fn := fun _ => fun
  | [d1, d2] => { results := [.lit (.bool false)], args := [d1, d2] }
  | _ => none }
def FnExactWithoutWrongFalsely : Prop := fnExactWithoutRow.holds Try.pinned (OpenSpec.ofChange fnExactWithoutWrong)

/-- 'laws.FnExactUnion': WHATEVER THE INPUT: true; the input reads as it did. -/
def fnExactUnionSpec : ChangeSpec := { name := "fnExactUnion", fn := fun _ => fun
  | [d1, d2] => { results := [.lit (.bool true)], args := [d1, d2] }
  | _ => none }
def fnExactUnionRow : OpenClaim := { program := "ytmklnkogmidkdaa", sum := "8e9dd6c0647ebe28dc045ded14f89b010fd61310a52f97f60186c1da3e95517f", func := "loop.example/g00420/laws.FnExactUnion", spec := "fnExactUnion", unfollowed := true, recurses := true, plainKeys := false, apart := false }
def FnExactUnionSaid : Prop := fnExactUnionRow.holds Try.pinned (OpenSpec.ofChange fnExactUnionSpec)

/-- ITS FALSE NEIGHBOUR: 'it returns false'. Refute it at one input. -/
def fnExactUnionWrong : ChangeSpec := { name := "fnExactUnion", fn := fun _ => fun
  | [d1, d2] => { results := [.lit (.bool false)], args := [d1, d2] }
  | _ => none }
def FnExactUnionWrongFalsely : Prop := fnExactUnionRow.holds Try.pinned (OpenSpec.ofChange fnExactUnionWrong)

/-- 'laws.FnExactClashesOf': WHATEVER THE INPUT: true; the input reads as it did. -/
def fnExactClashesOfSpec : ChangeSpec := { name := "fnExactClashesOf", fn := fun _ => fun
  | [d] => { results := [.lit (.bool true)], args := [d] }
  | _ => none }
def fnExactClashesOfRow : OpenClaim := { program := "ytmklnkogmidkdaa", sum := "8e9dd6c0647ebe28dc045ded14f89b010fd61310a52f97f60186c1da3e95517f", func := "loop.example/g00420/laws.FnExactClashesOf", spec := "fnExactClashesOf", inPlace := ["internal/abi.NoEscape", "internal/bytealg.MakeNoZero"], unfollowed := true, recurses := true, plainKeys := false, apart := false }
def FnExactClashesOfSaid : Prop := fnExactClashesOfRow.holds Try.pinned (OpenSpec.ofChange fnExactClashesOfSpec)

/-- ITS FALSE NEIGHBOUR: 'it returns false'. Refute it at one input. -/
def fnExactClashesOfWrong : ChangeSpec := { name := "fnExactClashesOf", fn := fun _ => fun
  | [d] => { results := [.lit (.bool false)], args := [d] }
  | _ => none }
def FnExactClashesOfWrongFalsely : Prop := fnExactClashesOfRow.holds Try.pinned (OpenSpec.ofChange fnExactClashesOfWrong)

/-- 'laws.FnExactConsistent': WHATEVER THE INPUT: true; the input reads as it did. -/
def fnExactConsistentSpec : ChangeSpec := { name := "fnExactConsistent", fn := fun _ => fun
  | [d] => { results := [.lit (.bool true)], args := [d] }
  | _ => none }
def fnExactConsistentRow : OpenClaim := { program := "ytmklnkogmidkdaa", sum := "8e9dd6c0647ebe28dc045ded14f89b010fd61310a52f97f60186c1da3e95517f", func := "loop.example/g00420/laws.FnExactConsistent", spec := "fnExactConsistent", inPlace := ["internal/abi.NoEscape", "internal/bytealg.MakeNoZero"], unfollowed := true, recurses := true, plainKeys := false, apart := false }
def FnExactConsistentSaid : Prop := fnExactConsistentRow.holds Try.pinned (OpenSpec.ofChange fnExactConsistentSpec)

/-- ITS FALSE NEIGHBOUR: 'it returns false'. Refute it at one input. -/
def fnExactConsistentWrong : ChangeSpec := { name := "fnExactConsistent", fn := fun _ => fun
  | [d] => { results := [.lit (.bool false)], args := [d] }
  | _ => none }
def FnExactConsistentWrongFalsely : Prop := fnExactConsistentRow.holds Try.pinned (OpenSpec.ofChange fnExactConsistentWrong)

/- THE SECOND FORM. 'bulk': how many values and letters a reading holds, each counted each time it is reached (what is shared counts as often as it is met; a slice's spare places count too). A statement '..UptoSaid' is the law's where the arguments, and the package variables that the reading takes, are together of bulk at most 1048576: NARROWER than '..Said'. Prove '..Said' where nothing that the law and all that it calls make is longer than what came in: it says more and counts as full. Else prove '..UptoSaid'. A law counts once. -/
mutual
def uptoBulk {H : Type} : DataW H → Nat
  | .lit (.string bytes) => bytes.length + 1
  | .lit _ => 1
  | .nil => 1
  | .ptr d => uptoBulk d + 1
  | .slice elems spare => uptoBulkAll elems + uptoBulkAll spare + 1
  | .agg parts => uptoBulkAll parts + 1
  | .iface _ d => uptoBulk d + 1
  | .map entries => uptoBulkEntries entries + 1
  | .held _ => 1
def uptoBulkAll {H : Type} : List (DataW H) → Nat
  | [] => 0
  | d :: r => uptoBulk d + uptoBulkAll r
def uptoBulkEntries {H : Type} : List (Lit × DataW H) → Nat
  | [] => 0
  | x :: r => uptoBulkEntry x + uptoBulkEntries r
def uptoBulkEntry {H : Type} : Lit × DataW H → Nat
  | (.string bytes, d) => bytes.length + uptoBulk d + 1
  | (_, d) => uptoBulk d + 1
 end
def uptoSmall : (H : Type) → List (DataW H) → Bool := fun _ ds => decide (uptoBulkAll ds ≤ 1048576)
def OpenSpec.upto (s : _root_.Go.ChangeSpec) : _root_.Go.OpenSpec := { _root_.Go.OpenSpec.ofChange s with cond := some uptoSmall }

/-- 'laws.FnWith', WHERE WHAT IT READS IS OF BULK AT MOST 1048576: true; the input reads as it did. -/
def fnWithUptoRow : OpenClaim := { program := "ytmklnkogmidkdaa", sum := "8e9dd6c0647ebe28dc045ded14f89b010fd61310a52f97f60186c1da3e95517f", func := "loop.example/g00420/laws.FnWith", spec := "fnWith", unfollowed := true, recurses := true, plainKeys := false, apart := false, narrowed := true }
def FnWithUptoSaid : Prop := fnWithUptoRow.holds Try.pinned (OpenSpec.upto fnWithSpec)

/-- 'laws.FnWithout', WHERE WHAT IT READS IS OF BULK AT MOST 1048576: true; the input reads as it did. -/
def fnWithoutUptoRow : OpenClaim := { program := "ytmklnkogmidkdaa", sum := "8e9dd6c0647ebe28dc045ded14f89b010fd61310a52f97f60186c1da3e95517f", func := "loop.example/g00420/laws.FnWithout", spec := "fnWithout", unfollowed := true, recurses := true, plainKeys := false, apart := false, narrowed := true }
def FnWithoutUptoSaid : Prop := fnWithoutUptoRow.holds Try.pinned (OpenSpec.upto fnWithoutSpec)

/-- 'laws.FnUnion', WHERE WHAT IT READS IS OF BULK AT MOST 1048576: true; the input reads as it did. -/
def fnUnionUptoRow : OpenClaim := { program := "ytmklnkogmidkdaa", sum := "8e9dd6c0647ebe28dc045ded14f89b010fd61310a52f97f60186c1da3e95517f", func := "loop.example/g00420/laws.FnUnion", spec := "fnUnion", unfollowed := true, recurses := true, plainKeys := false, apart := false, narrowed := true }
def FnUnionUptoSaid : Prop := fnUnionUptoRow.holds Try.pinned (OpenSpec.upto fnUnionSpec)

/-- 'laws.FnUnionTwice', WHERE WHAT IT READS IS OF BULK AT MOST 1048576: true; the input reads as it did. -/
def fnUnionTwiceUptoRow : OpenClaim := { program := "ytmklnkogmidkdaa", sum := "8e9dd6c0647ebe28dc045ded14f89b010fd61310a52f97f60186c1da3e95517f", func := "loop.example/g00420/laws.FnUnionTwice", spec := "fnUnionTwice", unfollowed := true, recurses := true, plainKeys := false, apart := false, narrowed := true }
def FnUnionTwiceUptoSaid : Prop := fnUnionTwiceUptoRow.holds Try.pinned (OpenSpec.upto fnUnionTwiceSpec)

/-- 'laws.FnWithAny', WHERE WHAT IT READS IS OF BULK AT MOST 1048576: true; the input reads as it did. -/
def fnWithAnyUptoRow : OpenClaim := { program := "ytmklnkogmidkdaa", sum := "8e9dd6c0647ebe28dc045ded14f89b010fd61310a52f97f60186c1da3e95517f", func := "loop.example/g00420/laws.FnWithAny", spec := "fnWithAny", unfollowed := true, recurses := true, plainKeys := false, apart := false, narrowed := true }
def FnWithAnyUptoSaid : Prop := fnWithAnyUptoRow.holds Try.pinned (OpenSpec.upto fnWithAnySpec)

/-- 'laws.FnExactWith', WHERE WHAT IT READS IS OF BULK AT MOST 1048576: true; the input reads as it did. -/
def fnExactWithUptoRow : OpenClaim := { program := "ytmklnkogmidkdaa", sum := "8e9dd6c0647ebe28dc045ded14f89b010fd61310a52f97f60186c1da3e95517f", func := "loop.example/g00420/laws.FnExactWith", spec := "fnExactWith", unfollowed := true, recurses := true, plainKeys := false, apart := false, narrowed := true }
def FnExactWithUptoSaid : Prop := fnExactWithUptoRow.holds Try.pinned (OpenSpec.upto fnExactWithSpec)

/-- 'laws.FnExactWithout', WHERE WHAT IT READS IS OF BULK AT MOST 1048576: true; the input reads as it did. -/
def fnExactWithoutUptoRow : OpenClaim := { program := "ytmklnkogmidkdaa", sum := "8e9dd6c0647ebe28dc045ded14f89b010fd61310a52f97f60186c1da3e95517f", func := "loop.example/g00420/laws.FnExactWithout", spec := "fnExactWithout", unfollowed := true, recurses := true, plainKeys := false, apart := false, narrowed := true }
def FnExactWithoutUptoSaid : Prop := fnExactWithoutUptoRow.holds Try.pinned (OpenSpec.upto fnExactWithoutSpec)

/-- 'laws.FnExactUnion', WHERE WHAT IT READS IS OF BULK AT MOST 1048576: true; the input reads as it did. -/
def fnExactUnionUptoRow : OpenClaim := { program := "ytmklnkogmidkdaa", sum := "8e9dd6c0647ebe28dc045ded14f89b010fd61310a52f97f60186c1da3e95517f", func := "loop.example/g00420/laws.FnExactUnion", spec := "fnExactUnion", unfollowed := true, recurses := true, plainKeys := false, apart := false, narrowed := true }
def FnExactUnionUptoSaid : Prop := fnExactUnionUptoRow.holds Try.pinned (OpenSpec.upto fnExactUnionSpec)

/-- 'laws.FnExactClashesOf', WHERE WHAT IT READS IS OF BULK AT MOST 1048576: true; the input reads as it did. -/
def fnExactClashesOfUptoRow : OpenClaim := { program := "ytmklnkogmidkdaa", sum := "8e9dd6c0647ebe28dc045ded14f89b010fd61310a52f97f60186c1da3e95517f", func := "loop.example/g00420/laws.FnExactClashesOf", spec := "fnExactClashesOf", inPlace := ["internal/abi.NoEscape", "internal/bytealg.MakeNoZero"], unfollowed := true, recurses := true, plainKeys := false, apart := false, narrowed := true }
def FnExactClashesOfUptoSaid : Prop := fnExactClashesOfUptoRow.holds Try.pinned (OpenSpec.upto fnExactClashesOfSpec)

/-- 'laws.FnExactConsistent', WHERE WHAT IT READS IS OF BULK AT MOST 1048576: true; the input reads as it did. -/
def fnExactConsistentUptoRow : OpenClaim := { program := "ytmklnkogmidkdaa", sum := "8e9dd6c0647ebe28dc045ded14f89b010fd61310a52f97f60186c1da3e95517f", func := "loop.example/g00420/laws.FnExactConsistent", spec := "fnExactConsistent", inPlace := ["internal/abi.NoEscape", "internal/bytealg.MakeNoZero"], unfollowed := true, recurses := true, plainKeys := false, apart := false, narrowed := true }
def FnExactConsistentUptoSaid : Prop := fnExactConsistentUptoRow.holds Try.pinned (OpenSpec.upto fnExactConsistentSpec)

end Rows
end Go.Proofs.Ytmklnkogmidkdaa
