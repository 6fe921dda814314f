/-
  No cell of these rows narrows 'for every input' (looked for: loops, veiled, ifaces, maps, wideKeys, modest, calm, conditions, laid).
  DERIVED. THE GIVEN ROWS OF THIS SEAT. 7 by the template 'for every input the law returns true; each argument reads behind the call as it read before'; 0 by the template 'total and deterministic' (their statements: YtofkploffcplhaaTotals.lean).
  GIVEN WITH THE SEED: the statements are not yours to turn. If you find one false, say at which input.
  Laid BY PROGRAM, IN A SANDBOX (cutbox-rows.mjs): the forced cells as the released guide's own fill.sh prints them over the translation 5f4b1ed193437aa6… (all of the seat's roots in one cut). By AI agents, Wed Nov 11 2026. No macro, syntax, notation, axiom, sorry.
-/
import Derived.Test.YtofkploffcplhaaChecked
import GoSem.Claim
import GoSem.ClaimJoined
import GoSem.ClaimMapViews
import Derived.JoinedTies
import Derived.KernelRfl
namespace Go.Proofs.Ytofkploffcplhaa
/- THE CELL 'sum', in the pinned program and in every row, IS THE sha256 OF THE DUMP (.gsa) THAT YtofkploffcplhaaProg.lean LOADS. Nothing in Lean hashes anything: it is a label: what it is worth is what the hold of that sum in a sandbox is worth. -/
noncomputable def Try.pinned : Pinned := { name := "ytofkploffcplhaa", sum := "5f4b1ed193437aa699b27fd6b3e18b2a189df58f45f8dab4822d8badd1d07b4b", checked := Try.checked }
namespace Rows
def none {H : Type} : Left H := { results := [], args := [] }

/-- 'laws.FnExactPatchOk': WHATEVER THE INPUT: true; the input reads as it did. -/
def fnExactPatchOkSpec : ChangeSpec := { name := "fnExactPatchOk", fn := fun _ => fun
  | [d] => { results := [.lit (.bool true)], args := [d] }
  | _ => none }
def fnExactPatchOkRow : OpenClaim := { program := "ytofkploffcplhaa", sum := "5f4b1ed193437aa699b27fd6b3e18b2a189df58f45f8dab4822d8badd1d07b4b", func := "loop.example/g00420/laws.FnExactPatchOk", spec := "fnExactPatchOk", unfollowed := true, recurses := true, plainKeys := false, apart := false }
def FnExactPatchOkSaid : Prop := fnExactPatchOkRow.holds Try.pinned (OpenSpec.ofChange fnExactPatchOkSpec)

/-- ITS FALSE NEIGHBOUR: 'it returns false'. Refute it at one input. -/
def fnExactPatchOkWrong : ChangeSpec := { name := "fnExactPatchOk", fn := fun _ => fun
  | [d] => { results := [.lit (.bool false)], args := [d] }
  | _ => none }
def FnExactPatchOkWrongFalsely : Prop := fnExactPatchOkRow.holds Try.pinned (OpenSpec.ofChange fnExactPatchOkWrong)

/-- 'laws.FnExactPatchOf': WHATEVER THE INPUT: true; the input reads as it did. -/
def fnExactPatchOfSpec : ChangeSpec := { name := "fnExactPatchOf", fn := fun _ => fun
  | [d1, d2] => { results := [.lit (.bool true)], args := [d1, d2] }
  | _ => none }
def fnExactPatchOfRow : OpenClaim := { program := "ytofkploffcplhaa", sum := "5f4b1ed193437aa699b27fd6b3e18b2a189df58f45f8dab4822d8badd1d07b4b", func := "loop.example/g00420/laws.FnExactPatchOf", spec := "fnExactPatchOf", unfollowed := true, recurses := true, plainKeys := false, apart := false }
def FnExactPatchOfSaid : Prop := fnExactPatchOfRow.holds Try.pinned (OpenSpec.ofChange fnExactPatchOfSpec)

/-- ITS FALSE NEIGHBOUR: 'it returns false'. Refute it at one input. -/
def fnExactPatchOfWrong : ChangeSpec := { name := "fnExactPatchOf", fn := fun _ => fun
  | [d1, d2] => { results := [.lit (.bool false)], args := [d1, d2] }
  | _ => none }
def FnExactPatchOfWrongFalsely : Prop := fnExactPatchOfRow.holds Try.pinned (OpenSpec.ofChange fnExactPatchOfWrong)

/-- 'laws.FnExactPatched': WHATEVER THE INPUT: true; the input reads as it did. -/
def fnExactPatchedSpec : ChangeSpec := { name := "fnExactPatched", fn := fun _ => fun
  | [d1, d2] => { results := [.lit (.bool true)], args := [d1, d2] }
  | _ => none }
def fnExactPatchedRow : OpenClaim := { program := "ytofkploffcplhaa", sum := "5f4b1ed193437aa699b27fd6b3e18b2a189df58f45f8dab4822d8badd1d07b4b", func := "loop.example/g00420/laws.FnExactPatched", spec := "fnExactPatched", unfollowed := true, recurses := true, plainKeys := false, apart := false }
def FnExactPatchedSaid : Prop := fnExactPatchedRow.holds Try.pinned (OpenSpec.ofChange fnExactPatchedSpec)

/-- ITS FALSE NEIGHBOUR: 'it returns false'. Refute it at one input. -/
def fnExactPatchedWrong : ChangeSpec := { name := "fnExactPatched", fn := fun _ => fun
  | [d1, d2] => { results := [.lit (.bool false)], args := [d1, d2] }
  | _ => none }
def FnExactPatchedWrongFalsely : Prop := fnExactPatchedRow.holds Try.pinned (OpenSpec.ofChange fnExactPatchedWrong)

/-- 'laws.FnExactInverse': WHATEVER THE INPUT: true; the input reads as it did. -/
def fnExactInverseSpec : ChangeSpec := { name := "fnExactInverse", fn := fun _ => fun
  | [d] => { results := [.lit (.bool true)], args := [d] }
  | _ => none }
def fnExactInverseRow : OpenClaim := { program := "ytofkploffcplhaa", sum := "5f4b1ed193437aa699b27fd6b3e18b2a189df58f45f8dab4822d8badd1d07b4b", func := "loop.example/g00420/laws.FnExactInverse", spec := "fnExactInverse", plainKeys := false, apart := false }
def FnExactInverseSaid : Prop := fnExactInverseRow.holds Try.pinned (OpenSpec.ofChange fnExactInverseSpec)

/-- ITS FALSE NEIGHBOUR: 'it returns false'. Refute it at one input. -/
def fnExactInverseWrong : ChangeSpec := { name := "fnExactInverse", fn := fun _ => fun
  | [d] => { results := [.lit (.bool false)], args := [d] }
  | _ => none }
def FnExactInverseWrongFalsely : Prop := fnExactInverseRow.holds Try.pinned (OpenSpec.ofChange fnExactInverseWrong)

/-- 'laws.FnExactChained': WHATEVER THE INPUT: true; the input reads as it did. -/
def fnExactChainedSpec : ChangeSpec := { name := "fnExactChained", fn := fun _ => fun
  | [d1, d2] => { results := [.lit (.bool true)], args := [d1, d2] }
  | _ => none }
def fnExactChainedRow : OpenClaim := { program := "ytofkploffcplhaa", sum := "5f4b1ed193437aa699b27fd6b3e18b2a189df58f45f8dab4822d8badd1d07b4b", func := "loop.example/g00420/laws.FnExactChained", spec := "fnExactChained", unfollowed := true, recurses := true, plainKeys := false, apart := false }
def FnExactChainedSaid : Prop := fnExactChainedRow.holds Try.pinned (OpenSpec.ofChange fnExactChainedSpec)

/-- ITS FALSE NEIGHBOUR: 'it returns false'. Refute it at one input. -/
def fnExactChainedWrong : ChangeSpec := { name := "fnExactChained", fn := fun _ => fun
  | [d1, d2] => { results := [.lit (.bool false)], args := [d1, d2] }
  | _ => none }
def FnExactChainedWrongFalsely : Prop := fnExactChainedRow.holds Try.pinned (OpenSpec.ofChange fnExactChainedWrong)

/-- 'laws.FnPatches': WHATEVER THE INPUT: true; the input reads as it did. -/
def fnPatchesSpec : ChangeSpec := { name := "fnPatches", fn := fun _ => fun
  | [d] => { results := [.lit (.bool true)], args := [d] }
  | _ => none }
def fnPatchesRow : OpenClaim := { program := "ytofkploffcplhaa", sum := "5f4b1ed193437aa699b27fd6b3e18b2a189df58f45f8dab4822d8badd1d07b4b", func := "loop.example/g00420/laws.FnPatches", spec := "fnPatches", unfollowed := true, recurses := true, plainKeys := false, apart := false }
def FnPatchesSaid : Prop := fnPatchesRow.holds Try.pinned (OpenSpec.ofChange fnPatchesSpec)

/-- ITS FALSE NEIGHBOUR: 'it returns false'. Refute it at one input. -/
def fnPatchesWrong : ChangeSpec := { name := "fnPatches", fn := fun _ => fun
  | [d] => { results := [.lit (.bool false)], args := [d] }
  | _ => none }
def FnPatchesWrongFalsely : Prop := fnPatchesRow.holds Try.pinned (OpenSpec.ofChange fnPatchesWrong)

/-- 'laws.FnChained': WHATEVER THE INPUT: true; the input reads as it did. -/
def fnChainedSpec : ChangeSpec := { name := "fnChained", fn := fun _ => fun
  | [d] => { results := [.lit (.bool true)], args := [d] }
  | _ => none }
def fnChainedRow : OpenClaim := { program := "ytofkploffcplhaa", sum := "5f4b1ed193437aa699b27fd6b3e18b2a189df58f45f8dab4822d8badd1d07b4b", func := "loop.example/g00420/laws.FnChained", spec := "fnChained", unfollowed := true, recurses := true, plainKeys := false, apart := false }
def FnChainedSaid : Prop := fnChainedRow.holds Try.pinned (OpenSpec.ofChange fnChainedSpec)

/-- ITS FALSE NEIGHBOUR: 'it returns false'. Refute it at one input. -/
def fnChainedWrong : ChangeSpec := { name := "fnChained", fn := fun _ => fun
  | [d] => { results := [.lit (.bool false)], args := [d] }
  | _ => none }
def FnChainedWrongFalsely : Prop := fnChainedRow.holds Try.pinned (OpenSpec.ofChange fnChainedWrong)

/- THE SECOND FORM. 'bulk': how many values and letters a reading holds, each counted each time it is reached (what is shared counts as often as it is met; a slice's spare places count too). A statement '..UptoSaid' is the law's where the arguments, and the package variables that the reading takes, are together of bulk at most 1048576: NARROWER than '..Said'. Prove '..Said' where nothing that the law and all that it calls make is longer than what came in: it says more and counts as full. Else prove '..UptoSaid'. A law counts once. -/
mutual
def uptoBulk {H : Type} : DataW H → Nat
  | .lit (.string bytes) => bytes.length + 1
  | .lit _ => 1
  | .nil => 1
  | .ptr d => uptoBulk d + 1
  | .slice elems spare => uptoBulkAll elems + uptoBulkAll spare + 1
  | .agg parts => uptoBulkAll parts + 1
  | .iface _ d => uptoBulk d + 1
  | .map entries => uptoBulkEntries entries + 1
  | .held _ => 1
def uptoBulkAll {H : Type} : List (DataW H) → Nat
  | [] => 0
  | d :: r => uptoBulk d + uptoBulkAll r
def uptoBulkEntries {H : Type} : List (Lit × DataW H) → Nat
  | [] => 0
  | x :: r => uptoBulkEntry x + uptoBulkEntries r
def uptoBulkEntry {H : Type} : Lit × DataW H → Nat
  | (.string bytes, d) => bytes.length + uptoBulk d + 1
  | (_, d) => uptoBulk d + 1
 end
def uptoSmall : (H : Type) → List (DataW H) → Bool := fun _ ds => decide (uptoBulkAll ds ≤ 1048576)
def OpenSpec.upto (s : _root_.Go.ChangeSpec) : _root_.Go.OpenSpec := { _root_.Go.OpenSpec.ofChange s with cond := some uptoSmall }

/-- 'laws.FnExactPatchOk', WHERE WHAT IT READS IS OF BULK AT MOST 1048576: true; the input reads as it did. -/
def fnExactPatchOkUptoRow : OpenClaim := { program := "ytofkploffcplhaa", sum := "5f4b1ed193437aa699b27fd6b3e18b2a189df58f45f8dab4822d8badd1d07b4b", func := "loop.example/g00420/laws.FnExactPatchOk", spec := "fnExactPatchOk", unfollowed := true, recurses := true, plainKeys := false, apart := false, narrowed := true }
def FnExactPatchOkUptoSaid : Prop := fnExactPatchOkUptoRow.holds Try.pinned (OpenSpec.upto fnExactPatchOkSpec)

/-- 'laws.FnExactPatchOf', WHERE WHAT IT READS IS OF BULK AT MOST 1048576: true; the input reads as it did. -/
def fnExactPatchOfUptoRow : OpenClaim := { program := "ytofkploffcplhaa", sum := "5f4b1ed193437aa699b27fd6b3e18b2a189df58f45f8dab4822d8badd1d07b4b", func := "loop.example/g00420/laws.FnExactPatchOf", spec := "fnExactPatchOf", unfollowed := true, recurses := true, plainKeys := false, apart := false, narrowed := true }
def FnExactPatchOfUptoSaid : Prop := fnExactPatchOfUptoRow.holds Try.pinned (OpenSpec.upto fnExactPatchOfSpec)

/-- 'laws.FnExactPatched', WHERE WHAT IT READS IS OF BULK AT MOST 1048576: true; the input reads as it did. -/
def fnExactPatchedUptoRow : OpenClaim := { program := "ytofkploffcplhaa", sum := "5f4b1ed193437aa699b27fd6b3e18b2a189df58f45f8dab4822d8badd1d07b4b", func := "loop.example/g00420/laws.FnExactPatched", spec := "fnExactPatched", unfollowed := true, recurses := true, plainKeys := false, apart := false, narrowed := true }
def FnExactPatchedUptoSaid : Prop := fnExactPatchedUptoRow.holds Try.pinned (OpenSpec.upto fnExactPatchedSpec)

/-- 'laws.FnExactInverse', WHERE WHAT IT READS IS OF BULK AT MOST 1048576: true; the input reads as it did. -/
def fnExactInverseUptoRow : OpenClaim := { program := "ytofkploffcplhaa", sum := "5f4b1ed193437aa699b27fd6b3e18b2a189df58f45f8dab4822d8badd1d07b4b", func := "loop.example/g00420/laws.FnExactInverse", spec := "fnExactInverse", plainKeys := false, apart := false, narrowed := true }
def FnExactInverseUptoSaid : Prop := fnExactInverseUptoRow.holds Try.pinned (OpenSpec.upto fnExactInverseSpec)

/-- 'laws.FnExactChained', WHERE WHAT IT READS IS OF BULK AT MOST 1048576: true; the input reads as it did. -/
def fnExactChainedUptoRow : OpenClaim := { program := "ytofkploffcplhaa", sum := "5f4b1ed193437aa699b27fd6b3e18b2a189df58f45f8dab4822d8badd1d07b4b", func := "loop.example/g00420/laws.FnExactChained", spec := "fnExactChained", unfollowed := true, recurses := true, plainKeys := false, apart := false, narrowed := true }
def FnExactChainedUptoSaid : Prop := fnExactChainedUptoRow.holds Try.pinned (OpenSpec.upto fnExactChainedSpec)

/-- 'laws.FnPatches', WHERE WHAT IT READS IS OF BULK AT MOST 1048576: true; the input reads as it did. -/
def fnPatchesUptoRow : OpenClaim := { program := "ytofkploffcplhaa", sum := "5f4b1ed193437aa699b27fd6b3e18b2a189df58f45f8dab4822d8badd1d07b4b", func := "loop.example/g00420/laws.FnPatches", spec := "fnPatches", unfollowed := true, recurses := true, plainKeys := false, apart := false, narrowed := true }
def FnPatchesUptoSaid : Prop := fnPatchesUptoRow.holds Try.pinned (OpenSpec.upto fnPatchesSpec)

/-- 'laws.FnChained', WHERE WHAT IT READS IS OF BULK AT MOST 1048576: true; the input reads as it did. -/
def fnChainedUptoRow : OpenClaim := { program := "ytofkploffcplhaa", sum := "5f4b1ed193437aa699b27fd6b3e18b2a189df58f45f8dab4822d8badd1d07b4b", func := "loop.example/g00420/laws.FnChained", spec := "fnChained", unfollowed := true, recurses := true, plainKeys := false, apart := false, narrowed := true }
def FnChainedUptoSaid : Prop := fnChainedUptoRow.holds Try.pinned (OpenSpec.upto fnChainedSpec)

end Rows
end Go.Proofs.Ytofkploffcplhaa
