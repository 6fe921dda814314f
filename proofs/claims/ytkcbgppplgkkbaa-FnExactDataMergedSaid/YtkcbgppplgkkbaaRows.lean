/-
  No cell of these rows narrows 'for every input' (looked for: loops, veiled, ifaces, maps, wideKeys, modest, calm, conditions, laid).
  DERIVED. THE GIVEN ROWS OF THIS SEAT. 3 by the template 'for every input the law returns true; each argument reads behind the call as it read before'; 0 by the template 'total and deterministic' (their statements: YtkcbgppplgkkbaaTotals.lean).
  GIVEN WITH THE SEED: the statements are not yours to turn. If you find one false, say at which input.
  Laid BY PROGRAM, IN A SANDBOX (cutbox-rows.mjs): the forced cells as the released guide's own fill.sh prints them over the translation 3c7a726b80a23224… (all of the seat's roots in one cut). By AI agents, Wed Nov 11 2026. No macro, syntax, notation, axiom, sorry.
-/
import Derived.Test.YtkcbgppplgkkbaaChecked
import GoSem.Claim
import GoSem.ClaimJoined
import GoSem.ClaimMapViews
import Derived.JoinedTies
import Derived.KernelRfl
namespace Go.Proofs.Ytkcbgppplgkkbaa
/- THE CELL 'sum', in the pinned program and in every row, IS THE sha256 OF THE DUMP (.gsa) THAT YtkcbgppplgkkbaaProg.lean LOADS. Nothing in Lean hashes anything: it is a label: what it is worth is what the hold of that sum in a sandbox is worth. -/
noncomputable def Try.pinned : Pinned := { name := "ytkcbgppplgkkbaa", sum := "3c7a726b80a23224bc9cc48d01f436917b846d9ccc122f52608a334492188c96", checked := Try.checked }
namespace Rows
def none {H : Type} : Left H := { results := [], args := [] }

/-- 'laws.FnExactDataOk': WHATEVER THE INPUT: true; the input reads as it did. -/
def fnExactDataOkSpec : ChangeSpec := { name := "fnExactDataOk", fn := fun _ => fun
  | [d] => { results := [.lit (.bool true)], args := [d] }
  | _ => none }
def fnExactDataOkRow : OpenClaim := { program := "ytkcbgppplgkkbaa", sum := "3c7a726b80a23224bc9cc48d01f436917b846d9ccc122f52608a334492188c96", func := "loop.example/g00420/laws.FnExactDataOk", spec := "fnExactDataOk", unfollowed := true, recurses := true, plainKeys := false, apart := false }
def FnExactDataOkSaid : Prop := fnExactDataOkRow.holds Try.pinned (OpenSpec.ofChange fnExactDataOkSpec)

/-- ITS FALSE NEIGHBOUR: 'it returns false'. Refute it at one input. -/
def fnExactDataOkWrong : ChangeSpec := { name := "fnExactDataOk", fn := fun _ => fun
  | [d] => { results := [.lit (.bool false)], args := [d] }
  | _ => none }
def FnExactDataOkWrongFalsely : Prop := fnExactDataOkRow.holds Try.pinned (OpenSpec.ofChange fnExactDataOkWrong)

/-- 'laws.FnExactDataGraph': WHATEVER THE INPUT: true; the input reads as it did. -/
def fnExactDataGraphSpec : ChangeSpec := { name := "fnExactDataGraph", fn := fun _ => fun
  | [d1, d2] => { results := [.lit (.bool true)], args := [d1, d2] }
  | _ => none }
def fnExactDataGraphRow : OpenClaim := { program := "ytkcbgppplgkkbaa", sum := "3c7a726b80a23224bc9cc48d01f436917b846d9ccc122f52608a334492188c96", func := "loop.example/g00420/laws.FnExactDataGraph", spec := "fnExactDataGraph", unfollowed := true, recurses := true, plainKeys := false, apart := false }
def FnExactDataGraphSaid : Prop := fnExactDataGraphRow.holds Try.pinned (OpenSpec.ofChange fnExactDataGraphSpec)

/-- ITS FALSE NEIGHBOUR: 'it returns false'. Refute it at one input. -/
def fnExactDataGraphWrong : ChangeSpec := { name := "fnExactDataGraph", fn := fun _ => fun
  | [d1, d2] => { results := [.lit (.bool false)], args := [d1, d2] }
  | _ => none }
def FnExactDataGraphWrongFalsely : Prop := fnExactDataGraphRow.holds Try.pinned (OpenSpec.ofChange fnExactDataGraphWrong)

/-- 'laws.FnExactDataMerged': WHATEVER THE INPUT: true; the input reads as it did. -/
def fnExactDataMergedSpec : ChangeSpec := { name := "fnExactDataMerged", fn := fun _ => fun
  | [d] => { results := [.lit (.bool true)], args := [d] }
  | _ => none }
def fnExactDataMergedRow : OpenClaim := { program := "ytkcbgppplgkkbaa", sum := "3c7a726b80a23224bc9cc48d01f436917b846d9ccc122f52608a334492188c96", func := "loop.example/g00420/laws.FnExactDataMerged", spec := "fnExactDataMerged", unfollowed := true, recurses := true, plainKeys := false, apart := false }
def FnExactDataMergedSaid : Prop := fnExactDataMergedRow.holds Try.pinned (OpenSpec.ofChange fnExactDataMergedSpec)

/-- ITS FALSE NEIGHBOUR: 'it returns false'. Refute it at one input. -/
def fnExactDataMergedWrong : ChangeSpec := { name := "fnExactDataMerged", fn := fun _ => fun
  | [d] => { results := [.lit (.bool false)], args := [d] }
  | _ => none }
def FnExactDataMergedWrongFalsely : Prop := fnExactDataMergedRow.holds Try.pinned (OpenSpec.ofChange fnExactDataMergedWrong)

/- THE SECOND FORM. 'bulk': how many values and letters a reading holds, each counted each time it is reached (what is shared counts as often as it is met; a slice's spare places count too). A statement '..UptoSaid' is the law's where the arguments, and the package variables that the reading takes, are together of bulk at most 1048576: NARROWER than '..Said'. Prove '..Said' where nothing that the law and all that it calls make is longer than what came in: it says more and counts as full. Else prove '..UptoSaid'. A law counts once. -/
mutual
def uptoBulk {H : Type} : DataW H → Nat
  | .lit (.string bytes) => bytes.length + 1
  | .lit _ => 1
  | .nil => 1
  | .ptr d => uptoBulk d + 1
  | .slice elems spare => uptoBulkAll elems + uptoBulkAll spare + 1
  | .agg parts => uptoBulkAll parts + 1
  | .iface _ d => uptoBulk d + 1
  | .map entries => uptoBulkEntries entries + 1
  | .held _ => 1
def uptoBulkAll {H : Type} : List (DataW H) → Nat
  | [] => 0
  | d :: r => uptoBulk d + uptoBulkAll r
def uptoBulkEntries {H : Type} : List (Lit × DataW H) → Nat
  | [] => 0
  | x :: r => uptoBulkEntry x + uptoBulkEntries r
def uptoBulkEntry {H : Type} : Lit × DataW H → Nat
  | (.string bytes, d) => bytes.length + uptoBulk d + 1
  | (_, d) => uptoBulk d + 1
 end
def uptoSmall : (H : Type) → List (DataW H) → Bool := fun _ ds => decide (uptoBulkAll ds ≤ 1048576)
def OpenSpec.upto (s : _root_.Go.ChangeSpec) : _root_.Go.OpenSpec := { _root_.Go.OpenSpec.ofChange s with cond := some uptoSmall }

/-- 'laws.FnExactDataOk', WHERE WHAT IT READS IS OF BULK AT MOST 1048576: true; the input reads as it did. -/
def fnExactDataOkUptoRow : OpenClaim := { program := "ytkcbgppplgkkbaa", sum := "3c7a726b80a23224bc9cc48d01f436917b846d9ccc122f52608a334492188c96", func := "loop.example/g00420/laws.FnExactDataOk", spec := "fnExactDataOk", unfollowed := true, recurses := true, plainKeys := false, apart := false, narrowed := true }
def FnExactDataOkUptoSaid : Prop := fnExactDataOkUptoRow.holds Try.pinned (OpenSpec.upto fnExactDataOkSpec)

/-- 'laws.FnExactDataGraph', WHERE WHAT IT READS IS OF BULK AT MOST 1048576: true; the input reads as it did. -/
def fnExactDataGraphUptoRow : OpenClaim := { program := "ytkcbgppplgkkbaa", sum := "3c7a726b80a23224bc9cc48d01f436917b846d9ccc122f52608a334492188c96", func := "loop.example/g00420/laws.FnExactDataGraph", spec := "fnExactDataGraph", unfollowed := true, recurses := true, plainKeys := false, apart := false, narrowed := true }
def FnExactDataGraphUptoSaid : Prop := fnExactDataGraphUptoRow.holds Try.pinned (OpenSpec.upto fnExactDataGraphSpec)

/-- 'laws.FnExactDataMerged', WHERE WHAT IT READS IS OF BULK AT MOST 1048576: true; the input reads as it did. -/
def fnExactDataMergedUptoRow : OpenClaim := { program := "ytkcbgppplgkkbaa", sum := "3c7a726b80a23224bc9cc48d01f436917b846d9ccc122f52608a334492188c96", func := "loop.example/g00420/laws.FnExactDataMerged", spec := "fnExactDataMerged", unfollowed := true, recurses := true, plainKeys := false, apart := false, narrowed := true }
def FnExactDataMergedUptoSaid : Prop := fnExactDataMergedUptoRow.holds Try.pinned (OpenSpec.upto fnExactDataMergedSpec)

end Rows
end Go.Proofs.Ytkcbgppplgkkbaa
