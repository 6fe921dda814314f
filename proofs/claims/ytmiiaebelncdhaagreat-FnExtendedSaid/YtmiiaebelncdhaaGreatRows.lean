/-
  No cell of these rows narrows 'for every input' (looked for: loops, veiled, ifaces, maps, wideKeys, modest, calm, conditions, laid).
  DERIVED. THE GIVEN ROWS OF THIS SEAT. 6 by the template 'for every input the law returns true; each argument reads behind the call as it read before'; 0 by the template 'total and deterministic' (their statements: YtmiiaebelncdhaaGreatTotals.lean).
  GIVEN WITH THE SEED: the statements are not yours to turn. If you find one false, say at which input.
  Laid BY PROGRAM, IN A SANDBOX (cutbox-rows.mjs): the forced cells as the released guide's own fill.sh prints them over the translation 1ea90b50796083c5… (all of the seat's roots in one cut). By AI agents, Wed Nov 11 2026. No macro, syntax, notation, axiom, sorry.
-/
import Derived.Test.YtmiiaebelncdhaaGreatChecked
import GoSem.Claim
import GoSem.ClaimJoined
import GoSem.ClaimMapViews
import Derived.JoinedTies
import Derived.KernelRfl
namespace Go.Proofs.YtmiiaebelncdhaaGreat
/- THE CELL 'sum', in the pinned program and in every row, IS THE sha256 OF THE DUMP (.gsa) THAT YtmiiaebelncdhaaGreatProg.lean LOADS. Nothing in Lean hashes anything: it is a label: what it is worth is what the hold of that sum in a sandbox is worth. -/
noncomputable def Tryz.pinned : Pinned := { name := "ytmiiaebelncdhaagreat", sum := "1ea90b50796083c52378d696d0125d97d7f86856c4972462af3540ffdf0b9200", checked := Tryz.checked }
namespace Rows
def none {H : Type} : Left H := { results := [], args := [] }

/-- 'laws.FnSolutions': WHATEVER THE INPUT: true; the input reads as it did. -/
def fnSolutionsSpec : ChangeSpec := { name := "fnSolutions", fn := fun _ => fun
  | [d] => { results := [.lit (.bool true)], args := [d] }
  | _ => none }
def fnSolutionsRow : OpenClaim := { program := "ytmiiaebelncdhaagreat", sum := "1ea90b50796083c52378d696d0125d97d7f86856c4972462af3540ffdf0b9200", func := "loop.example/g00420/laws.FnSolutions", spec := "fnSolutions", inPlace := ["internal/bytealg.abigen_runtime_cmpstring", "slices.overlaps[loop.example/g00420/impl.Pair]", "internal/abi.NoEscape"], unfollowed := true, recurses := true, plainKeys := false, apart := false }
def FnSolutionsSaid : Prop := fnSolutionsRow.holds Tryz.pinned (OpenSpec.ofChange fnSolutionsSpec)

/-- ITS FALSE NEIGHBOUR: 'it returns false'. Refute it at one input. -/
def fnSolutionsWrong : ChangeSpec := { name := "fnSolutions", fn := fun _ => fun
  | [d] => { results := [.lit (.bool false)], args := [d] }
  | _ => none }
def FnSolutionsWrongFalsely : Prop := fnSolutionsRow.holds Tryz.pinned (OpenSpec.ofChange fnSolutionsWrong)

/-- 'laws.FnAllRows': WHATEVER THE INPUT: true; the input reads as it did. -/
def fnAllRowsSpec : ChangeSpec := { name := "fnAllRows", fn := fun _ => fun
  | [d] => { results := [.lit (.bool true)], args := [d] }
  | _ => none }
def fnAllRowsRow : OpenClaim := { program := "ytmiiaebelncdhaagreat", sum := "1ea90b50796083c52378d696d0125d97d7f86856c4972462af3540ffdf0b9200", func := "loop.example/g00420/laws.FnAllRows", spec := "fnAllRows", inPlace := ["internal/bytealg.abigen_runtime_cmpstring", "slices.overlaps[loop.example/g00420/impl.Pair]", "internal/abi.NoEscape"], unfollowed := true, recurses := true, plainKeys := false, apart := false }
def FnAllRowsSaid : Prop := fnAllRowsRow.holds Tryz.pinned (OpenSpec.ofChange fnAllRowsSpec)

/-- ITS FALSE NEIGHBOUR: 'it returns false'. Refute it at one input. -/
def fnAllRowsWrong : ChangeSpec := { name := "fnAllRows", fn := fun _ => fun
  | [d] => { results := [.lit (.bool false)], args := [d] }
  | _ => none }
def FnAllRowsWrongFalsely : Prop := fnAllRowsRow.holds Tryz.pinned (OpenSpec.ofChange fnAllRowsWrong)

/-- 'laws.FnMoreRows': WHATEVER THE INPUT: true; the input reads as it did. -/
def fnMoreRowsSpec : ChangeSpec := { name := "fnMoreRows", fn := fun _ => fun
  | [d] => { results := [.lit (.bool true)], args := [d] }
  | _ => none }
def fnMoreRowsRow : OpenClaim := { program := "ytmiiaebelncdhaagreat", sum := "1ea90b50796083c52378d696d0125d97d7f86856c4972462af3540ffdf0b9200", func := "loop.example/g00420/laws.FnMoreRows", spec := "fnMoreRows", inPlace := ["internal/bytealg.abigen_runtime_cmpstring", "slices.overlaps[loop.example/g00420/impl.Pair]", "internal/abi.NoEscape"], unfollowed := true, recurses := true, plainKeys := false, apart := false }
def FnMoreRowsSaid : Prop := fnMoreRowsRow.holds Tryz.pinned (OpenSpec.ofChange fnMoreRowsSpec)

/-- ITS FALSE NEIGHBOUR: 'it returns false'. Refute it at one input. -/
def fnMoreRowsWrong : ChangeSpec := { name := "fnMoreRows", fn := fun _ => fun
  | [d] => { results := [.lit (.bool false)], args := [d] }
  | _ => none }
def FnMoreRowsWrongFalsely : Prop := fnMoreRowsRow.holds Tryz.pinned (OpenSpec.ofChange fnMoreRowsWrong)

/-- 'laws.FnProjected': WHATEVER THE INPUT: true; the input reads as it did. -/
def fnProjectedSpec : ChangeSpec := { name := "fnProjected", fn := fun _ => fun
  | [d] => { results := [.lit (.bool true)], args := [d] }
  | _ => none }
def fnProjectedRow : OpenClaim := { program := "ytmiiaebelncdhaagreat", sum := "1ea90b50796083c52378d696d0125d97d7f86856c4972462af3540ffdf0b9200", func := "loop.example/g00420/laws.FnProjected", spec := "fnProjected", inPlace := ["internal/abi.NoEscape"], unfollowed := true, recurses := true, plainKeys := false, apart := false }
def FnProjectedSaid : Prop := fnProjectedRow.holds Tryz.pinned (OpenSpec.ofChange fnProjectedSpec)

/-- ITS FALSE NEIGHBOUR: 'it returns false'. Refute it at one input. -/
def fnProjectedWrong : ChangeSpec := { name := "fnProjected", fn := fun _ => fun
  | [d] => { results := [.lit (.bool false)], args := [d] }
  | _ => none }
def FnProjectedWrongFalsely : Prop := fnProjectedRow.holds Tryz.pinned (OpenSpec.ofChange fnProjectedWrong)

/-- 'laws.FnExtended': WHATEVER THE INPUT: true; the input reads as it did. -/
def fnExtendedSpec : ChangeSpec := { name := "fnExtended", fn := fun _ => fun
  | [d] => { results := [.lit (.bool true)], args := [d] }
  | _ => none }
def fnExtendedRow : OpenClaim := { program := "ytmiiaebelncdhaagreat", sum := "1ea90b50796083c52378d696d0125d97d7f86856c4972462af3540ffdf0b9200", func := "loop.example/g00420/laws.FnExtended", spec := "fnExtended", inPlace := ["internal/bytealg.abigen_runtime_cmpstring", "slices.overlaps[loop.example/g00420/impl.Pair]", "internal/abi.NoEscape"], unfollowed := true, recurses := true, plainKeys := false, apart := false }
def FnExtendedSaid : Prop := fnExtendedRow.holds Tryz.pinned (OpenSpec.ofChange fnExtendedSpec)

/-- ITS FALSE NEIGHBOUR: 'it returns false'. Refute it at one input. -/
def fnExtendedWrong : ChangeSpec := { name := "fnExtended", fn := fun _ => fun
  | [d] => { results := [.lit (.bool false)], args := [d] }
  | _ => none }
def FnExtendedWrongFalsely : Prop := fnExtendedRow.holds Tryz.pinned (OpenSpec.ofChange fnExtendedWrong)

/-- 'laws.FnExactExtended': WHATEVER THE INPUT: true; the input reads as it did. -/
def fnExactExtendedSpec : ChangeSpec := { name := "fnExactExtended", fn := fun _ => fun
  | [d1, d2, d3] => { results := [.lit (.bool true)], args := [d1, d2, d3] }
  | _ => none }
def fnExactExtendedRow : OpenClaim := { program := "ytmiiaebelncdhaagreat", sum := "1ea90b50796083c52378d696d0125d97d7f86856c4972462af3540ffdf0b9200", func := "loop.example/g00420/laws.FnExactExtended", spec := "fnExactExtended", inPlace := ["internal/bytealg.abigen_runtime_cmpstring", "slices.overlaps[loop.example/g00420/impl.Pair]", "internal/abi.NoEscape"], unfollowed := true, recurses := true, plainKeys := false, apart := false }
def FnExactExtendedSaid : Prop := fnExactExtendedRow.holds Tryz.pinned (OpenSpec.ofChange fnExactExtendedSpec)

/-- ITS FALSE NEIGHBOUR: 'it returns false'. Refute it at one input. -/
def fnExactExtendedWrong : ChangeSpec := { name := "fnExactExtended", fn := fun _ => fun
  | [d1, d2, d3] => { results := [.lit (.bool false)], args := [d1, d2, d3] }
  | _ => none }
def FnExactExtendedWrongFalsely : Prop := fnExactExtendedRow.holds Tryz.pinned (OpenSpec.ofChange fnExactExtendedWrong)

/- THE SECOND FORM. 'bulk': how many values and letters a reading holds, each counted each time it is reached (what is shared counts as often as it is met; a slice's spare places count too). A statement '..UptoSaid' is the law's where the arguments, and the package variables that the reading takes, are together of bulk at most 1048576: NARROWER than '..Said'. Prove '..Said' where nothing that the law and all that it calls make is longer than what came in: it says more and counts as full. Else prove '..UptoSaid'. A law counts once. -/
mutual
def uptoBulk {H : Type} : DataW H → Nat
  | .lit (.string bytes) => bytes.length + 1
  | .lit _ => 1
  | .nil => 1
  | .ptr d => uptoBulk d + 1
  | .slice elems spare => uptoBulkAll elems + uptoBulkAll spare + 1
  | .agg parts => uptoBulkAll parts + 1
  | .iface _ d => uptoBulk d + 1
  | .map entries => uptoBulkEntries entries + 1
  | .held _ => 1
def uptoBulkAll {H : Type} : List (DataW H) → Nat
  | [] => 0
  | d :: r => uptoBulk d + uptoBulkAll r
def uptoBulkEntries {H : Type} : List (Lit × DataW H) → Nat
  | [] => 0
  | x :: r => uptoBulkEntry x + uptoBulkEntries r
def uptoBulkEntry {H : Type} : Lit × DataW H → Nat
  | (.string bytes, d) => bytes.length + uptoBulk d + 1
  | (_, d) => uptoBulk d + 1
 end
def uptoSmall : (H : Type) → List (DataW H) → Bool := fun _ ds => decide (uptoBulkAll ds ≤ 1048576)
def OpenSpec.upto (s : _root_.Go.ChangeSpec) : _root_.Go.OpenSpec := { _root_.Go.OpenSpec.ofChange s with cond := some uptoSmall }

/-- 'laws.FnSolutions', WHERE WHAT IT READS IS OF BULK AT MOST 1048576: true; the input reads as it did. -/
def fnSolutionsUptoRow : OpenClaim := { program := "ytmiiaebelncdhaagreat", sum := "1ea90b50796083c52378d696d0125d97d7f86856c4972462af3540ffdf0b9200", func := "loop.example/g00420/laws.FnSolutions", spec := "fnSolutions", inPlace := ["internal/bytealg.abigen_runtime_cmpstring", "slices.overlaps[loop.example/g00420/impl.Pair]", "internal/abi.NoEscape"], unfollowed := true, recurses := true, plainKeys := false, apart := false, narrowed := true }
def FnSolutionsUptoSaid : Prop := fnSolutionsUptoRow.holds Tryz.pinned (OpenSpec.upto fnSolutionsSpec)

/-- 'laws.FnAllRows', WHERE WHAT IT READS IS OF BULK AT MOST 1048576: true; the input reads as it did. -/
def fnAllRowsUptoRow : OpenClaim := { program := "ytmiiaebelncdhaagreat", sum := "1ea90b50796083c52378d696d0125d97d7f86856c4972462af3540ffdf0b9200", func := "loop.example/g00420/laws.FnAllRows", spec := "fnAllRows", inPlace := ["internal/bytealg.abigen_runtime_cmpstring", "slices.overlaps[loop.example/g00420/impl.Pair]", "internal/abi.NoEscape"], unfollowed := true, recurses := true, plainKeys := false, apart := false, narrowed := true }
def FnAllRowsUptoSaid : Prop := fnAllRowsUptoRow.holds Tryz.pinned (OpenSpec.upto fnAllRowsSpec)

/-- 'laws.FnMoreRows', WHERE WHAT IT READS IS OF BULK AT MOST 1048576: true; the input reads as it did. -/
def fnMoreRowsUptoRow : OpenClaim := { program := "ytmiiaebelncdhaagreat", sum := "1ea90b50796083c52378d696d0125d97d7f86856c4972462af3540ffdf0b9200", func := "loop.example/g00420/laws.FnMoreRows", spec := "fnMoreRows", inPlace := ["internal/bytealg.abigen_runtime_cmpstring", "slices.overlaps[loop.example/g00420/impl.Pair]", "internal/abi.NoEscape"], unfollowed := true, recurses := true, plainKeys := false, apart := false, narrowed := true }
def FnMoreRowsUptoSaid : Prop := fnMoreRowsUptoRow.holds Tryz.pinned (OpenSpec.upto fnMoreRowsSpec)

/-- 'laws.FnProjected', WHERE WHAT IT READS IS OF BULK AT MOST 1048576: true; the input reads as it did. -/
def fnProjectedUptoRow : OpenClaim := { program := "ytmiiaebelncdhaagreat", sum := "1ea90b50796083c52378d696d0125d97d7f86856c4972462af3540ffdf0b9200", func := "loop.example/g00420/laws.FnProjected", spec := "fnProjected", inPlace := ["internal/abi.NoEscape"], unfollowed := true, recurses := true, plainKeys := false, apart := false, narrowed := true }
def FnProjectedUptoSaid : Prop := fnProjectedUptoRow.holds Tryz.pinned (OpenSpec.upto fnProjectedSpec)

/-- 'laws.FnExtended', WHERE WHAT IT READS IS OF BULK AT MOST 1048576: true; the input reads as it did. -/
def fnExtendedUptoRow : OpenClaim := { program := "ytmiiaebelncdhaagreat", sum := "1ea90b50796083c52378d696d0125d97d7f86856c4972462af3540ffdf0b9200", func := "loop.example/g00420/laws.FnExtended", spec := "fnExtended", inPlace := ["internal/bytealg.abigen_runtime_cmpstring", "slices.overlaps[loop.example/g00420/impl.Pair]", "internal/abi.NoEscape"], unfollowed := true, recurses := true, plainKeys := false, apart := false, narrowed := true }
def FnExtendedUptoSaid : Prop := fnExtendedUptoRow.holds Tryz.pinned (OpenSpec.upto fnExtendedSpec)

/-- 'laws.FnExactExtended', WHERE WHAT IT READS IS OF BULK AT MOST 1048576: true; the input reads as it did. -/
def fnExactExtendedUptoRow : OpenClaim := { program := "ytmiiaebelncdhaagreat", sum := "1ea90b50796083c52378d696d0125d97d7f86856c4972462af3540ffdf0b9200", func := "loop.example/g00420/laws.FnExactExtended", spec := "fnExactExtended", inPlace := ["internal/bytealg.abigen_runtime_cmpstring", "slices.overlaps[loop.example/g00420/impl.Pair]", "internal/abi.NoEscape"], unfollowed := true, recurses := true, plainKeys := false, apart := false, narrowed := true }
def FnExactExtendedUptoSaid : Prop := fnExactExtendedUptoRow.holds Tryz.pinned (OpenSpec.upto fnExactExtendedSpec)

end Rows
end Go.Proofs.YtmiiaebelncdhaaGreat
