/-
  No cell of these rows narrows 'for every input' (looked for: loops, veiled, ifaces, maps, wideKeys, modest, calm, conditions, laid).
  DERIVED. THE GIVEN ROWS OF THIS SEAT. 5 by the template 'for every input the law returns true; each argument reads behind the call as it read before'; 0 by the template 'total and deterministic' (their statements: YtiajdnhmjdfeeaaGreatTotals.lean).
  GIVEN WITH THE SEED: the statements are not yours to turn. If you find one false, say at which input.
  Laid BY PROGRAM, IN A SANDBOX (cutbox-rows.mjs): the forced cells as the released guide's own fill.sh prints them over the translation 513e442540fa7e39… (all of the seat's roots in one cut). By AI agents, Wed Nov 11 2026. No macro, syntax, notation, axiom, sorry.
-/
import Derived.Test.YtiajdnhmjdfeeaaGreatChecked
import GoSem.Claim
import GoSem.ClaimJoined
import GoSem.ClaimMapViews
import Derived.JoinedTies
import Derived.KernelRfl
namespace Go.Proofs.YtiajdnhmjdfeeaaGreat
/- THE CELL 'sum', in the pinned program and in every row, IS THE sha256 OF THE DUMP (.gsa) THAT YtiajdnhmjdfeeaaGreatProg.lean LOADS. Nothing in Lean hashes anything: it is a label: what it is worth is what the hold of that sum in a sandbox is worth. -/
noncomputable def Tryz.pinned : Pinned := { name := "ytiajdnhmjdfeeaagreat", sum := "513e442540fa7e39c3b9817621f2bbf7afbe0ef64f6588d66cd284ca122b4062", checked := Tryz.checked }
namespace Rows
def none {H : Type} : Left H := { results := [], args := [] }

/-- 'laws.FnExactAnswer': WHATEVER THE INPUT: true; the input reads as it did. -/
def fnExactAnswerSpec : ChangeSpec := { name := "fnExactAnswer", fn := fun _ => fun
  | [d1, d2] => { results := [.lit (.bool true)], args := [d1, d2] }
  | _ => none }
def fnExactAnswerRow : OpenClaim := { program := "ytiajdnhmjdfeeaagreat", sum := "513e442540fa7e39c3b9817621f2bbf7afbe0ef64f6588d66cd284ca122b4062", func := "loop.example/g00420/laws.FnExactAnswer", spec := "fnExactAnswer", inPlace := ["internal/bytealg.abigen_runtime_cmpstring", "slices.overlaps[loop.example/g00420/impl.Pair]", "internal/abi.NoEscape"], unfollowed := true, recurses := true, plainKeys := false, apart := false }
def FnExactAnswerSaid : Prop := fnExactAnswerRow.holds Tryz.pinned (OpenSpec.ofChange fnExactAnswerSpec)

/-- ITS FALSE NEIGHBOUR: 'it returns false'. Refute it at one input. -/
def fnExactAnswerWrong : ChangeSpec := { name := "fnExactAnswer", fn := fun _ => fun
  | [d1, d2] => { results := [.lit (.bool false)], args := [d1, d2] }
  | _ => none }
def FnExactAnswerWrongFalsely : Prop := fnExactAnswerRow.holds Tryz.pinned (OpenSpec.ofChange fnExactAnswerWrong)

/-- 'laws.FnAnswers': WHATEVER THE INPUT: true; the input reads as it did. -/
def fnAnswersSpec : ChangeSpec := { name := "fnAnswers", fn := fun _ => fun
  | [d] => { results := [.lit (.bool true)], args := [d] }
  | _ => none }
def fnAnswersRow : OpenClaim := { program := "ytiajdnhmjdfeeaagreat", sum := "513e442540fa7e39c3b9817621f2bbf7afbe0ef64f6588d66cd284ca122b4062", func := "loop.example/g00420/laws.FnAnswers", spec := "fnAnswers", inPlace := ["internal/bytealg.abigen_runtime_cmpstring", "slices.overlaps[loop.example/g00420/impl.Pair]", "internal/abi.NoEscape", "internal/bytealg.MakeNoZero"], unfollowed := true, recurses := true, plainKeys := false, apart := false }
def FnAnswersSaid : Prop := fnAnswersRow.holds Tryz.pinned (OpenSpec.ofChange fnAnswersSpec)

/-- ITS FALSE NEIGHBOUR: 'it returns false'. Refute it at one input. -/
def fnAnswersWrong : ChangeSpec := { name := "fnAnswers", fn := fun _ => fun
  | [d] => { results := [.lit (.bool false)], args := [d] }
  | _ => none }
def FnAnswersWrongFalsely : Prop := fnAnswersRow.holds Tryz.pinned (OpenSpec.ofChange fnAnswersWrong)

/-- 'laws.FnFirstAsked': WHATEVER THE INPUT: true; the input reads as it did. -/
def fnFirstAskedSpec : ChangeSpec := { name := "fnFirstAsked", fn := fun _ => fun
  | [d] => { results := [.lit (.bool true)], args := [d] }
  | _ => none }
def fnFirstAskedRow : OpenClaim := { program := "ytiajdnhmjdfeeaagreat", sum := "513e442540fa7e39c3b9817621f2bbf7afbe0ef64f6588d66cd284ca122b4062", func := "loop.example/g00420/laws.FnFirstAsked", spec := "fnFirstAsked", inPlace := ["internal/bytealg.abigen_runtime_cmpstring", "slices.overlaps[loop.example/g00420/impl.Pair]", "internal/abi.NoEscape"], unfollowed := true, recurses := true, plainKeys := false, apart := false }
def FnFirstAskedSaid : Prop := fnFirstAskedRow.holds Tryz.pinned (OpenSpec.ofChange fnFirstAskedSpec)

/-- ITS FALSE NEIGHBOUR: 'it returns false'. Refute it at one input. -/
def fnFirstAskedWrong : ChangeSpec := { name := "fnFirstAsked", fn := fun _ => fun
  | [d] => { results := [.lit (.bool false)], args := [d] }
  | _ => none }
def FnFirstAskedWrongFalsely : Prop := fnFirstAskedRow.holds Tryz.pinned (OpenSpec.ofChange fnFirstAskedWrong)

/-- 'laws.FnExactFired': WHATEVER THE INPUT: true; the input reads as it did. -/
def fnExactFiredSpec : ChangeSpec := { name := "fnExactFired", fn := fun _ => fun
  | [d1, d2] => { results := [.lit (.bool true)], args := [d1, d2] }
  | _ => none }
def fnExactFiredRow : OpenClaim := { program := "ytiajdnhmjdfeeaagreat", sum := "513e442540fa7e39c3b9817621f2bbf7afbe0ef64f6588d66cd284ca122b4062", func := "loop.example/g00420/laws.FnExactFired", spec := "fnExactFired", inPlace := ["internal/bytealg.abigen_runtime_cmpstring", "slices.overlaps[loop.example/g00420/impl.Pair]", "internal/abi.NoEscape"], unfollowed := true, recurses := true, plainKeys := false, apart := false }
def FnExactFiredSaid : Prop := fnExactFiredRow.holds Tryz.pinned (OpenSpec.ofChange fnExactFiredSpec)

/-- ITS FALSE NEIGHBOUR: 'it returns false'. Refute it at one input. -/
def fnExactFiredWrong : ChangeSpec := { name := "fnExactFired", fn := fun _ => fun
  | [d1, d2] => { results := [.lit (.bool false)], args := [d1, d2] }
  | _ => none }
def FnExactFiredWrongFalsely : Prop := fnExactFiredRow.holds Tryz.pinned (OpenSpec.ofChange fnExactFiredWrong)

/-- 'laws.FnFired': WHATEVER THE INPUT: true; the input reads as it did. -/
def fnFiredSpec : ChangeSpec := { name := "fnFired", fn := fun _ => fun
  | [d] => { results := [.lit (.bool true)], args := [d] }
  | _ => none }
def fnFiredRow : OpenClaim := { program := "ytiajdnhmjdfeeaagreat", sum := "513e442540fa7e39c3b9817621f2bbf7afbe0ef64f6588d66cd284ca122b4062", func := "loop.example/g00420/laws.FnFired", spec := "fnFired", inPlace := ["internal/bytealg.abigen_runtime_cmpstring", "slices.overlaps[loop.example/g00420/impl.Pair]", "internal/abi.NoEscape"], unfollowed := true, recurses := true, plainKeys := false, apart := false }
def FnFiredSaid : Prop := fnFiredRow.holds Tryz.pinned (OpenSpec.ofChange fnFiredSpec)

/-- ITS FALSE NEIGHBOUR: 'it returns false'. Refute it at one input. -/
def fnFiredWrong : ChangeSpec := { name := "fnFired", fn := fun _ => fun
  | [d] => { results := [.lit (.bool false)], args := [d] }
  | _ => none }
def FnFiredWrongFalsely : Prop := fnFiredRow.holds Tryz.pinned (OpenSpec.ofChange fnFiredWrong)

/- THE SECOND FORM. 'bulk': how many values and letters a reading holds, each counted each time it is reached (what is shared counts as often as it is met; a slice's spare places count too). A statement '..UptoSaid' is the law's where the arguments, and the package variables that the reading takes, are together of bulk at most 1048576: NARROWER than '..Said'. Prove '..Said' where nothing that the law and all that it calls make is longer than what came in: it says more and counts as full. Else prove '..UptoSaid'. A law counts once. -/
mutual
def uptoBulk {H : Type} : DataW H → Nat
  | .lit (.string bytes) => bytes.length + 1
  | .lit _ => 1
  | .nil => 1
  | .ptr d => uptoBulk d + 1
  | .slice elems spare => uptoBulkAll elems + uptoBulkAll spare + 1
  | .agg parts => uptoBulkAll parts + 1
  | .iface _ d => uptoBulk d + 1
  | .map entries => uptoBulkEntries entries + 1
  | .held _ => 1
def uptoBulkAll {H : Type} : List (DataW H) → Nat
  | [] => 0
  | d :: r => uptoBulk d + uptoBulkAll r
def uptoBulkEntries {H : Type} : List (Lit × DataW H) → Nat
  | [] => 0
  | x :: r => uptoBulkEntry x + uptoBulkEntries r
def uptoBulkEntry {H : Type} : Lit × DataW H → Nat
  | (.string bytes, d) => bytes.length + uptoBulk d + 1
  | (_, d) => uptoBulk d + 1
 end
def uptoSmall : (H : Type) → List (DataW H) → Bool := fun _ ds => decide (uptoBulkAll ds ≤ 1048576)
def OpenSpec.upto (s : _root_.Go.ChangeSpec) : _root_.Go.OpenSpec := { _root_.Go.OpenSpec.ofChange s with cond := some uptoSmall }

/-- 'laws.FnExactAnswer', WHERE WHAT IT READS IS OF BULK AT MOST 1048576: true; the input reads as it did. -/
def fnExactAnswerUptoRow : OpenClaim := { program := "ytiajdnhmjdfeeaagreat", sum := "513e442540fa7e39c3b9817621f2bbf7afbe0ef64f6588d66cd284ca122b4062", func := "loop.example/g00420/laws.FnExactAnswer", spec := "fnExactAnswer", inPlace := ["internal/bytealg.abigen_runtime_cmpstring", "slices.overlaps[loop.example/g00420/impl.Pair]", "internal/abi.NoEscape"], unfollowed := true, recurses := true, plainKeys := false, apart := false, narrowed := true }
def FnExactAnswerUptoSaid : Prop := fnExactAnswerUptoRow.holds Tryz.pinned (OpenSpec.upto fnExactAnswerSpec)

/-- 'laws.FnAnswers', WHERE WHAT IT READS IS OF BULK AT MOST 1048576: true; the input reads as it did. -/
def fnAnswersUptoRow : OpenClaim := { program := "ytiajdnhmjdfeeaagreat", sum := "513e442540fa7e39c3b9817621f2bbf7afbe0ef64f6588d66cd284ca122b4062", func := "loop.example/g00420/laws.FnAnswers", spec := "fnAnswers", inPlace := ["internal/bytealg.abigen_runtime_cmpstring", "slices.overlaps[loop.example/g00420/impl.Pair]", "internal/abi.NoEscape", "internal/bytealg.MakeNoZero"], unfollowed := true, recurses := true, plainKeys := false, apart := false, narrowed := true }
def FnAnswersUptoSaid : Prop := fnAnswersUptoRow.holds Tryz.pinned (OpenSpec.upto fnAnswersSpec)

/-- 'laws.FnFirstAsked', WHERE WHAT IT READS IS OF BULK AT MOST 1048576: true; the input reads as it did. -/
def fnFirstAskedUptoRow : OpenClaim := { program := "ytiajdnhmjdfeeaagreat", sum := "513e442540fa7e39c3b9817621f2bbf7afbe0ef64f6588d66cd284ca122b4062", func := "loop.example/g00420/laws.FnFirstAsked", spec := "fnFirstAsked", inPlace := ["internal/bytealg.abigen_runtime_cmpstring", "slices.overlaps[loop.example/g00420/impl.Pair]", "internal/abi.NoEscape"], unfollowed := true, recurses := true, plainKeys := false, apart := false, narrowed := true }
def FnFirstAskedUptoSaid : Prop := fnFirstAskedUptoRow.holds Tryz.pinned (OpenSpec.upto fnFirstAskedSpec)

/-- 'laws.FnExactFired', WHERE WHAT IT READS IS OF BULK AT MOST 1048576: true; the input reads as it did. -/
def fnExactFiredUptoRow : OpenClaim := { program := "ytiajdnhmjdfeeaagreat", sum := "513e442540fa7e39c3b9817621f2bbf7afbe0ef64f6588d66cd284ca122b4062", func := "loop.example/g00420/laws.FnExactFired", spec := "fnExactFired", inPlace := ["internal/bytealg.abigen_runtime_cmpstring", "slices.overlaps[loop.example/g00420/impl.Pair]", "internal/abi.NoEscape"], unfollowed := true, recurses := true, plainKeys := false, apart := false, narrowed := true }
def FnExactFiredUptoSaid : Prop := fnExactFiredUptoRow.holds Tryz.pinned (OpenSpec.upto fnExactFiredSpec)

/-- 'laws.FnFired', WHERE WHAT IT READS IS OF BULK AT MOST 1048576: true; the input reads as it did. -/
def fnFiredUptoRow : OpenClaim := { program := "ytiajdnhmjdfeeaagreat", sum := "513e442540fa7e39c3b9817621f2bbf7afbe0ef64f6588d66cd284ca122b4062", func := "loop.example/g00420/laws.FnFired", spec := "fnFired", inPlace := ["internal/bytealg.abigen_runtime_cmpstring", "slices.overlaps[loop.example/g00420/impl.Pair]", "internal/abi.NoEscape"], unfollowed := true, recurses := true, plainKeys := false, apart := false, narrowed := true }
def FnFiredUptoSaid : Prop := fnFiredUptoRow.holds Tryz.pinned (OpenSpec.upto fnFiredSpec)

end Rows
end Go.Proofs.YtiajdnhmjdfeeaaGreat
