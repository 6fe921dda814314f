/-
  No cell of these rows narrows 'for every input' (looked for: loops, veiled, ifaces, maps, wideKeys, modest, calm, conditions, laid).
  DERIVED. THE GIVEN ROWS OF THIS SEAT. 4 by the template 'for every input the law returns true; each argument reads behind the call as it read before'; 0 by the template 'total and deterministic' (their statements: YtnjphlaohihbaaaGreatTotals.lean).
  GIVEN WITH THE SEED: the statements are not yours to turn. If you find one false, say at which input.
  Laid BY PROGRAM, IN A SANDBOX (cutbox-rows.mjs): the forced cells as the released guide's own fill.sh prints them over the translation 523c460a4163c8bf… (all of the seat's roots in one cut). By AI agents, Wed Nov 11 2026. No macro, syntax, notation, axiom, sorry.
-/
import Derived.Test.YtnjphlaohihbaaaGreatChecked
import GoSem.Claim
import GoSem.ClaimJoined
import GoSem.ClaimMapViews
import Derived.JoinedTies
import Derived.KernelRfl
namespace Go.Proofs.YtnjphlaohihbaaaGreat
/- THE CELL 'sum', in the pinned program and in every row, IS THE sha256 OF THE DUMP (.gsa) THAT YtnjphlaohihbaaaGreatProg.lean LOADS. Nothing in Lean hashes anything: it is a label: what it is worth is what the hold of that sum in a sandbox is worth. -/
noncomputable def Tryz.pinned : Pinned := { name := "ytnjphlaohihbaaagreat", sum := "523c460a4163c8bfd6a2cbfbb45fa3edfe810d382403535e8398314e9fc60d70", checked := Tryz.checked }
namespace Rows
def none {H : Type} : Left H := { results := [], args := [] }

/-- 'laws.FnDataWith': WHATEVER THE INPUT: true; the input reads as it did. -/
def fnDataWithSpec : ChangeSpec := { name := "fnDataWith", fn := fun _ => fun
  | [d] => { results := [.lit (.bool true)], args := [d] }
  | _ => none }
def fnDataWithRow : OpenClaim := { program := "ytnjphlaohihbaaagreat", sum := "523c460a4163c8bfd6a2cbfbb45fa3edfe810d382403535e8398314e9fc60d70", func := "loop.example/g00420/laws.FnDataWith", spec := "fnDataWith", unfollowed := true, recurses := true, plainKeys := false, apart := false }
def FnDataWithSaid : Prop := fnDataWithRow.holds Tryz.pinned (OpenSpec.ofChange fnDataWithSpec)

/-- ITS FALSE NEIGHBOUR: 'it returns false'. Refute it at one input. -/
def fnDataWithWrong : ChangeSpec := { name := "fnDataWith", fn := fun _ => fun
  | [d] => { results := [.lit (.bool false)], args := [d] }
  | _ => none }
def FnDataWithWrongFalsely : Prop := fnDataWithRow.holds Tryz.pinned (OpenSpec.ofChange fnDataWithWrong)

/-- 'laws.FnDataWithout': WHATEVER THE INPUT: true; the input reads as it did. -/
def fnDataWithoutSpec : ChangeSpec := { name := "fnDataWithout", fn := fun _ => fun
  | [d] => { results := [.lit (.bool true)], args := [d] }
  | _ => none }
def fnDataWithoutRow : OpenClaim := { program := "ytnjphlaohihbaaagreat", sum := "523c460a4163c8bfd6a2cbfbb45fa3edfe810d382403535e8398314e9fc60d70", func := "loop.example/g00420/laws.FnDataWithout", spec := "fnDataWithout", unfollowed := true, recurses := true, plainKeys := false, apart := false }
def FnDataWithoutSaid : Prop := fnDataWithoutRow.holds Tryz.pinned (OpenSpec.ofChange fnDataWithoutSpec)

/-- ITS FALSE NEIGHBOUR: 'it returns false'. Refute it at one input. -/
def fnDataWithoutWrong : ChangeSpec := { name := "fnDataWithout", fn := fun _ => fun
  | [d] => { results := [.lit (.bool false)], args := [d] }
  | _ => none }
def FnDataWithoutWrongFalsely : Prop := fnDataWithoutRow.holds Tryz.pinned (OpenSpec.ofChange fnDataWithoutWrong)

/-- 'laws.FnDataTwice': WHATEVER THE INPUT: true; the input reads as it did. -/
def fnDataTwiceSpec : ChangeSpec := { name := "fnDataTwice", fn := fun _ => fun
  | [d] => { results := [.lit (.bool true)], args := [d] }
  | _ => none }
def fnDataTwiceRow : OpenClaim := { program := "ytnjphlaohihbaaagreat", sum := "523c460a4163c8bfd6a2cbfbb45fa3edfe810d382403535e8398314e9fc60d70", func := "loop.example/g00420/laws.FnDataTwice", spec := "fnDataTwice", unfollowed := true, recurses := true, plainKeys := false, apart := false }
def FnDataTwiceSaid : Prop := fnDataTwiceRow.holds Tryz.pinned (OpenSpec.ofChange fnDataTwiceSpec)

/-- ITS FALSE NEIGHBOUR: 'it returns false'. Refute it at one input. -/
def fnDataTwiceWrong : ChangeSpec := { name := "fnDataTwice", fn := fun _ => fun
  | [d] => { results := [.lit (.bool false)], args := [d] }
  | _ => none }
def FnDataTwiceWrongFalsely : Prop := fnDataTwiceRow.holds Tryz.pinned (OpenSpec.ofChange fnDataTwiceWrong)

/-- 'laws.FnExactDataWithout': WHATEVER THE INPUT: true; the input reads as it did. -/
def fnExactDataWithoutSpec : ChangeSpec := { name := "fnExactDataWithout", fn := fun _ => fun
  | [d1, d2, d3] => { results := [.lit (.bool true)], args := [d1, d2, d3] }
  | _ => none }
def fnExactDataWithoutRow : OpenClaim := { program := "ytnjphlaohihbaaagreat", sum := "523c460a4163c8bfd6a2cbfbb45fa3edfe810d382403535e8398314e9fc60d70", func := "loop.example/g00420/laws.FnExactDataWithout", spec := "fnExactDataWithout", unfollowed := true, recurses := true, plainKeys := false, apart := false }
def FnExactDataWithoutSaid : Prop := fnExactDataWithoutRow.holds Tryz.pinned (OpenSpec.ofChange fnExactDataWithoutSpec)

/-- ITS FALSE NEIGHBOUR: 'it returns false'. Refute it at one input. -/
def fnExactDataWithoutWrong : ChangeSpec := { name := "fnExactDataWithout", fn := fun _ => fun
  | [d1, d2, d3] => { results := [.lit (.bool false)], args := [d1, d2, d3] }
  | _ => none }
def FnExactDataWithoutWrongFalsely : Prop := fnExactDataWithoutRow.holds Tryz.pinned (OpenSpec.ofChange fnExactDataWithoutWrong)

/- THE SECOND FORM. 'bulk': how many values and letters a reading holds, each counted each time it is reached (what is shared counts as often as it is met; a slice's spare places count too). A statement '..UptoSaid' is the law's where the arguments, and the package variables that the reading takes, are together of bulk at most 1048576: NARROWER than '..Said'. Prove '..Said' where nothing that the law and all that it calls make is longer than what came in: it says more and counts as full. Else prove '..UptoSaid'. A law counts once. -/
mutual
def uptoBulk {H : Type} : DataW H → Nat
  | .lit (.string bytes) => bytes.length + 1
  | .lit _ => 1
  | .nil => 1
  | .ptr d => uptoBulk d + 1
  | .slice elems spare => uptoBulkAll elems + uptoBulkAll spare + 1
  | .agg parts => uptoBulkAll parts + 1
  | .iface _ d => uptoBulk d + 1
  | .map entries => uptoBulkEntries entries + 1
  | .held _ => 1
def uptoBulkAll {H : Type} : List (DataW H) → Nat
  | [] => 0
  | d :: r => uptoBulk d + uptoBulkAll r
def uptoBulkEntries {H : Type} : List (Lit × DataW H) → Nat
  | [] => 0
  | x :: r => uptoBulkEntry x + uptoBulkEntries r
def uptoBulkEntry {H : Type} : Lit × DataW H → Nat
  | (.string bytes, d) => bytes.length + uptoBulk d + 1
  | (_, d) => uptoBulk d + 1
 end
def uptoSmall : (H : Type) → List (DataW H) → Bool := fun _ ds => decide (uptoBulkAll ds ≤ 1048576)
def OpenSpec.upto (s : _root_.Go.ChangeSpec) : _root_.Go.OpenSpec := { _root_.Go.OpenSpec.ofChange s with cond := some uptoSmall }

/-- 'laws.FnDataWith', WHERE WHAT IT READS IS OF BULK AT MOST 1048576: true; the input reads as it did. -/
def fnDataWithUptoRow : OpenClaim := { program := "ytnjphlaohihbaaagreat", sum := "523c460a4163c8bfd6a2cbfbb45fa3edfe810d382403535e8398314e9fc60d70", func := "loop.example/g00420/laws.FnDataWith", spec := "fnDataWith", unfollowed := true, recurses := true, plainKeys := false, apart := false, narrowed := true }
def FnDataWithUptoSaid : Prop := fnDataWithUptoRow.holds Tryz.pinned (OpenSpec.upto fnDataWithSpec)

/-- 'laws.FnDataWithout', WHERE WHAT IT READS IS OF BULK AT MOST 1048576: true; the input reads as it did. -/
def fnDataWithoutUptoRow : OpenClaim := { program := "ytnjphlaohihbaaagreat", sum := "523c460a4163c8bfd6a2cbfbb45fa3edfe810d382403535e8398314e9fc60d70", func := "loop.example/g00420/laws.FnDataWithout", spec := "fnDataWithout", unfollowed := true, recurses := true, plainKeys := false, apart := false, narrowed := true }
def FnDataWithoutUptoSaid : Prop := fnDataWithoutUptoRow.holds Tryz.pinned (OpenSpec.upto fnDataWithoutSpec)

/-- 'laws.FnDataTwice', WHERE WHAT IT READS IS OF BULK AT MOST 1048576: true; the input reads as it did. -/
def fnDataTwiceUptoRow : OpenClaim := { program := "ytnjphlaohihbaaagreat", sum := "523c460a4163c8bfd6a2cbfbb45fa3edfe810d382403535e8398314e9fc60d70", func := "loop.example/g00420/laws.FnDataTwice", spec := "fnDataTwice", unfollowed := true, recurses := true, plainKeys := false, apart := false, narrowed := true }
def FnDataTwiceUptoSaid : Prop := fnDataTwiceUptoRow.holds Tryz.pinned (OpenSpec.upto fnDataTwiceSpec)

/-- 'laws.FnExactDataWithout', WHERE WHAT IT READS IS OF BULK AT MOST 1048576: true; the input reads as it did. -/
def fnExactDataWithoutUptoRow : OpenClaim := { program := "ytnjphlaohihbaaagreat", sum := "523c460a4163c8bfd6a2cbfbb45fa3edfe810d382403535e8398314e9fc60d70", func := "loop.example/g00420/laws.FnExactDataWithout", spec := "fnExactDataWithout", unfollowed := true, recurses := true, plainKeys := false, apart := false, narrowed := true }
def FnExactDataWithoutUptoSaid : Prop := fnExactDataWithoutUptoRow.holds Tryz.pinned (OpenSpec.upto fnExactDataWithoutSpec)

end Rows
end Go.Proofs.YtnjphlaohihbaaaGreat
