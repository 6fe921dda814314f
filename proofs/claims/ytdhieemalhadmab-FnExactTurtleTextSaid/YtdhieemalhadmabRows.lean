/-
  No cell of these rows narrows 'for every input' (looked for: loops, veiled, ifaces, maps, wideKeys, modest, calm, conditions, laid).
  DERIVED. THE GIVEN ROWS OF THIS SEAT. 9 by the template 'for every input the law returns true; each argument reads behind the call as it read before'; 0 by the template 'total and deterministic' (their statements: YtdhieemalhadmabTotals.lean).
  GIVEN WITH THE SEED: the statements are not yours to turn. If you find one false, say at which input.
  Laid BY PROGRAM, IN A SANDBOX (cutbox-rows.mjs): the forced cells as the released guide's own fill.sh prints them over the translation 3773d1d4949c977b… (all of the seat's roots in one cut). By AI agents, Wed Nov 11 2026. No macro, syntax, notation, axiom, sorry.
-/
import Derived.Test.YtdhieemalhadmabChecked
import GoSem.Claim
import GoSem.ClaimJoined
import GoSem.ClaimMapViews
import Derived.JoinedTies
import Derived.KernelRfl
namespace Go.Proofs.Ytdhieemalhadmab
/- THE CELL 'sum', in the pinned program and in every row, IS THE sha256 OF THE DUMP (.gsa) THAT YtdhieemalhadmabProg.lean LOADS. Nothing in Lean hashes anything: it is a label: what it is worth is what the hold of that sum in a sandbox is worth. -/
noncomputable def Try.pinned : Pinned := { name := "ytdhieemalhadmab", sum := "3773d1d4949c977ba7d9db06555de5e2dfe4fa75ebbbcc718c031c7853b8f076", checked := Try.checked }
namespace Rows
def none {H : Type} : Left H := { results := [], args := [] }

/-- 'laws.FnShortened': WHATEVER THE INPUT: true; the input reads as it did. -/
def fnShortenedSpec : ChangeSpec := { name := "fnShortened", fn := fun _ => fun
  | [d] => { results := [.lit (.bool true)], args := [d] }
  | _ => none }
def fnShortenedRow : OpenClaim := { program := "ytdhieemalhadmab", sum := "3773d1d4949c977ba7d9db06555de5e2dfe4fa75ebbbcc718c031c7853b8f076", func := "loop.example/g00420/laws.FnShortened", spec := "fnShortened", unfollowed := true, recurses := true, apart := false }
def FnShortenedSaid : Prop := fnShortenedRow.holds Try.pinned (OpenSpec.ofChange fnShortenedSpec)

/-- ITS FALSE NEIGHBOUR: 'it returns false'. Refute it at one input. -/
def fnShortenedWrong : ChangeSpec := { name := "fnShortened", fn := fun _ => fun
  | [d] => { results := [.lit (.bool false)], args := [d] }
  | _ => none }
def FnShortenedWrongFalsely : Prop := fnShortenedRow.holds Try.pinned (OpenSpec.ofChange fnShortenedWrong)

/-- 'laws.FnExactPrefixesOk': WHATEVER THE INPUT: true; the input reads as it did. -/
def fnExactPrefixesOkSpec : ChangeSpec := { name := "fnExactPrefixesOk", fn := fun _ => fun
  | [d] => { results := [.lit (.bool true)], args := [d] }
  | _ => none }
def fnExactPrefixesOkRow : OpenClaim := { program := "ytdhieemalhadmab", sum := "3773d1d4949c977ba7d9db06555de5e2dfe4fa75ebbbcc718c031c7853b8f076", func := "loop.example/g00420/laws.FnExactPrefixesOk", spec := "fnExactPrefixesOk", unfollowed := true, recurses := true, apart := false }
def FnExactPrefixesOkSaid : Prop := fnExactPrefixesOkRow.holds Try.pinned (OpenSpec.ofChange fnExactPrefixesOkSpec)

/-- ITS FALSE NEIGHBOUR: 'it returns false'. Refute it at one input. -/
def fnExactPrefixesOkWrong : ChangeSpec := { name := "fnExactPrefixesOk", fn := fun _ => fun
  | [d] => { results := [.lit (.bool false)], args := [d] }
  | _ => none }
def FnExactPrefixesOkWrongFalsely : Prop := fnExactPrefixesOkRow.holds Try.pinned (OpenSpec.ofChange fnExactPrefixesOkWrong)

/-- 'laws.FnExactShortened': WHATEVER THE INPUT: true; the input reads as it did. -/
def fnExactShortenedSpec : ChangeSpec := { name := "fnExactShortened", fn := fun _ => fun
  | [d1, d2] => { results := [.lit (.bool true)], args := [d1, d2] }
  | _ => none }
def fnExactShortenedRow : OpenClaim := { program := "ytdhieemalhadmab", sum := "3773d1d4949c977ba7d9db06555de5e2dfe4fa75ebbbcc718c031c7853b8f076", func := "loop.example/g00420/laws.FnExactShortened", spec := "fnExactShortened", unfollowed := true, recurses := true, apart := false }
def FnExactShortenedSaid : Prop := fnExactShortenedRow.holds Try.pinned (OpenSpec.ofChange fnExactShortenedSpec)

/-- ITS FALSE NEIGHBOUR: 'it returns false'. Refute it at one input. -/
def fnExactShortenedWrong : ChangeSpec := { name := "fnExactShortened", fn := fun _ => fun
  | [d1, d2] => { results := [.lit (.bool false)], args := [d1, d2] }
  | _ => none }
def FnExactShortenedWrongFalsely : Prop := fnExactShortenedRow.holds Try.pinned (OpenSpec.ofChange fnExactShortenedWrong)

/-- 'laws.FnExactTurtleText': WHATEVER THE INPUT: true; the input reads as it did. -/
def fnExactTurtleTextSpec : ChangeSpec := { name := "fnExactTurtleText", fn := fun _ => fun
  | [d1, d2] => { results := [.lit (.bool true)], args := [d1, d2] }
  | _ => none }
def fnExactTurtleTextRow : OpenClaim := { program := "ytdhieemalhadmab", sum := "3773d1d4949c977ba7d9db06555de5e2dfe4fa75ebbbcc718c031c7853b8f076", func := "loop.example/g00420/laws.FnExactTurtleText", spec := "fnExactTurtleText", inPlace := ["internal/abi.NoEscape"], unfollowed := true, recurses := true, apart := false }
def FnExactTurtleTextSaid : Prop := fnExactTurtleTextRow.holds Try.pinned (OpenSpec.ofChange fnExactTurtleTextSpec)

/-- ITS FALSE NEIGHBOUR: 'it returns false'. Refute it at one input. -/
def fnExactTurtleTextWrong : ChangeSpec := { name := "fnExactTurtleText", fn := fun _ => fun
  | [d1, d2] => { results := [.lit (.bool false)], args := [d1, d2] }
  | _ => none }
def FnExactTurtleTextWrongFalsely : Prop := fnExactTurtleTextRow.holds Try.pinned (OpenSpec.ofChange fnExactTurtleTextWrong)

/-- 'laws.FnStores': WHATEVER THE INPUT: true; the input reads as it did. -/
def fnStoresSpec : ChangeSpec := { name := "fnStores", fn := fun _ => fun
  | [d] => { results := [.lit (.bool true)], args := [d] }
  | _ => none }
def fnStoresRow : OpenClaim := { program := "ytdhieemalhadmab", sum := "3773d1d4949c977ba7d9db06555de5e2dfe4fa75ebbbcc718c031c7853b8f076", func := "loop.example/g00420/laws.FnStores", spec := "fnStores", unfollowed := true, recurses := true, apart := false }
def FnStoresSaid : Prop := fnStoresRow.holds Try.pinned (OpenSpec.ofChange fnStoresSpec)

/-- ITS FALSE NEIGHBOUR: 'it returns false'. Refute it at one input. -/
def fnStoresWrong : ChangeSpec := { name := "fnStores", fn := fun _ => fun
  | [d] => { results := [.lit (.bool false)], args := [d] }
  | _ => none }
def FnStoresWrongFalsely : Prop := fnStoresRow.holds Try.pinned (OpenSpec.ofChange fnStoresWrong)

/-- 'laws.FnFound': WHATEVER THE INPUT: true; the input reads as it did. -/
def fnFoundSpec : ChangeSpec := { name := "fnFound", fn := fun _ => fun
  | [d] => { results := [.lit (.bool true)], args := [d] }
  | _ => none }
def fnFoundRow : OpenClaim := { program := "ytdhieemalhadmab", sum := "3773d1d4949c977ba7d9db06555de5e2dfe4fa75ebbbcc718c031c7853b8f076", func := "loop.example/g00420/laws.FnFound", spec := "fnFound", unfollowed := true, recurses := true, apart := false }
def FnFoundSaid : Prop := fnFoundRow.holds Try.pinned (OpenSpec.ofChange fnFoundSpec)

/-- ITS FALSE NEIGHBOUR: 'it returns false'. Refute it at one input. -/
def fnFoundWrong : ChangeSpec := { name := "fnFound", fn := fun _ => fun
  | [d] => { results := [.lit (.bool false)], args := [d] }
  | _ => none }
def FnFoundWrongFalsely : Prop := fnFoundRow.holds Try.pinned (OpenSpec.ofChange fnFoundWrong)

/-- 'laws.FnExactStoreOk': WHATEVER THE INPUT: true; the input reads as it did. -/
def fnExactStoreOkSpec : ChangeSpec := { name := "fnExactStoreOk", fn := fun _ => fun
  | [d] => { results := [.lit (.bool true)], args := [d] }
  | _ => none }
def fnExactStoreOkRow : OpenClaim := { program := "ytdhieemalhadmab", sum := "3773d1d4949c977ba7d9db06555de5e2dfe4fa75ebbbcc718c031c7853b8f076", func := "loop.example/g00420/laws.FnExactStoreOk", spec := "fnExactStoreOk", unfollowed := true, recurses := true, apart := false }
def FnExactStoreOkSaid : Prop := fnExactStoreOkRow.holds Try.pinned (OpenSpec.ofChange fnExactStoreOkSpec)

/-- ITS FALSE NEIGHBOUR: 'it returns false'. Refute it at one input. -/
def fnExactStoreOkWrong : ChangeSpec := { name := "fnExactStoreOk", fn := fun _ => fun
  | [d] => { results := [.lit (.bool false)], args := [d] }
  | _ => none }
def FnExactStoreOkWrongFalsely : Prop := fnExactStoreOkRow.holds Try.pinned (OpenSpec.ofChange fnExactStoreOkWrong)

/-- 'laws.FnExactStoreOf': WHATEVER THE INPUT: true; the input reads as it did. -/
def fnExactStoreOfSpec : ChangeSpec := { name := "fnExactStoreOf", fn := fun _ => fun
  | [d] => { results := [.lit (.bool true)], args := [d] }
  | _ => none }
def fnExactStoreOfRow : OpenClaim := { program := "ytdhieemalhadmab", sum := "3773d1d4949c977ba7d9db06555de5e2dfe4fa75ebbbcc718c031c7853b8f076", func := "loop.example/g00420/laws.FnExactStoreOf", spec := "fnExactStoreOf", unfollowed := true, recurses := true, apart := false }
def FnExactStoreOfSaid : Prop := fnExactStoreOfRow.holds Try.pinned (OpenSpec.ofChange fnExactStoreOfSpec)

/-- ITS FALSE NEIGHBOUR: 'it returns false'. Refute it at one input. -/
def fnExactStoreOfWrong : ChangeSpec := { name := "fnExactStoreOf", fn := fun _ => fun
  | [d] => { results := [.lit (.bool false)], args := [d] }
  | _ => none }
def FnExactStoreOfWrongFalsely : Prop := fnExactStoreOfRow.holds Try.pinned (OpenSpec.ofChange fnExactStoreOfWrong)

/-- 'laws.FnExactFound': WHATEVER THE INPUT: true; the input reads as it did. -/
def fnExactFoundSpec : ChangeSpec := { name := "fnExactFound", fn := fun _ => fun
  | [d1, d2] => { results := [.lit (.bool true)], args := [d1, d2] }
  | _ => none }
def fnExactFoundRow : OpenClaim := { program := "ytdhieemalhadmab", sum := "3773d1d4949c977ba7d9db06555de5e2dfe4fa75ebbbcc718c031c7853b8f076", func := "loop.example/g00420/laws.FnExactFound", spec := "fnExactFound", unfollowed := true, recurses := true, apart := false }
def FnExactFoundSaid : Prop := fnExactFoundRow.holds Try.pinned (OpenSpec.ofChange fnExactFoundSpec)

/-- ITS FALSE NEIGHBOUR: 'it returns false'. Refute it at one input. -/
def fnExactFoundWrong : ChangeSpec := { name := "fnExactFound", fn := fun _ => fun
  | [d1, d2] => { results := [.lit (.bool false)], args := [d1, d2] }
  | _ => none }
def FnExactFoundWrongFalsely : Prop := fnExactFoundRow.holds Try.pinned (OpenSpec.ofChange fnExactFoundWrong)

/- THE SECOND FORM. 'bulk': how many values and letters a reading holds, each counted each time it is reached (what is shared counts as often as it is met; a slice's spare places count too). A statement '..UptoSaid' is the law's where the arguments, and the package variables that the reading takes, are together of bulk at most 1048576: NARROWER than '..Said'. Prove '..Said' where nothing that the law and all that it calls make is longer than what came in: it says more and counts as full. Else prove '..UptoSaid'. A law counts once. -/
mutual
def uptoBulk {H : Type} : DataW H → Nat
  | .lit (.string bytes) => bytes.length + 1
  | .lit _ => 1
  | .nil => 1
  | .ptr d => uptoBulk d + 1
  | .slice elems spare => uptoBulkAll elems + uptoBulkAll spare + 1
  | .agg parts => uptoBulkAll parts + 1
  | .iface _ d => uptoBulk d + 1
  | .map entries => uptoBulkEntries entries + 1
  | .held _ => 1
def uptoBulkAll {H : Type} : List (DataW H) → Nat
  | [] => 0
  | d :: r => uptoBulk d + uptoBulkAll r
def uptoBulkEntries {H : Type} : List (Lit × DataW H) → Nat
  | [] => 0
  | x :: r => uptoBulkEntry x + uptoBulkEntries r
def uptoBulkEntry {H : Type} : Lit × DataW H → Nat
  | (.string bytes, d) => bytes.length + uptoBulk d + 1
  | (_, d) => uptoBulk d + 1
 end
def uptoSmall : (H : Type) → List (DataW H) → Bool := fun _ ds => decide (uptoBulkAll ds ≤ 1048576)
def OpenSpec.upto (s : _root_.Go.ChangeSpec) : _root_.Go.OpenSpec := { _root_.Go.OpenSpec.ofChange s with cond := some uptoSmall }

/-- 'laws.FnShortened', WHERE WHAT IT READS IS OF BULK AT MOST 1048576: true; the input reads as it did. -/
def fnShortenedUptoRow : OpenClaim := { program := "ytdhieemalhadmab", sum := "3773d1d4949c977ba7d9db06555de5e2dfe4fa75ebbbcc718c031c7853b8f076", func := "loop.example/g00420/laws.FnShortened", spec := "fnShortened", unfollowed := true, recurses := true, apart := false, narrowed := true }
def FnShortenedUptoSaid : Prop := fnShortenedUptoRow.holds Try.pinned (OpenSpec.upto fnShortenedSpec)

/-- 'laws.FnExactPrefixesOk', WHERE WHAT IT READS IS OF BULK AT MOST 1048576: true; the input reads as it did. -/
def fnExactPrefixesOkUptoRow : OpenClaim := { program := "ytdhieemalhadmab", sum := "3773d1d4949c977ba7d9db06555de5e2dfe4fa75ebbbcc718c031c7853b8f076", func := "loop.example/g00420/laws.FnExactPrefixesOk", spec := "fnExactPrefixesOk", unfollowed := true, recurses := true, apart := false, narrowed := true }
def FnExactPrefixesOkUptoSaid : Prop := fnExactPrefixesOkUptoRow.holds Try.pinned (OpenSpec.upto fnExactPrefixesOkSpec)

/-- 'laws.FnExactShortened', WHERE WHAT IT READS IS OF BULK AT MOST 1048576: true; the input reads as it did. -/
def fnExactShortenedUptoRow : OpenClaim := { program := "ytdhieemalhadmab", sum := "3773d1d4949c977ba7d9db06555de5e2dfe4fa75ebbbcc718c031c7853b8f076", func := "loop.example/g00420/laws.FnExactShortened", spec := "fnExactShortened", unfollowed := true, recurses := true, apart := false, narrowed := true }
def FnExactShortenedUptoSaid : Prop := fnExactShortenedUptoRow.holds Try.pinned (OpenSpec.upto fnExactShortenedSpec)

/-- 'laws.FnExactTurtleText', WHERE WHAT IT READS IS OF BULK AT MOST 1048576: true; the input reads as it did. -/
def fnExactTurtleTextUptoRow : OpenClaim := { program := "ytdhieemalhadmab", sum := "3773d1d4949c977ba7d9db06555de5e2dfe4fa75ebbbcc718c031c7853b8f076", func := "loop.example/g00420/laws.FnExactTurtleText", spec := "fnExactTurtleText", inPlace := ["internal/abi.NoEscape"], unfollowed := true, recurses := true, apart := false, narrowed := true }
def FnExactTurtleTextUptoSaid : Prop := fnExactTurtleTextUptoRow.holds Try.pinned (OpenSpec.upto fnExactTurtleTextSpec)

/-- 'laws.FnStores', WHERE WHAT IT READS IS OF BULK AT MOST 1048576: true; the input reads as it did. -/
def fnStoresUptoRow : OpenClaim := { program := "ytdhieemalhadmab", sum := "3773d1d4949c977ba7d9db06555de5e2dfe4fa75ebbbcc718c031c7853b8f076", func := "loop.example/g00420/laws.FnStores", spec := "fnStores", unfollowed := true, recurses := true, apart := false, narrowed := true }
def FnStoresUptoSaid : Prop := fnStoresUptoRow.holds Try.pinned (OpenSpec.upto fnStoresSpec)

/-- 'laws.FnFound', WHERE WHAT IT READS IS OF BULK AT MOST 1048576: true; the input reads as it did. -/
def fnFoundUptoRow : OpenClaim := { program := "ytdhieemalhadmab", sum := "3773d1d4949c977ba7d9db06555de5e2dfe4fa75ebbbcc718c031c7853b8f076", func := "loop.example/g00420/laws.FnFound", spec := "fnFound", unfollowed := true, recurses := true, apart := false, narrowed := true }
def FnFoundUptoSaid : Prop := fnFoundUptoRow.holds Try.pinned (OpenSpec.upto fnFoundSpec)

/-- 'laws.FnExactStoreOk', WHERE WHAT IT READS IS OF BULK AT MOST 1048576: true; the input reads as it did. -/
def fnExactStoreOkUptoRow : OpenClaim := { program := "ytdhieemalhadmab", sum := "3773d1d4949c977ba7d9db06555de5e2dfe4fa75ebbbcc718c031c7853b8f076", func := "loop.example/g00420/laws.FnExactStoreOk", spec := "fnExactStoreOk", unfollowed := true, recurses := true, apart := false, narrowed := true }
def FnExactStoreOkUptoSaid : Prop := fnExactStoreOkUptoRow.holds Try.pinned (OpenSpec.upto fnExactStoreOkSpec)

/-- 'laws.FnExactStoreOf', WHERE WHAT IT READS IS OF BULK AT MOST 1048576: true; the input reads as it did. -/
def fnExactStoreOfUptoRow : OpenClaim := { program := "ytdhieemalhadmab", sum := "3773d1d4949c977ba7d9db06555de5e2dfe4fa75ebbbcc718c031c7853b8f076", func := "loop.example/g00420/laws.FnExactStoreOf", spec := "fnExactStoreOf", unfollowed := true, recurses := true, apart := false, narrowed := true }
def FnExactStoreOfUptoSaid : Prop := fnExactStoreOfUptoRow.holds Try.pinned (OpenSpec.upto fnExactStoreOfSpec)

/-- 'laws.FnExactFound', WHERE WHAT IT READS IS OF BULK AT MOST 1048576: true; the input reads as it did. -/
def fnExactFoundUptoRow : OpenClaim := { program := "ytdhieemalhadmab", sum := "3773d1d4949c977ba7d9db06555de5e2dfe4fa75ebbbcc718c031c7853b8f076", func := "loop.example/g00420/laws.FnExactFound", spec := "fnExactFound", unfollowed := true, recurses := true, apart := false, narrowed := true }
def FnExactFoundUptoSaid : Prop := fnExactFoundUptoRow.holds Try.pinned (OpenSpec.upto fnExactFoundSpec)

end Rows
end Go.Proofs.Ytdhieemalhadmab
