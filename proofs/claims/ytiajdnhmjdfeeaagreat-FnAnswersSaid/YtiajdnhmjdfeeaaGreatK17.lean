/- The exact laws' sizes of rows and of texts, and their own copy of texts.; Pairs that are marked, from whatever number on, and their second look.; Pairs that are marked: see PairK; with the rows' sizes. -/
import Derived.Test.YtiajdnhmjdfeeaaGreatK16
import Derived.Test.YtiajdnhmjdfeeaaGreatK11
import Derived.Test.YtiajdnhmjdfeeaaGreatK15
import Derived.Deep.RegionHeld3
import Derived.Test.YtiajdnhmjdfeeaaGreatK14
namespace Go.Proofs.YtiajdnhmjdfeeaaGreat
open Go.RowKit Go.WideShapes
def SmRows (len : Nat) (rs : List RowV) : Prop := len + totR rs ≤ 1048576 ∧ ∀ r ∈ rs, ∀ t ∈ r, t.1.size + t.2.size ≤ 1048576
def SzPostRs (left : Int) (len : Nat) (rs : List RowV) (w : World) (e : Ending) (w' : World) : Prop :=
  ∃ n : Int, e = .returned (.int .i64 n) ∧ (n = -1 ∨ (0 ≤ n ∧ n ≤ left ∧ SmRows len rs)) ∧ Below w.heap.size w w'
def SmStrs (len : Nat) (ts : List ByteArray) : Prop := len ≤ 1048576 ∧ ∀ t ∈ ts, t.size ≤ 1048576
def SzPostT (left : Int) (len : Nat) (ts : List ByteArray) (w : World) (e : Ending) (w' : World) : Prop :=
  ∃ n : Int, e = .returned (.int .i64 n) ∧ (n = -1 ∨ (0 ≤ n ∧ n ≤ left ∧ SmStrs len ts)) ∧ Below w.heap.size w w'
end Go.Proofs.YtiajdnhmjdfeeaaGreat
namespace Go.Proofs.YtiajdnhmjdfeeaaGreat
open Go.RowKit Go.WideShapes
def markPK (k0 i : Nat) : Pre2 := (mark (k0 + 2 * i), mark (k0 + 2 * i + 1))
def marksPK (k0 n : Nat) : List Pre2 := (List.range n).map (markPK k0)
open Go.RowKit Go.WideShapes
def SmAllPr (ts : List Pre2) : Prop := ∀ t ∈ ts, t.1.size ≤ maxLen ∧ t.2.size ≤ maxLen
/-- The call owns a slice of these pairs, between B and C. -/
def OwnPC (B C : Nat) (v : Value) (ts : List Pre2) (w : World) : Prop := OwnP B w v ts ∧ ∀ j, v.ownBlock = some j → j < C
theorem OwnPC.read {B C : Nat} {w : World} {a : Option Addr} {n c : Nat} {ts : List Pre2} (h : OwnPC B C (.slice a n c) ts w) (hm : SmAllPr ts) (hl : ts.length = n) : IsPres w a n c ts := by
  subst hl
  obtain ⟨x, y, e, i⟩ := h.1.is hm
  simp only [Value.slice.injEq, true_and] at e
  obtain ⟨rfl, rfl⟩ := e
  exact i
end Go.Proofs.YtiajdnhmjdfeeaaGreat

