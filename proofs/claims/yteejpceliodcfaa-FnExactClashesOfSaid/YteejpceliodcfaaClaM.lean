/- What clashes: plain facts; the text of one. -/
import Derived.Test.YteejpceliodcfaaTxtKeys
import Derived.Test.YteejpceliodcfaaTSet
import Derived.Test.YteejpceliodcfaaJoinL
namespace Go.Proofs.Yteejpceliodcfaa
open Go.RowKit Go.WideShapes Go.Maps
abbrev tyB : ByteArray := ⟨#[60, 116, 121, 112, 101, 62]⟩
abbrev noB : ByteArray := ⟨#[60, 110, 111, 116, 104, 105, 110, 103, 62]⟩
abbrev saB : ByteArray := ⟨#[60, 115, 97, 109, 101, 62]⟩
abbrev diB : ByteArray := ⟨#[60, 100, 105, 102, 102, 62]⟩
abbrev djB : ByteArray := ⟨#[60, 100, 105, 115, 106, 62]⟩
abbrev wNo : ByteArray := ⟨#[110, 111, 116, 104, 105, 110, 103]⟩
abbrev wSa : ByteArray := ⟨#[115, 97, 109, 101]⟩
abbrev wDj : ByteArray := ⟨#[100, 105, 115, 106]⟩
def jnW (xs : List ByteArray) : Txt := Lib.join (xs.map (·.data.toList)) [32]
def classW (g : List Tri3) (c d : ByteArray) (u : Tri3) : List Txt := if u.2.1 = tyB ∧ u.2.2 = c ∧ (u.1, tyB, d) ∈ g then [jnW [wDj, u.1, c, d]] else []
def clashW (g : List Tri3) (t : Tri3) : List Txt :=
  if t.2.1 = tyB then (if t.2.2 = noB then [jnW [wNo, t.1]] else [])
  else if t.2.1 = saB then (if (t.1, diB, t.2.2) ∈ g then [jnW [wSa, t.1, t.2.2]] else [])
  else if t.2.1 = djB then g.flatMap (classW g t.1 t.2.2) else []
def clashesT (g : List Tri3) : List Txt := if graphOk g = true then putAllS [] (g.flatMap (clashW g)) else []
theorem lit_is {p : ByteArray} (l : List UInt8) (h : p = bs l) : (p.toList == l) = true := by subst h; rw [bs_list]; simp
theorem lit_not {p : ByteArray} (l : List UInt8) (h : p ≠ bs l) : (p.toList == l) = false := by
  rw [beq_eq_false_iff_ne, ByteArray.toList_eq]
  exact fun e => h (bs_eq e)
theorem bl_is {a b : ByteArray} (h : a = b) : (a.toList == b.toList) = true := by subst h; simp
theorem bl_not {a b : ByteArray} (h : a ≠ b) : (a.toList == b.toList) = false := by
  rw [beq_eq_false_iff_ne, ByteArray.toList_eq, ByteArray.toList_eq]; exact fun e => h (data_inj e)
theorem jn2 (a b : ByteArray) : jnW [a, b] = a.data.toList ++ (32 :: b.data.toList) := by simp [jnW, Lib.join_cons, Lib.joinTail]
theorem jn3 (a b c : ByteArray) : jnW [a, b, c] = a.data.toList ++ (32 :: b.data.toList) ++ (32 :: c.data.toList) := by simp [jnW, Lib.join_cons, Lib.joinTail]
theorem jn4 (a b c d : ByteArray) : jnW [a, b, c, d] = a.data.toList ++ (32 :: b.data.toList) ++ (32 :: c.data.toList) ++ (32 :: d.data.toList) := by simp [jnW, Lib.join_cons, Lib.joinTail]
theorem jn2_len (a b : ByteArray) : (jnW [a, b]).length = a.size + b.size + 1 := by
  rw [jn2]; simp only [List.length_append, List.length_cons]
  have h1 : a.data.toList.length = a.size := rfl
  have h2 : b.data.toList.length = b.size := rfl
  omega
theorem jn3_len (a b c : ByteArray) : (jnW [a, b, c]).length = a.size + b.size + c.size + 2 := by
  rw [jn3]; simp only [List.length_append, List.length_cons]
  have h1 : a.data.toList.length = a.size := rfl
  have h2 : b.data.toList.length = b.size := rfl
  have h3 : c.data.toList.length = c.size := rfl
  omega
theorem jn4_len (a b c d : ByteArray) : (jnW [a, b, c, d]).length = a.size + b.size + c.size + d.size + 3 := by
  rw [jn4]; simp only [List.length_append, List.length_cons]
  have h1 : a.data.toList.length = a.size := rfl
  have h2 : b.data.toList.length = b.size := rfl
  have h3 : c.data.toList.length = c.size := rfl
  have h4 : d.data.toList.length = d.size := rfl
  omega
theorem classW_len (g : List Tri3) (c d : ByteArray) (u : Tri3) : (classW g c d u).length ≤ 1 := by unfold classW; split <;> simp
theorem classes_len (g : List Tri3) (c d : ByteArray) : ∀ l : List Tri3, (l.flatMap (classW g c d)).length ≤ l.length
  | [] => by simp
  | u :: r => by
    have h1 := classW_len g c d u
    have h2 := classes_len g c d r
    simp only [List.flatMap_cons, List.length_append, List.length_cons]; omega
theorem clashW_len (g : List Tri3) (t : Tri3) (hg : g.length ≤ 80) : (clashW g t).length ≤ 80 := by
  unfold clashW
  split
  · split <;> simp
  · split
    · split <;> simp
    · split
      · have := classes_len g t.1 t.2.2 g; omega
      · simp
theorem clashes_len (g : List Tri3) (hg : g.length ≤ 80) : ∀ l : List Tri3, (l.flatMap (clashW g)).length ≤ 80 * l.length
  | [] => by simp
  | u :: r => by
    have h1 := clashW_len g u hg
    have h2 := clashes_len g hg r
    simp only [List.flatMap_cons, List.length_append, List.length_cons]; omega
theorem flat_take {α β : Type} (f : α → List β) {l : List α} {k : Nat} {x : α} (h : l[k]? = some x) : (l.take (k + 1)).flatMap f = (l.take k).flatMap f ++ f x := by
  rw [List.take_add_one, h]; simp
set_option maxRecDepth 100000 in
theorem implClashText (bk n : Nat) (xs : List ByteArray) (w : World) (hn : xs.length = n) (hc : ∀ (j : Nat) (x : ByteArray), xs[j]? = some x → w.cell? ⟨bk, 0 + j, none⟩ = some (.string x)) (hbk : bk < w.heap.size) (h8 : n ≤ 8) (hlen : (jnW xs).length ≤ 140737488355328) :
    Calls Try.prog 102 #[.slice (some ⟨bk, 0, none⟩) n n] w fun e w' => e = .returned (.string (bs (jnW xs))) ∧ Below w.heap.size w w' := by
  subst hn
  have C := Lib.hid (Try.strings_Join bk 0 xs.length xs ⟨#[32]⟩ w hc hbk (by omega) (Nat.le_refl _) hlen)
  clear hc hlen
  go_enter Try.func102, Try.ntmps102
  go_wp2_with fail
  refine C.out.mono ?_
  rintro e w1 ⟨rfl, hb⟩
  go_wp2_with fail
  go_ret
  exact ⟨rfl, hb⟩
end Go.Proofs.Yteejpceliodcfaa
