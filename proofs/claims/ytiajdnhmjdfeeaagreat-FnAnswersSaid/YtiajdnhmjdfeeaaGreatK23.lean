/- Slices of triples become one map of them; such a map becomes a graph.; A slice's cells, one by one: its front and its back.; '==' and '!=' on triples. -/
import Derived.Test.YtiajdnhmjdfeeaaGreatK22
import Derived.Test.YtiajdnhmjdfeeaaGreatK21
import Derived.Test.YtiajdnhmjdfeeaaGreatK03
import Derived.Test.YtiajdnhmjdfeeaaGreatK00
import Derived.Test.YtiajdnhmjdfeeaaGreatK01
import Derived.Laws.StructEq
import Derived.Test.YtiajdnhmjdfeeaaGreatK08
import Derived.Test.YtiajdnhmjdfeeaaGreatK02
namespace Go.Proofs.YtiajdnhmjdfeeaaGreat
open Go.RowKit Go.WideShapes Go.Maps
/-- A slice as a value's parts, and the triples that its cells hold. -/
abbrev Sl := Option Addr × Nat × Nat × List Tri3
def allT (LS : List Sl) : List Tri3 := LS.flatMap fun x => x.2.2.2
end Go.Proofs.YtiajdnhmjdfeeaaGreat
namespace Go.Proofs.YtiajdnhmjdfeeaaGreat
open Go.RowKit Go.WideShapes
theorem flat_append (a b : List Tri3) : flat (a ++ b) = flat a ++ flat b := by simp [flat]
theorem flat_one (a : List Tri3) : ∀ u ∈ flat a, u.oneCell' = true := by
  intro u hu
  unfold flat at hu
  obtain ⟨t, _, hu⟩ := List.mem_flatMap.1 hu
  simp only [List.mem_cons, List.not_mem_nil, or_false] at hu
  rcases hu with rfl | rfl | rfl <;> rfl
theorem flat_split (ts : List Tri3) (k : Nat) : flat ts = flat (ts.take k) ++ flat (ts.drop k) := by rw [← flat_append, List.take_append_drop]
/-- A slice's cells, one by one. -/
theorem IsTris.flatAt {w : World} {b off len cap : Nat} {ts : List Tri3} (h : IsTris w (some ⟨b, off, none⟩) len cap ts) (j : Nat) (u : Value) (hj : (flat ts)[j]? = some u) : w.cell? ⟨b, off + j, none⟩ = some u := by
  have hl := h.len
  have hjl : j < ts.length * 3 := by rw [← flat_len]; exact (List.getElem?_eq_some_iff.1 hj).1
  rcases h with ⟨h, _⟩ | ⟨x, hx, h1, h2, h3, h4⟩
  · cases h
  · cases hx
    obtain ⟨q, r, hr, rfl⟩ : ∃ q r, r < 3 ∧ j = q * 3 + r := ⟨j / 3, j % 3, by omega, by omega⟩
    have hq : q < ts.length := by omega
    have e := List.getElem?_eq_getElem hq
    obtain ⟨c0, c1, c2, _⟩ := h4 q _ e
    rw [add_plain] at c0 c1 c2
    obtain ⟨f0, f1, f2⟩ := flat_at ts q _ e
    have hm : r = 0 ∨ r = 1 ∨ r = 2 := by omega
    rcases hm with rfl | rfl | rfl
    · rw [Nat.add_zero, f0] at hj; rw [← hj, ← c0, Nat.mul_comm 3 q]; rfl
    · rw [f1] at hj; rw [← hj, ← c1, Nat.mul_comm 3 q]
    · rw [f2] at hj; rw [← hj, ← c2, Nat.mul_comm 3 q]
theorem IsTris.front {w : World} {b off len cap : Nat} {ts : List Tri3} (h : IsTris w (some ⟨b, off, none⟩) len cap ts) (k : Nat) : ∀ (j : Nat) (u : Value), (flat (ts.take k))[j]? = some u → w.cell? ((⟨b, off, none⟩ : Addr).add j) = some u := by
  intro j u hj
  rw [add_plain]
  refine h.flatAt j u ?_
  rw [flat_split ts k, List.getElem?_append_left (List.getElem?_eq_some_iff.1 hj).1]
  exact hj
theorem IsTris.back {w : World} {b off len cap : Nat} {ts : List Tri3} (h : IsTris w (some ⟨b, off, none⟩) len cap ts) (k : Nat) (hk : k ≤ ts.length) : ∀ (j : Nat) (u : Value), (flat (ts.drop k))[j]? = some u → w.cell? ((⟨b, off + k * 3, none⟩ : Addr).add j) = some u := by
  intro j u hj
  rw [add_plain, Nat.add_assoc]
  refine h.flatAt (k * 3 + j) u ?_
  have e : (flat (ts.take k)).length = k * 3 := by rw [flat_len, List.length_take, Nat.min_eq_left hk]
  rw [flat_split ts k, List.getElem?_append_right (by omega), e, Nat.add_sub_cancel_left]
  exact hj
end Go.Proofs.YtiajdnhmjdfeeaaGreat
namespace Go.Proofs.YtiajdnhmjdfeeaaGreat
open Go.RowKit
theorem tri_under : Tryz.prog.underlying 65 = some (.struct (Tryz.prog.fieldsOf 65)) := by kernel_rfl
theorem tri_stood : Tryz.prog.stoodInHeld 65 = false := by kernel_rfl
theorem tri_list : ((Tryz.prog.fieldsOf 65).toList.map fun f => (f.name, f.type, f.offset)) = [("S", 9, 0), ("P", 9, 1), ("O", 9, 2)] := by kernel_rfl
theorem part0 (a b c : ByteArray) (w : World) : (part 9 #[.string a, .string b, .string c] 0).run Tryz.prog w = .ok (.string a) w := by kernel_rfl
theorem part1 (a b c : ByteArray) (w : World) : (part 9 #[.string a, .string b, .string c] 1).run Tryz.prog w = .ok (.string b) w := by kernel_rfl
theorem part2 (a b c : ByteArray) (w : World) : (part 9 #[.string a, .string b, .string c] 2).run Tryz.prog w = .ok (.string c) w := by kernel_rfl
theorem str_eq (a b : ByteArray) (w : World) : (Op.equalIn 9999 9 (.string a) (.string b)).run Tryz.prog w = .ok (a.toList == b.toList) w := run_equalIn_string w 9998 9 a b Tryz.underlying9
theorem tri_eq (s p o s' p' o' : ByteArray) (w : World) : (Op.equalIn 10000 65 (.agg #[.string s, .string p, .string o]) (.agg #[.string s', .string p', .string o'])).run Tryz.prog w =
    .ok (s.toList == s'.toList && (p.toList == p'.toList && o.toList == o'.toList)) w := by
  rw [run_equalIn_agg w 9999 65 _ _ tri_under tri_stood]
  have h := tri_list
  generalize (Tryz.prog.fieldsOf 65).toList = fs at h ⊢
  rcases fs with _ | ⟨f0, _ | ⟨f1, _ | ⟨f2, _ | ⟨f3, r⟩⟩⟩⟩
  · simp at h
  · simp at h
  · simp at h
  · simp only [List.map_cons, List.map_nil, List.cons.injEq, Prod.mk.injEq, and_true] at h
    obtain ⟨⟨n0, t0, o0⟩, ⟨n1, t1, o1⟩, ⟨n2, t2, o2⟩⟩ := h
    simp only [Op.eqFields, n0, n1, n2, t0, t1, t2, o0, o1, o2]
    cases h1 : (s.toList == s'.toList) <;> cases h2 : (p.toList == p'.toList) <;> cases h3 : (o.toList == o'.toList) <;> simp [part0, part1, part2, str_eq, h1, h2, h3]
  · simp at h
open Go.RowKit Go.WideShapes
theorem tri_eql (s p o s' p' o' : ByteArray) (w : World) : (binOp .eql 65 (.agg #[.string s, .string p, .string o]) (.agg #[.string s', .string p', .string o'])).run Tryz.prog w =
    .ok (.bool (s.toList == s'.toList && (p.toList == p'.toList && o.toList == o'.toList))) w := by
  rw [run_eql_struct, tri_eq]; rfl
theorem tri_is (s p o : ByteArray) (w : World) : (binOp .eql 65 (.agg #[.string s, .string p, .string o]) (.agg #[.string s, .string p, .string o])).run Tryz.prog w = .ok (.bool true) w := by
  rw [tri_eql]; simp
theorem tri_not {t u : Tri3} (h : t ≠ u) : (t.1.toList == u.1.toList && (t.2.1.toList == u.2.1.toList && t.2.2.toList == u.2.2.toList)) = false := by
  cases e : (t.1.toList == u.1.toList && (t.2.1.toList == u.2.1.toList && t.2.2.toList == u.2.2.toList))
  · rfl
  · exfalso
    simp only [Bool.and_eq_true, beq_iff_eq, ByteArray.toList_eq] at e
    obtain ⟨t1, t2, t3⟩ := t
    obtain ⟨u1, u2, u3⟩ := u
    have e1 := data_inj e.1
    have e2 := data_inj e.2.1
    have e3 := data_inj e.2.2
    simp only at e1 e2 e3
    exact h (by rw [e1, e2, e3])
theorem tri_isnt {t u : Tri3} (h : t ≠ u) (w : World) : (binOp .eql 65 (.agg #[.string t.1, .string t.2.1, .string t.2.2]) (.agg #[.string u.1, .string u.2.1, .string u.2.2])).run Tryz.prog w = .ok (.bool false) w := by
  rw [tri_eql, tri_not h]
end Go.Proofs.YtiajdnhmjdfeeaaGreat
