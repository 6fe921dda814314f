/- '==' and '!=' on triples. -/
import Derived.Test.YtobmcngmcmhebaaBase
import Derived.Laws.StructEq
import Derived.Test.YtobmcngmcmhebaaTriA
import Derived.Test.YtobmcngmcmhebaaTris
namespace Go.Proofs.Ytobmcngmcmhebaa
open Go.RowKit
theorem tri_under : Try.prog.underlying 47 = some (.struct (Try.prog.fieldsOf 47)) := by kernel_rfl
theorem tri_stood : Try.prog.stoodInHeld 47 = false := by kernel_rfl
theorem tri_guard : Try.prog.eqGuardType Try.prog.depth 47 = false := by kernel_rfl
theorem tri_list : ((Try.prog.fieldsOf 47).toList.map fun f => (f.name, f.type, f.offset)) = [("S", 9, 0), ("P", 9, 1), ("O", 9, 2)] := by kernel_rfl
theorem part0 (a b c : ByteArray) (w : World) : (part 9 #[.string a, .string b, .string c] 0).run Try.prog w = .ok (.string a) w := by kernel_rfl
theorem part1 (a b c : ByteArray) (w : World) : (part 9 #[.string a, .string b, .string c] 1).run Try.prog w = .ok (.string b) w := by kernel_rfl
theorem part2 (a b c : ByteArray) (w : World) : (part 9 #[.string a, .string b, .string c] 2).run Try.prog w = .ok (.string c) w := by kernel_rfl
theorem str_eq (a b : ByteArray) (w : World) : (Op.equalIn 9999 9 (.string a) (.string b)).run Try.prog w = .ok (a.toList == b.toList) w := run_equalIn_string w 9998 9 a b Try.underlying9
theorem tri_eq (s p o s' p' o' : ByteArray) (w : World) : (Op.equalIn 10000 47 (.agg #[.string s, .string p, .string o]) (.agg #[.string s', .string p', .string o'])).run Try.prog w =
    .ok (s.toList == s'.toList && (p.toList == p'.toList && o.toList == o'.toList)) w := by
  rw [run_equalIn_agg w 9999 47 _ _ tri_under tri_stood]
  have h := tri_list
  generalize (Try.prog.fieldsOf 47).toList = fs at h ⊢
  rcases fs with _ | ⟨f0, _ | ⟨f1, _ | ⟨f2, _ | ⟨f3, r⟩⟩⟩⟩
  · simp at h
  · simp at h
  · simp at h
  · simp only [List.map_cons, List.map_nil, List.cons.injEq, Prod.mk.injEq, and_true] at h
    obtain ⟨⟨n0, t0, o0⟩, ⟨n1, t1, o1⟩, ⟨n2, t2, o2⟩⟩ := h
    simp only [Op.eqFields, n0, n1, n2, t0, t1, t2, o0, o1, o2]
    cases h1 : (s.toList == s'.toList) <;> cases h2 : (p.toList == p'.toList) <;> cases h3 : (o.toList == o'.toList) <;> simp [part0, part1, part2, str_eq, h1, h2, h3]
  · simp at h
theorem tri_ne (s p o s' p' o' : ByteArray) (w : World) : (binOp .neq 47 (.agg #[.string s, .string p, .string o]) (.agg #[.string s', .string p', .string o'])).run Try.prog w =
    .ok (.bool !(s.toList == s'.toList && (p.toList == p'.toList && o.toList == o'.toList))) w := by
  rw [run_neq_struct, tri_eq]; rfl
theorem tri_same (s p o : ByteArray) (w : World) : (binOp .neq 47 (.agg #[.string s, .string p, .string o]) (.agg #[.string s, .string p, .string o])).run Try.prog w = .ok (.bool false) w := by
  rw [tri_ne]; simp
open Go.RowKit Go.WideShapes
theorem tri_eql (s p o s' p' o' : ByteArray) (w : World) : (binOp .eql 47 (.agg #[.string s, .string p, .string o]) (.agg #[.string s', .string p', .string o'])).run Try.prog w =
    .ok (.bool (s.toList == s'.toList && (p.toList == p'.toList && o.toList == o'.toList))) w := by
  rw [run_eql_struct, tri_eq]; rfl
theorem tri_is (s p o : ByteArray) (w : World) : (binOp .eql 47 (.agg #[.string s, .string p, .string o]) (.agg #[.string s, .string p, .string o])).run Try.prog w = .ok (.bool true) w := by
  rw [tri_eql]; simp
theorem tri_not {t u : Tri3} (h : t ≠ u) : (t.1.toList == u.1.toList && (t.2.1.toList == u.2.1.toList && t.2.2.toList == u.2.2.toList)) = false := by
  cases e : (t.1.toList == u.1.toList && (t.2.1.toList == u.2.1.toList && t.2.2.toList == u.2.2.toList))
  · rfl
  · exfalso
    simp only [Bool.and_eq_true, beq_iff_eq, ByteArray.toList_eq] at e
    obtain ⟨t1, t2, t3⟩ := t
    obtain ⟨u1, u2, u3⟩ := u
    have e1 := data_inj e.1
    have e2 := data_inj e.2.1
    have e3 := data_inj e.2.2
    simp only at e1 e2 e3
    exact h (by rw [e1, e2, e3])
theorem tri_isnt {t u : Tri3} (h : t ≠ u) (w : World) : (binOp .eql 47 (.agg #[.string t.1, .string t.2.1, .string t.2.2]) (.agg #[.string u.1, .string u.2.1, .string u.2.2])).run Try.prog w = .ok (.bool false) w := by
  rw [tri_eql, tri_not h]
end Go.Proofs.Ytobmcngmcmhebaa
