/- '!=' on pairs; the laws' way to hold two rows against each other. -/
import Derived.Test.YtegjbfbmhlaelaaExactR2
import Derived.Laws.StructEq
import Derived.Deep.QuietTactic
import Derived.BigQuiet
namespace Go.Proofs.Ytegjbfbmhlaelaa
open Go.RowKit Go.WideShapes
theorem pr_under : Try.prog.underlying 86 = some (.struct (Try.prog.fieldsOf 86)) := by kernel_rfl
theorem pr_stood : Try.prog.stoodInHeld 86 = false := by kernel_rfl
theorem pr_list : ((Try.prog.fieldsOf 86).toList.map fun f => (f.name, f.type, f.offset)) = [("Var", 9, 0), ("Term", 9, 1)] := by kernel_rfl
theorem prt0 (a b : ByteArray) (w : World) : (part 9 #[.string a, .string b] 0).run Try.prog w = .ok (.string a) w := by kernel_rfl
theorem prt1 (a b : ByteArray) (w : World) : (part 9 #[.string a, .string b] 1).run Try.prog w = .ok (.string b) w := by kernel_rfl
theorem pst_eq (a b : ByteArray) (w : World) : (Op.equalIn 9999 9 (.string a) (.string b)).run Try.prog w = .ok (a.toList == b.toList) w := run_equalIn_string w 9998 9 a b Try.underlying9
theorem pr_eq (s p s' p' : ByteArray) (w : World) : (Op.equalIn 10000 86 (.agg #[.string s, .string p]) (.agg #[.string s', .string p'])).run Try.prog w =
    .ok (s.toList == s'.toList && p.toList == p'.toList) w := by
  rw [run_equalIn_agg w 9999 86 _ _ pr_under pr_stood]
  have h := pr_list
  generalize (Try.prog.fieldsOf 86).toList = fs at h ⊢
  rcases fs with _ | ⟨f0, _ | ⟨f1, _ | ⟨f2, r⟩⟩⟩
  · simp at h
  · simp at h
  · simp only [List.map_cons, List.map_nil, List.cons.injEq, Prod.mk.injEq, and_true] at h
    obtain ⟨⟨n0, t0, o0⟩, ⟨n1, t1, o1⟩⟩ := h
    simp only [Op.eqFields, n0, n1, t0, t1, o0, o1]
    cases h1 : (s.toList == s'.toList) <;> cases h2 : (p.toList == p'.toList) <;> simp [prt0, prt1, pst_eq, h1, h2]
  · simp at h
theorem pr_ne (s p s' p' : ByteArray) (w : World) : (binOp .neq 86 (.agg #[.string s, .string p]) (.agg #[.string s', .string p'])).run Try.prog w =
    .ok (.bool !(s.toList == s'.toList && p.toList == p'.toList)) w := by
  rw [run_neq_struct, pr_eq]; rfl
theorem pr_same (s p : ByteArray) (w : World) : (binOp .neq 86 (.agg #[.string s, .string p]) (.agg #[.string s, .string p])).run Try.prog w = .ok (.bool false) w := by
  rw [pr_ne]; simp
set_option maxRecDepth 100000 in
set_option maxHeartbeats 1600000 in
theorem lawSameRow (a b : Option Addr) (la ca lb cb : Nat) (ts : List Pre2) (w : World) (h : IsPres w a la ca ts) (k : IsPres w b lb cb ts) (hl : la ≤ 1048576) :
    Calls Try.prog 21 #[.slice a la ca, .slice b lb cb] w fun e w' => e = .returned (.bool true) ∧ Below w.heap.size w w' := by
  have hlb : lb = la := by rw [← h.len, ← k.len]
  subst hlb
  have H := Lib.hid h
  have K := Lib.hid k
  clear h k
  go_enter Try.func21, Try.ntmps21
  go_wp2_with fail
  go_loopw [5] (fun i wr => ∃ j : Nat, j ≤ lb ∧ i = .int .i64 j ∧ Below w.heap.size w wr) (fun i _ => lb - (intOf i).toNat)
  case atStart => exact ⟨0, Nat.zero_le _, rfl, Below.refl _ _⟩
  case round =>
    obtain ⟨j, hj, rfl, hnx⟩ := hrel
    have hj6 : (0 : Int) ≤ (j : Int) := by omega
    by_cases hlt : j < lb
    · have hj7 : (j : Int) < (lb : Int) := by omega
      obtain ⟨b1, off, rfl, hb, hl1, hm1, hts, hcs⟩ := H.out.cells (by omega)
      obtain ⟨b2, off2, rfl, hb2, hl2, hm2, hts2, hcs2⟩ := K.out.cells (by omega)
      have ht : ts[j]? = some (ts[j]'(by omega)) := List.getElem?_eq_getElem (by omega)
      obtain ⟨c0, c1, m0, m1⟩ := hcs j _ ht
      obtain ⟨d0, d1, n0, n1⟩ := hcs2 j _ ht
      rw [← hnx.cell (p := ⟨b1, _, none⟩) hb] at c0 c1
      rw [← hnx.cell (p := ⟨b2, _, none⟩) hb2] at d0 d1
      generalize ts[j]'(by omega) = t at ht c0 c1 d0 d1 m0 m1 n0 n1
      have HB : Hid (∀ n, Below w.heap.size w (wr.drewN n)) := Lib.hid (fun n => below_drewN hnx n)
      have EQ := pr_same t.1 t.2
      clear ht hts hts2 hcs hcs2 hm1 hm2 m0 m1 n0 n1 hl1 hl2 hnx
      go_wp2_with fail
      go_quiet (fail)
      clear EQ
      go_wp2_with fail
      go_roundw
      case rel => exact ⟨j + 1, by omega, by go_num, HB.out _⟩
      case measure => simp [intOf]; omega
    · obtain rfl : j = lb := by omega
      go_wp2_with fail
      go_ret
      exact ⟨rfl, hnx⟩
end Go.Proofs.Ytegjbfbmhlaelaa
