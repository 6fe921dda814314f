/- The exact laws' steps at slices of texts, told by where things lie.; A query (a slice of texts and two of triples): what it holds; its size; a copy; two alike.; When a query is right: the specification. -/
import Derived.Test.YtiajdnhmjdfeeaaGreatK15
import Derived.Test.YtiajdnhmjdfeeaaGreatK18
import Derived.Test.YtiajdnhmjdfeeaaGreatK17
import Derived.Test.YtiajdnhmjdfeeaaGreatK10
import Derived.Test.YtiajdnhmjdfeeaaGreatK14
import Derived.Test.YtiajdnhmjdfeeaaGreatK13
import Derived.Maps.AppendAt
namespace Go.Proofs.YtiajdnhmjdfeeaaGreat
open Go.ChangeShapes Go.WideShapes Go.ChangeAt Go.RowKit
/-- The call owns a slice of these texts, between B and C. -/
def OwnSC (B C : Nat) (v : Value) (ts : List ByteArray) (w : World) : Prop := OwnS B w v ts ∧ ∀ j, v.ownBlock = some j → j < C
theorem ownSC_lives {B C : Nat} {v : Value} {ts : List ByteArray} : Lives B C (OwnSC B C v ts) := row_lives
theorem OwnSC.read {B C : Nat} {w : World} {a : Option Addr} {n c : Nat} {ts : List ByteArray} (h : OwnSC B C (.slice a n c) ts w) (hl : ts.length = n) : IsStrs w a n c ts := by
  subst hl
  obtain ⟨x, y, e, i⟩ := h.1.is
  simp only [Value.slice.injEq, true_and] at e
  obtain ⟨rfl, rfl⟩ := e
  exact i
end Go.Proofs.YtiajdnhmjdfeeaaGreat
namespace Go.Proofs.YtiajdnhmjdfeeaaGreat
open Go.ChangeShapes Go.WideShapes Go.ChangeAt Go.RowKit
def IsQry (w : World) (a0 a1 a2 : Option Addr) (n0 n1 n2 c0 c1 c2 : Nat) (t0 : List ByteArray) (t1 : List Tri3) (t2 : List Tri3) : Prop := (IsStrs w a0 n0 c0 t0 ∧ ∀ t ∈ t0, t.size ≤ maxLen) ∧ IsTris w a1 n1 c1 t1 ∧ IsTris w a2 n2 c2 t2
theorem IsQry.next {w w' : World} {a0 a1 a2 : Option Addr} {n0 n1 n2 c0 c1 c2 : Nat} {t0 : List ByteArray} {t1 : List Tri3} {t2 : List Tri3} (h : IsQry w a0 a1 a2 n0 n1 n2 c0 c1 c2 t0 t1 t2) (hb : Below w.heap.size w w') : IsQry w' a0 a1 a2 n0 n1 n2 c0 c1 c2 t0 t1 t2 := ⟨⟨h.1.1.next hb, h.1.2⟩, h.2.1.next hb, h.2.2.next hb⟩
/-- The call owns these slices, apart from one another, between B and C. -/
def OwnQry (B C : Nat) (v0 v1 v2 : Value) (t0 : List ByteArray) (t1 : List Tri3) (t2 : List Tri3) (w : World) : Prop := OwnSC B C v0 t0 w ∧ OwnC B C v1 t1 w ∧ OwnC B C v2 t2 w ∧ (∀ j, v0.ownBlock = some j → v1.ownBlock ≠ some j) ∧ (∀ j, v0.ownBlock = some j → v2.ownBlock ≠ some j) ∧ (∀ j, v1.ownBlock = some j → v2.ownBlock ≠ some j)
def SzPostQry (left : Int) (n0 n1 n2 : Nat) (t0 : List ByteArray) (t1 : List Tri3) (t2 : List Tri3) (w : World) (e : Ending) (w' : World) : Prop :=
  ∃ n : Int, e = .returned (.int .i64 n) ∧ (n = -1 ∨ (0 ≤ n ∧ n ≤ left ∧ SmStrs n0 t0 ∧ Small n1 t1 ∧ Small n2 t2)) ∧ Below w.heap.size w w'
theorem Cells.tre {g : Nat} {x y z : Value} {T : TypeId} {w : World} (h : Cells g #[x, y, z] T w) : w.cell? ⟨g, 0, none⟩ = some x ∧ w.cell? ⟨g, 1, none⟩ = some y ∧ w.cell? ⟨g, 2, none⟩ = some z := ⟨h.at 0, h.at 1, h.at 2⟩
end Go.Proofs.YtiajdnhmjdfeeaaGreat
namespace Go.Proofs.YtiajdnhmjdfeeaaGreat
open Go.RowKit Go.WideShapes Go.Maps
theorem ownS_isQ {B : Nat} {w : World} {v : Value} {ts : List ByteArray} {n : Nat} (h : OwnS B w v ts) (l : ts.length = n) : ∃ a c, v = .slice a n c ∧ IsStrs w a n c ts := by
  subst l; exact h.is
theorem isStrs_take {w : World} {b off n c : Nat} {vs : List ByteArray} {k : Nat} (h : IsStrs w (some ⟨b, off, none⟩) n c vs) (hk : k ≤ n) : IsStrs w (some ⟨b, off, none⟩) k c (vs.take k) := by
  rcases h with ⟨h, _⟩ | ⟨x, e, h1, h2, h3, h4⟩
  · cases h
  · cases e
    refine .inr ⟨_, rfl, by omega, h2, by rw [List.length_take]; omega, fun i t hi => h4 i t ?_⟩
    have hik : i < k := by have := (List.getElem?_eq_some_iff.1 hi).1; rw [List.length_take] at this; omega
    rw [List.getElem?_take_of_lt hik] at hi
    exact hi
theorem flat_app (a b : List Tri3) : flat (a ++ b) = flat a ++ flat b := by unfold flat; rw [List.flatMap_append]
/-- 'append(s, x...)' of triples at a step of a region: s is the call's own, x anything. -/
theorem upon_moreT {o : Oper} {a : Act} {w : World} {Q : Exit → Act → World → Prop} {K : Act → World → Prop} (s x : Operand)
    (ho : o.op = .call { callee := .builtin .append, args := #[s, x], argTypes := #[31, 31] }) {B : Nat} {v : Value} {ls : List Tri3} (hs : a.eval s = v) (hA : OwnT B w v ls) (hB : B ≤ w.heap.size) (hll : ls.length ≤ 1048576)
    (ad : Option Addr) (n c : Nat) (ts : List Tri3) (hx : a.eval x = .slice ad n c) (h : IsTris w ad n c ts) (hl : n ≤ 1048576)
    (k : ∀ (v' : Value) (w' : World), OwnT B w' v' (ls ++ ts) → w.grownBy w' v.ownBlock → K (a.put o.dst v') w') : Oper.wp Tryz.prog o a w K Q := by
  obtain ⟨i0, hi, hz0, hz1, hz2⟩ := info_parts infoTri
  rcases h with ⟨rfl, rfl, rfl, rfl⟩ | ⟨y, rfl, h1, h2, h3, h4⟩
  · have hrun := run_append_owned_none (P := Tryz.prog) (w := w) B 31 o.type 65 i0 3 Tryz.underlying31 hi _ _ _ hA
    unfold Oper.wp
    simp [execOp, ho, resolve, invoke, builtin, hs, hx, hrun, Result.andThen]
    exact k _ _ (by rw [List.append_nil]; exact hA) (World.grownBy.refl _ _)
  · have Fc : ∀ (j : Nat) (u : Value), (flat ts)[j]? = some u → w.cell? (y.add j) = some u := by
      intro j u hu
      have hj : j < ts.length * 3 := by rw [← flat_len]; exact (List.getElem?_eq_some_iff.1 hu).1
      have hk : j / 3 < ts.length := by omega
      obtain ⟨f0, f1, f2⟩ := flat_at ts (j / 3) _ (List.getElem?_eq_getElem hk)
      obtain ⟨c0, c1, c2, _⟩ := h4 (j / 3) _ (List.getElem?_eq_getElem hk)
      obtain e | e | e : j = 3 * (j / 3) ∨ j = 3 * (j / 3) + 1 ∨ j = 3 * (j / 3) + 2 := by omega
      · rw [e] at hu ⊢; rw [Nat.mul_comm] at hu; rw [c0, ← hu, f0]
      · rw [e] at hu ⊢; rw [Nat.mul_comm] at hu; rw [c1, ← hu, f1]
      · rw [e] at hu ⊢; rw [Nat.mul_comm] at hu; rw [c2, ← hu, f2]
    obtain ⟨v', w', hr, ho1, hg1, _, hat⟩ := run_append_own_at (P := Tryz.prog) (w := w) B 31 o.type 65 i0 (.agg #[.string ⟨#[]⟩, .string ⟨#[]⟩, .string ⟨#[]⟩]) 3 48 Tryz.underlying31 hi hz0 hz1 hz2 rfl (by decide) _ _ _ hA y n c (flat ts) (by rw [flat_len, h3]) Fc (fun v hv => by unfold flat at hv; obtain ⟨t, _, h⟩ := List.mem_flatMap.1 hv; simp at h; rcases h with rfl | rfl | rfl <;> rfl) (by unfold maxLen; omega) (by omega) hB
    have O1 : OwnT B w' v' (ls ++ ts) := by unfold OwnT; rw [List.length_append, h3, flat_app]; exact ho1
    unfold Oper.wp
    simp [execOp, ho, resolve, invoke, builtin, hs, hx, hr, Result.andThen]
    exact k _ _ O1 hg1
theorem specIn4 (n : Nat) (w : World) : Calls Tryz.prog 99 #[.int .i64 n, .int .i64 1, .int .i64 4] w fun e w' => e = .returned (.bool (decide (1 ≤ n) && decide (n ≤ 4))) ∧ Below w.heap.size w w' := by
  by_cases h1 : 1 ≤ n
  · have i1 : (1 : Int) ≤ n := by omega
    rw [decide_eq_true h1, Bool.true_and]
    by_cases h2 : n ≤ 4
    · have i2 : (n : Int) ≤ 4 := by omega
      rw [decide_eq_true h2]
      go_enter Tryz.func99, Tryz.ntmps99
      go_wp2_with fail
      go_ret
      exact ⟨rfl, Below.refl _ _⟩
    · have i2 : ¬ (n : Int) ≤ 4 := by omega
      rw [decide_eq_false h2]
      go_enter Tryz.func99, Tryz.ntmps99
      go_wp2_with fail
      go_ret
      exact ⟨rfl, Below.refl _ _⟩
  · have i1 : ¬ (1 : Int) ≤ n := by omega
    rw [decide_eq_false h1, Bool.false_and]
    go_enter Tryz.func99, Tryz.ntmps99
    go_wp2_with fail
    go_ret
    exact ⟨rfl, Below.refl _ _⟩
set_option maxRecDepth 100000 in
set_option maxHeartbeats 6400000 in
theorem specQueryOk (a0 a1 a2 : Option Addr) (n0 n1 n2 c0 c1 c2 : Nat) (vs : List ByteArray) (t1 t2 : List Tri3) (w : World) (h : IsQry w a0 a1 a2 n0 n1 n2 c0 c1 c2 vs t1 t2) (h1 : Sm t1) (h2 : Sm t2) (l0 : n0 ≤ 1048576) :
    Calls Tryz.prog 47 #[.agg #[.slice a0 n0 c0, .slice a1 n1 c1, .slice a2 n2 c2]] w fun e w' => e = .returned (.bool (queryOk vs t1 t2)) ∧ Below w.heap.size w w' := by
  have B0 := Lib.hid ((Below.refl w.heap.size w).alloc (Nat.le_refl _) (.cells #[.slice a0 n0 c0, .slice a1 n1 c1, .slice a2 n2 c2] 34))
  have X0 := Lib.hid (cells_new w #[.slice a0 n0 c0, .slice a1 n1 c1, .slice a2 n2 c2] 34)
  have I0 := Lib.hid (h.next ((Below.refl w.heap.size w).alloc (Nat.le_refl _) (.cells #[.slice a0 n0 c0, .slice a1 n1 c1, .slice a2 n2 c2] 34)))
  have HV := Lib.hid h.1.1.len
  have HT1 := Lib.hid h.2.1.len
  have HT2 := Lib.hid h.2.2.len
  have HS1 := Lib.hid h1
  have HS2 := Lib.hid h2
  obtain ⟨q, hq⟩ : ∃ q, queryOk vs t1 t2 = q := ⟨_, rfl⟩
  have HQ := Lib.hid hq
  rw [hq]
  clear h h1 h2 hq
  have C1 := fun (W : World) (hb : IsTris W a1 n1 c1 t1) => specBgpOk a1 n1 c1 t1 W hb HS1.out
  have C2 := fun (W : World) (hb : IsTris W a2 n2 c2 t2) => specBgpOk a2 n2 c2 t2 W hb HS2.out
  cases hb1 : bgpOk t1
  · rw [hb1] at C1
    have D1 := Lib.hid C1
    clear C1 C2
    have HF : Hid (q = false) := Lib.hid (by rw [← HQ.out]; unfold queryOk; rw [hb1, Bool.false_and, Bool.and_false])
    rw [HF.out]
    go_enter Tryz.func47, Tryz.ntmps47
    obtain ⟨v, u, z⟩ := X0.out.now.tre
    go_wp2_with fail
    refine (D1.out _ I0.out.2.1).mono ?_
    rintro e w1 ⟨rfl, hb⟩
    have B1 := Lib.hid (B0.out.trans (hb.mono B0.out.size))
    have X1 := Lib.hid (X0.out.next hb)
    have I1 := Lib.hid (I0.out.next hb)
    clear hb B0 X0 I0
    clear v u z
    go_wp2_with fail
    go_ret
    exact ⟨rfl, B1.out⟩
  rw [hb1] at C1
  cases hb2 : bgpOk t2
  · rw [hb2] at C2
    have D1 := Lib.hid C1
    have D2 := Lib.hid C2
    clear C1 C2
    have HF : Hid (q = false) := Lib.hid (by rw [← HQ.out]; unfold queryOk; rw [hb2, Bool.false_and, Bool.and_false, Bool.and_false])
    rw [HF.out]
    go_enter Tryz.func47, Tryz.ntmps47
    obtain ⟨v, u, z⟩ := X0.out.now.tre
    go_wp2_with fail
    refine (D1.out _ I0.out.2.1).mono ?_
    rintro e w1 ⟨rfl, hb⟩
    have B1 := Lib.hid (B0.out.trans (hb.mono B0.out.size))
    have X1 := Lib.hid (X0.out.next hb)
    have I1 := Lib.hid (I0.out.next hb)
    clear hb B0 X0 I0
    clear v u z
    obtain ⟨v, u, z⟩ := X1.out.now.tre
    go_wp2_with fail
    refine (D2.out _ I1.out.2.2).mono ?_
    rintro e w2 ⟨rfl, hb⟩
    have B2 := Lib.hid (B1.out.trans (hb.mono B1.out.size))
    have X2 := Lib.hid (X1.out.next hb)
    have I2 := Lib.hid (I1.out.next hb)
    clear hb B1 X1 I1
    clear v u z
    go_wp2_with fail
    go_ret
    exact ⟨rfl, B2.out⟩
  rw [hb2] at C2
  have D1 := Lib.hid C1
  have D2 := Lib.hid C2
  clear C1 C2
  by_cases hn1 : n1 = 0
  · have HF : Hid (q = false) := Lib.hid (by rw [← HQ.out]; unfold queryOk; rw [HT1.out, decide_eq_false (by omega)]; rfl)
    rw [HF.out]
    have hz : ((n1 : Int) == 0) = true := by rw [beq_iff_eq]; omega
    clear hn1
    go_enter Tryz.func47, Tryz.ntmps47
    obtain ⟨v, u, z⟩ := X0.out.now.tre
    go_wp2_with fail
    refine (D1.out _ I0.out.2.1).mono ?_
    rintro e w1 ⟨rfl, hb⟩
    have B1 := Lib.hid (B0.out.trans (hb.mono B0.out.size))
    have X1 := Lib.hid (X0.out.next hb)
    have I1 := Lib.hid (I0.out.next hb)
    clear hb B0 X0 I0
    clear v u z
    obtain ⟨v, u, z⟩ := X1.out.now.tre
    go_wp2_with fail
    refine (D2.out _ I1.out.2.2).mono ?_
    rintro e w2 ⟨rfl, hb⟩
    have B2 := Lib.hid (B1.out.trans (hb.mono B1.out.size))
    have X2 := Lib.hid (X1.out.next hb)
    have I2 := Lib.hid (I1.out.next hb)
    clear hb B1 X1 I1
    clear v u z
    obtain ⟨v, u, z⟩ := X2.out.now.tre
    go_wp2_with fail
    go_ret
    exact ⟨rfl, B2.out⟩
  have hz1 : ((n1 : Int) == 0) = false := by rw [beq_eq_false_iff_ne]; omega
  cases hin : (decide (1 ≤ n0) && decide (n0 ≤ 4))
  · have HF : Hid (q = false) := Lib.hid (by
      rw [← HQ.out]; unfold queryOk; rw [HV.out]
      rw [Bool.eq_false_iff]; intro hc
      simp only [Bool.and_eq_true] at hc
      rw [hc.2.2.2.1, hc.2.2.2.2.1] at hin
      cases hin)
    rw [HF.out]
    have SI := Lib.hid (fun W => specIn4 n0 W)
    rw [hin] at SI
    clear hin
    go_enter Tryz.func47, Tryz.ntmps47
    obtain ⟨v, u, z⟩ := X0.out.now.tre
    go_wp2_with fail
    refine (D1.out _ I0.out.2.1).mono ?_
    rintro e w1 ⟨rfl, hb⟩
    have B1 := Lib.hid (B0.out.trans (hb.mono B0.out.size))
    have X1 := Lib.hid (X0.out.next hb)
    have I1 := Lib.hid (I0.out.next hb)
    clear hb B0 X0 I0
    clear v u z
    obtain ⟨v, u, z⟩ := X1.out.now.tre
    go_wp2_with fail
    refine (D2.out _ I1.out.2.2).mono ?_
    rintro e w2 ⟨rfl, hb⟩
    have B2 := Lib.hid (B1.out.trans (hb.mono B1.out.size))
    have X2 := Lib.hid (X1.out.next hb)
    have I2 := Lib.hid (I1.out.next hb)
    clear hb B1 X1 I1
    clear v u z
    obtain ⟨v, u, z⟩ := X2.out.now.tre
    go_wp2_with fail
    refine (SI.out _).mono ?_
    rintro e w3 ⟨rfl, hb⟩
    have B3 := Lib.hid (B2.out.trans (hb.mono B2.out.size))
    have X3 := Lib.hid (X2.out.next hb)
    have I3 := Lib.hid (I2.out.next hb)
    clear hb B2 X2 I2
    clear v u z
    go_wp2_with fail
    go_ret
    exact ⟨rfl, B3.out⟩
  have SI := Lib.hid (fun W => specIn4 n0 W)
  rw [hin] at SI
  have hn04 : 1 ≤ n0 ∧ n0 ≤ 4 := by simpa using hin
  have HIFF : Hid (q = true ↔ (txts vs).Nodup ∧ ∀ v ∈ txts vs, v ∈ allVars (t1 ++ t2)) := Lib.hid (by rw [← HQ.out]; exact queryOk_is (by rw [HT1.out]; omega) hb1 hb2 (by rw [HV.out]; exact hn04.1) (by rw [HV.out]; exact hn04.2))
  have hl1 : n1 ≤ 4 := by unfold bgpOk at hb1; simp only [Bool.and_eq_true, decide_eq_true_eq] at hb1; have := hb1.1; have := HT1.out; omega
  have hl2 : n2 ≤ 4 := by unfold bgpOk at hb2; simp only [Bool.and_eq_true, decide_eq_true_eq] at hb2; have := hb2.1; have := HT2.out; omega
  have HSA : Hid (Sm (t1 ++ t2)) := Lib.hid (fun t ht => by rcases List.mem_append.1 ht with h | h; exact HS1.out t h; exact HS2.out t h)
  obtain ⟨hn01, hn04⟩ := hn04
  clear hb1 hb2 hin
  go_enter Tryz.func47, Tryz.ntmps47
  obtain ⟨v, u, z⟩ := X0.out.now.tre
  go_wp2_with fail
  refine (D1.out _ I0.out.2.1).mono ?_
  rintro e w1 ⟨rfl, hb⟩
  have B1 := Lib.hid (B0.out.trans (hb.mono B0.out.size))
  have X1 := Lib.hid (X0.out.next hb)
  have I1 := Lib.hid (I0.out.next hb)
  clear hb B0 X0 I0
  clear v u z
  obtain ⟨v, u, z⟩ := X1.out.now.tre
  go_wp2_with fail
  refine (D2.out _ I1.out.2.2).mono ?_
  rintro e w2 ⟨rfl, hb⟩
  have B2 := Lib.hid (B1.out.trans (hb.mono B1.out.size))
  have X2 := Lib.hid (X1.out.next hb)
  have I2 := Lib.hid (I1.out.next hb)
  clear hb B1 X1 I1
  clear v u z
  obtain ⟨v, u, z⟩ := X2.out.now.tre
  go_wp2_with fail
  refine (SI.out _).mono ?_
  rintro e w3 ⟨rfl, hb⟩
  have B3 := Lib.hid (B2.out.trans (hb.mono B2.out.size))
  have X3 := Lib.hid (X2.out.next hb)
  have I3 := Lib.hid (I2.out.next hb)
  clear hb B2 X2 I2
  clear v u z SI
  obtain ⟨v, u, z⟩ := X3.out.now.tre
  have HI := Lib.hid I3.out
  go_wp2_with fail
  clear v u z
  have hb : Below w3.heap.size w3 w3.drew := (Below.refl _ _).drew
  have B4 := Lib.hid B3.out.drew
  have X4 := Lib.hid (X3.out.next hb)
  have I4 := Lib.hid (I3.out.next hb)
  clear hb B3 X3 I3
  have HB0 := Lib.hid B4.out
  have HI0 := Lib.hid I4.out
  refine wp_region_held_drew (S := (fun w' => w'.cell? ⟨w.heap.size, 0, none⟩ = some (.slice a0 n0 c0) ∧ w'.cell? ⟨w.heap.size, 1, none⟩ = some (.slice a1 n1 c1) ∧ w'.cell? ⟨w.heap.size, 2, none⟩ = some (.slice a2 n2 c2))) (by kernel_rfl) ?_ (fun hHeld => ?_)
  · exact X4.out.now.tre
  generalize World.drew w3 = W0 at B4 X4 I4 HB0 HI0 hHeld ⊢
  refine wpAnyH_take (i := 1) (v := ?_) rfl (by kernel_rfl) (by kernel_rfl) (by kernel_rfl) (fun _ _ _ h => h) (Or.inl ⟨by kernel_rfl, ?_⟩) (by assumption) ?_
  rotate_left
  · intro w hSw; (try dsimp only at hSw); go_simp; try with_reducible rfl
  refine wpAnyH_take (i := 2) (v := ?_) rfl (by kernel_rfl) (by kernel_rfl) (by kernel_rfl) (fun _ _ _ h => h) (Or.inl ⟨by kernel_rfl, ?_⟩) (by assumption) ?_
  rotate_left
  · intro w hSw; (try dsimp only at hSw); go_simp; try with_reducible rfl
  refine wpAnyH_take (i := 4) (v := ?_) rfl (by kernel_rfl) (by kernel_rfl) (by kernel_rfl) (fun _ _ _ h => h) (Or.inl ⟨by kernel_rfl, ?_⟩) (by assumption) ?_
  rotate_left
  · intro w hSw; (try dsimp only at hSw); go_simp; try with_reducible rfl
  refine wpAnyH_take (i := 5) (v := ?_) rfl (by kernel_rfl) (by kernel_rfl) (by kernel_rfl) (fun _ _ _ h => h) (Or.inl ⟨by kernel_rfl, ?_⟩) (by assumption) ?_
  rotate_left
  · intro w hSw; (try dsimp only at hSw); go_simp; try with_reducible rfl
  refine wpAnyH_ready (rs := [0]) (by kernel_rfl) (by simp) ?_
  refine AllReadyH.cons rfl (fun K hK => ?_) AllReadyH.nil
  go_simp
  clear hHeld
  refine hK.out _ _ ?_ (fun hHeld => ?_)
  · exact (X4.out.alloc _).now.tre
  clear hK K
  have hb := (Below.refl W0.heap.size W0).alloc (Nat.le_refl _) (.cells #[] 65)
  have B5 := Lib.hid (B4.out.alloc B4.out.size (.cells #[] 65))
  have X5 := Lib.hid (X4.out.next hb)
  have I5 := Lib.hid (I4.out.next hb)
  have E5 : Hid (OwnT W0.heap.size (W0.alloc (.cells #[] 65)) (.slice (some ⟨W0.heap.size, 0, none⟩) 0 0) []) := Lib.hid (World.ownsRow_lit (size := 3) (e := 65) W0 #[] 0 (Nat.le_refl _) (by decide) rfl)
  have hxw : w.heap.size + 1 ≤ W0.heap.size := X4.out.le
  have hx2 : W0.heap.size ≤ (W0.alloc (.cells #[] 65)).heap.size := by simp
  clear hb B4 X4 I4
  refine wpAnyH_ready (rs := [3]) (by kernel_rfl) (by simp) ?_
  refine AllReadyH.cons rfl (fun K hK => ?_) AllReadyH.nil
  rw [if_pos (by rfl)]
  refine upon_moreT _ _ rfl rfl E5.out (by omega) (by simp) a1 n1 c1 t1 rfl I5.out.2.1 (by omega) ?_
  intro v1 w15 ho hg
  have hT : Turn W0.heap.size (w15.heap.size + 1) (W0.alloc (.cells #[] 65)) w15 := .of_grown hg (fun j hj => ⟨(World.ownsRow.lt E5.out j hj).1, by have := (World.ownsRow.lt E5.out j hj).2; have := hg.size; omega⟩)
  have hBW : Below w.heap.size w w15 := B5.out.grown hg B5.out.size (fun j hj => by have := (World.ownsRow.lt E5.out j hj).1; omega)
  have B6 := Lib.hid hBW
  have X6 := Lib.hid (X5.out.step hT (.inl (by omega)))
  have hBI : Below W0.heap.size W0 w15 := ((Below.refl W0.heap.size W0).alloc (Nat.le_refl _) (.cells #[] 65)).grown hg (by simp) (fun j hj => (World.ownsRow.lt E5.out j hj).1)
  have I6 := Lib.hid (HI0.out.next hBI)
  have hs6 : W0.heap.size ≤ w15.heap.size := hBI.size
  have E6 : Hid (OwnT W0.heap.size w15 v1 ([] ++ t1)) := Lib.hid ho
  have HBI := Lib.hid hBI
  clear hT hBW hBI ho hg B5 X5 I5 E5
  clear hHeld
  refine hK.out _ _ ?_ (fun hHeld => ?_)
  · exact X6.out.now.tre
  clear hK K
  refine wpAnyH_ready (rs := [6]) (by kernel_rfl) (by simp) ?_
  refine AllReadyH.cons rfl (fun K hK => ?_) AllReadyH.nil
  rw [if_pos (by rfl)]
  refine upon_moreT _ _ rfl rfl E6.out (by omega) (by simp; have := HT1.out; omega) a2 n2 c2 t2 rfl I6.out.2.2 (by omega) ?_
  intro v2 w16 ho hg
  have hT : Turn W0.heap.size (w16.heap.size + 1) w15 w16 := .of_grown hg (fun j hj => ⟨(World.ownsRow.lt E6.out j hj).1, by have := (World.ownsRow.lt E6.out j hj).2; have := hg.size; omega⟩)
  have hBW : Below w.heap.size w w16 := B6.out.grown hg B6.out.size (fun j hj => by have := (World.ownsRow.lt E6.out j hj).1; omega)
  have B7 := Lib.hid hBW
  have X7 := Lib.hid (X6.out.step hT (.inl (by omega)))
  have hBI : Below W0.heap.size W0 w16 := HBI.out.grown hg (by have := HBI.out.size; omega) (fun j hj => (World.ownsRow.lt E6.out j hj).1)
  have I7 := Lib.hid (HI0.out.next hBI)
  have hs7 : W0.heap.size ≤ w16.heap.size := hBI.size
  have E7 : Hid (OwnT W0.heap.size w16 v2 (([] ++ t1) ++ t2)) := Lib.hid ho
  clear hT hBW hBI ho hg B6 X6 I6 E6
  clear hHeld
  refine hK.out _ _ ?_ (fun hHeld => ?_)
  · exact X7.out.now.tre
  clear hK K
  refine wpAnyH_ready (rs := [7]) (by kernel_rfl) (by simp) ?_
  refine AllReadyH.cons rfl (fun K hK => ?_) AllReadyH.nil
  go_simp
  obtain ⟨ea, ec, ee, ei⟩ := E7.out.is (fun t ht => by have := HSA.out t (by simpa using ht); unfold maxLen; omega)
  subst ee
  have eo := ei
  have hLL : (([] ++ t1) ++ t2).length ≤ 8 := by rw [List.nil_append, List.length_append, HT1.out, HT2.out]; omega
  rw [List.nil_append] at ei hLL ⊢
  refine (specVars ea _ ec (t1 ++ t2) _ ei HSA.out (by omega)).mono ?_
  rintro e w27 ⟨vg, vn, vc, rfl, ho, hvl, hb⟩
  have B8 := Lib.hid (B7.out.trans (hb.mono B7.out.size))
  have X8 := Lib.hid (X7.out.next hb)
  have I8 := Lib.hid (I7.out.next hb)
  have A8 := Lib.hid (ownS_isQ (n := vn) ho (by rw [List.length_map]; exact hvl))
  have HVL := Lib.hid hvl
  clear hb ho B7 X7 I7 E7 ei eo hLL
  go_wp2_with fail
  clear hHeld
  refine hK.out _ _ ?_ (fun hHeld => ?_)
  · exact X8.out.now.tre
  clear hK K
  refine wpAnyH_take (i := 8) (v := ?_) rfl (by kernel_rfl) (by kernel_rfl) (by kernel_rfl) (fun _ _ _ h => h) (Or.inl ⟨by kernel_rfl, ?_⟩) (by assumption) ?_
  rotate_left
  · intro w hSw; (try dsimp only at hSw); go_simp; try with_reducible rfl
  refine wpAnyH_done (by kernel_rfl) ?_ _
  try simp only [Act.put, List.setIfInBounds_toArray, List.set_cons_zero, List.set_cons_succ, List.getElem_toArray, List.getElem_cons_zero, List.getElem_cons_succ]
  clear hHeld
  obtain ⟨ga, gc, ge, gi⟩ := A8.out
  simp only [Value.slice.injEq, true_and] at ge
  obtain ⟨rfl, rfl⟩ := ge
  have A8' := Lib.hid gi
  have hv12 : vn ≤ 1000 := by have h1 := putAllS_len (varWords (t1 ++ t2)) []; have h2 := varWords_len (t1 ++ t2); have h3 := HVL.out; rw [List.length_append, HT1.out, HT2.out] at h2; unfold allVars at h3; simp only [List.length_nil] at h1; omega
  clear gi A8 HI HI0
  go_wp2_with fail
  go_loopw [4] (fun i wr => ∃ j : Nat, j ≤ n0 ∧ i = .int .i64 j ∧ Hid ((txts (vs.take j)).Nodup ∧ ∀ v ∈ txts (vs.take j), v ∈ allVars (t1 ++ t2)) ∧ Hid (IsStrs wr (some ⟨vg, 0, none⟩) vn vc ((allVars (t1 ++ t2)).map bs)) ∧ Hid (Holds w.heap.size (w.heap.size + 1) wr (Cells w.heap.size #[.slice a0 n0 c0, .slice a1 n1 c1, .slice a2 n2 c2] 34)) ∧ Hid (IsQry wr a0 a1 a2 n0 n1 n2 c0 c1 c2 vs t1 t2) ∧ Hid (Below w.heap.size w wr)) (fun i _ => n0 - (intOf i).toNat)
  case atStart => exact ⟨0, Nat.zero_le _, rfl, Lib.hid (by simp [txts]), A8', X8, I8, B8⟩
  case round =>
    obtain ⟨j, hj, rfl, hup, A0, X0, I0, B0⟩ := hrel
    clear A8' X8 I8 B8
    have hj6 : (0 : Int) ≤ (j : Int) := by omega
    obtain ⟨v, u, z⟩ := X0.out.now.tre
    by_cases hlt : j < n0
    · have hj7 : (j : Int) < (n0 : Int) := by omega
      obtain ⟨vb, vo, rfl, hvb, hvc, hvm, hts, hcs⟩ := I0.out.1.1.cells (by omega)
      have ht : vs[j]? = some (vs[j]'(by omega)) := List.getElem?_eq_getElem (by omega)
      have d0 := hcs j _ ht
      have HK : Hid (vs.take (j + 1) = vs.take j ++ [vs[j]'(by omega)]) := Lib.hid (List.take_succ_eq_append_getElem (by omega))
      have hmem := List.mem_of_getElem? ht
      generalize vs[j]'(by omega) = x at ht d0 HK hmem
      have hjc : (j : Int) ≤ (c0 : Int) := by omega
      have HM1 := Lib.hid (hasB_mem ((allVars (t1 ++ t2)).map bs) x)
      rw [txts_bs] at HM1
      have HM2 := Lib.hid (hasB_mem (vs.take j) x)
      have C1 := fun (W : World) (hI : IsStrs W (some ⟨vg, 0, none⟩) vn vc ((allVars (t1 ++ t2)).map bs)) => specHas _ vn vc _ x W hI (by omega)
      have C2 := fun (W : World) (hI : IsStrs W (some ⟨vb, vo, none⟩) j c0 (vs.take j)) => specHas _ j c0 _ x W hI (by omega)
      rw [HM1.out] at C1
      rw [HM2.out] at C2
      clear hts hcs hvc hvm ht
      by_cases hin1 : x.data.toList ∈ allVars (t1 ++ t2)
      · rw [decide_eq_true hin1] at C1
        by_cases hin2 : x.data.toList ∈ txts (vs.take j)
        · rw [decide_eq_true hin2] at C2
          have HF : Hid (q = false) := Lib.hid (by
            rw [Bool.eq_false_iff]; intro hc
            have hn := (HIFF.out.1 hc).1
            have e : txts vs = txts (vs.take j) ++ txts (vs.drop j) := by unfold txts; rw [← List.map_append, List.take_append_drop]
            rw [e] at hn
            refine (List.nodup_append.1 hn).2.2 _ hin2 _ (?_ : x.data.toList ∈ txts (vs.drop j)) rfl
            have hxd : x ∈ vs.drop j := by
              have hh : (vs.drop j)[0]? = some x := by
                have h9 := congrArg (fun l => l[j]?) HK.out
                simp only [List.getElem?_take_of_lt (Nat.lt_succ_self j)] at h9
                rw [List.getElem?_drop, Nat.add_zero, h9, List.getElem?_append_right (by rw [List.length_take]; omega), List.length_take, Nat.min_eq_left (by have := HV.out; omega)]; simp
              exact List.mem_of_getElem? hh
            exact List.mem_map.2 ⟨x, hxd, rfl⟩)
          clear hin1 hin2 HK hmem
          have D0 : Hid (wr.drew.cell? ⟨w.heap.size, 0, none⟩ = some (.slice (some ⟨vb, vo, none⟩) n0 c0) ∧ wr.drew.cell? ⟨vb, vo + j, none⟩ = some (.string x)) := Lib.hid ⟨v, d0⟩
          have D1 := Lib.hid C1
          have D2 := Lib.hid C2
          have T0 := Lib.hid (isStrs_take I0.out.1.1 (Nat.le_of_lt hlt))
          have T1 : Hid (IsStrs wr.drew (some ⟨vb, vo, none⟩) j c0 (vs.take j)) := Lib.hid (T0.out.next (Below.refl _ _).drew)
          have A1 := Lib.hid (A0.out.next (Below.refl wr.heap.size wr).drew)
          clear C1 C2 T0
          go_wp2_with fail
          clear v u z d0
          refine wp_region_held_drew (S := (fun w' => w'.cell? ⟨w.heap.size, 0, none⟩ = some (.slice (some ⟨vb, vo, none⟩) n0 c0) ∧ w'.cell? ⟨vb, vo + j, none⟩ = some (.string x))) (by kernel_rfl) ?_ (fun hHeld => ?_)
          · exact D0.out
          refine wpAnyH_take (i := 0) (v := ?_) rfl (by kernel_rfl) (by kernel_rfl) (by kernel_rfl) (fun _ _ _ h => h) (Or.inl ⟨by kernel_rfl, ?_⟩) (by assumption) ?_
          rotate_left
          · intro w hSw; (try dsimp only at hSw); go_simp; try with_reducible rfl
          refine wpAnyH_take (i := 1) (v := ?_) rfl (by kernel_rfl) (by kernel_rfl) (by kernel_rfl) (fun _ _ _ h => h) (Or.inl ⟨by kernel_rfl, ?_⟩) (by assumption) ?_
          rotate_left
          · intro w hSw; (try dsimp only at hSw); go_simp; try with_reducible rfl
          refine wpAnyH_take (i := 2) (v := ?_) rfl (by kernel_rfl) (by kernel_rfl) (by kernel_rfl) (fun _ _ _ h => h) (Or.inl ⟨by kernel_rfl, ?_⟩) (by assumption) ?_
          rotate_left
          · intro w hSw; (try dsimp only at hSw); go_simp; try with_reducible rfl
          refine wpAnyH_take (i := 3) (v := ?_) rfl (by kernel_rfl) (by kernel_rfl) (by kernel_rfl) (fun _ _ _ h => h) (Or.inl ⟨by kernel_rfl, ?_⟩) (by assumption) ?_
          rotate_left
          · intro w hSw; (try dsimp only at hSw); go_simp; try with_reducible rfl
          refine wpAnyH_take (i := 4) (v := ?_) rfl (by kernel_rfl) (by kernel_rfl) (by kernel_rfl) (fun _ _ _ h => h) (Or.inl ⟨by kernel_rfl, ?_⟩) (by assumption) ?_
          rotate_left
          · intro w hSw; (try dsimp only at hSw); go_simp; try with_reducible rfl
          refine wpAnyH_take (i := 5) (v := ?_) rfl (by kernel_rfl) (by kernel_rfl) (by kernel_rfl) (fun _ _ _ h => h) (Or.inl ⟨by kernel_rfl, ?_⟩) (by assumption) ?_
          rotate_left
          · intro w hSw; (try dsimp only at hSw); go_simp; try with_reducible rfl
          refine wpAnyH_ready (rs := [6]) (by kernel_rfl) (by simp) ?_
          refine AllReadyH.cons rfl (fun K hK => ?_) AllReadyH.nil
          go_simp
          refine (D1.out _ A1.out).mono ?_
          rintro e wz ⟨rfl, hw⟩
          subst hw
          go_wp2_with fail
          clear hHeld
          refine hK.out _ _ ?_ (fun hHeld => ?_)
          · exact D0.out
          clear hK K
          refine wpAnyH_take (i := 7) (v := ?_) rfl (by kernel_rfl) (by kernel_rfl) (by kernel_rfl) (fun _ _ _ h => h) (Or.inl ⟨by kernel_rfl, ?_⟩) (by assumption) ?_
          rotate_left
          · intro w hSw; (try dsimp only at hSw); go_simp; try with_reducible rfl
          refine wpAnyH_take (i := 8) (v := ?_) rfl (by kernel_rfl) (by kernel_rfl) (by kernel_rfl) (fun _ _ _ h => h) (Or.inl ⟨by kernel_rfl, ?_⟩) (by assumption) ?_
          rotate_left
          · intro w hSw; (try dsimp only at hSw); go_simp; try with_reducible rfl
          refine wpAnyH_take (i := 9) (v := ?_) rfl (by kernel_rfl) (by kernel_rfl) (by kernel_rfl) (fun _ _ _ h => h) (Or.inl ⟨by kernel_rfl, ?_⟩) (by assumption) ?_
          rotate_left
          · intro w hSw; (try dsimp only at hSw); go_simp; try with_reducible rfl
          refine wpAnyH_take (i := 10) (v := ?_) rfl (by kernel_rfl) (by kernel_rfl) (by kernel_rfl) (fun _ _ _ h => h) (Or.inl ⟨by kernel_rfl, ?_⟩) (by assumption) ?_
          rotate_left
          · intro w hSw; (try dsimp only at hSw); go_simp; try with_reducible rfl
          refine wpAnyH_take (i := 11) (v := ?_) rfl (by kernel_rfl) (by kernel_rfl) (by kernel_rfl) (fun _ _ _ h => h) (Or.inl ⟨by kernel_rfl, ?_⟩) (by assumption) ?_
          rotate_left
          · intro w hSw; (try dsimp only at hSw); go_simp; try with_reducible rfl
          refine wpAnyH_take (i := 12) (v := ?_) rfl (by kernel_rfl) (by kernel_rfl) (by kernel_rfl) (fun _ _ _ h => h) (Or.inl ⟨by kernel_rfl, ?_⟩) (by assumption) ?_
          rotate_left
          · intro w hSw; (try dsimp only at hSw); go_simp; try with_reducible rfl
          refine wpAnyH_take (i := 13) (v := ?_) rfl (by kernel_rfl) (by kernel_rfl) (by kernel_rfl) (fun _ _ _ h => h) (Or.inl ⟨by kernel_rfl, ?_⟩) (by assumption) ?_
          rotate_left
          · intro w hSw; (try dsimp only at hSw); go_simp; try with_reducible rfl
          refine wpAnyH_take (i := 14) (v := ?_) rfl (by kernel_rfl) (by kernel_rfl) (by kernel_rfl) (fun _ _ _ h => h) (Or.inl ⟨by kernel_rfl, ?_⟩) (by assumption) ?_
          rotate_left
          · intro w hSw; (try dsimp only at hSw); go_simp; try with_reducible rfl
          refine wpAnyH_take (i := 15) (v := ?_) rfl (by kernel_rfl) (by kernel_rfl) (by kernel_rfl) (fun _ _ _ h => h) (Or.inl ⟨by kernel_rfl, ?_⟩) (by assumption) ?_
          rotate_left
          · intro w hSw; (try dsimp only at hSw); go_simp; try with_reducible rfl
          refine wpAnyH_take (i := 16) (v := ?_) rfl (by kernel_rfl) (by kernel_rfl) (by kernel_rfl) (fun _ _ _ h => h) (Or.inl ⟨by kernel_rfl, ?_⟩) (by assumption) ?_
          rotate_left
          · intro w hSw; (try dsimp only at hSw); go_simp; try with_reducible rfl
          refine wpAnyH_take (i := 17) (v := ?_) rfl (by kernel_rfl) (by kernel_rfl) (by kernel_rfl) (fun _ _ _ h => h) (Or.inl ⟨by kernel_rfl, ?_⟩) (by assumption) ?_
          rotate_left
          · intro w hSw; (try dsimp only at hSw); go_simp; try with_reducible rfl
          refine wpAnyH_ready (rs := [18]) (by kernel_rfl) (by simp) ?_
          refine AllReadyH.cons rfl (fun K hK => ?_) AllReadyH.nil
          go_simp
          refine (D2.out _ T1.out).mono ?_
          rintro e wz ⟨rfl, hw⟩
          subst hw
          go_wp2_with fail
          clear hHeld
          refine hK.out _ _ ?_ (fun hHeld => ?_)
          · exact D0.out
          clear hK K
          refine wpAnyH_take (i := 19) (v := ?_) rfl (by kernel_rfl) (by kernel_rfl) (by kernel_rfl) (fun _ _ _ h => h) (Or.inl ⟨by kernel_rfl, ?_⟩) (by assumption) ?_
          rotate_left
          · intro w hSw; (try dsimp only at hSw); go_simp; try with_reducible rfl
          refine wpAnyH_done (by kernel_rfl) ?_ _
          try simp only [Act.put, List.setIfInBounds_toArray, List.set_cons_zero, List.set_cons_succ, List.getElem_toArray, List.getElem_cons_zero, List.getElem_cons_succ]
          clear hHeld
          go_wp2_with fail
          go_ret
          exact ⟨by rw [HF.out]; rfl, B0.out.drew⟩
        · rw [decide_eq_false hin2] at C2
          have HN : Hid ((txts (vs.take (j + 1))).Nodup ∧ ∀ v ∈ txts (vs.take (j + 1)), v ∈ allVars (t1 ++ t2)) := Lib.hid (by
            rw [HK.out, txts_snoc]
            exact ⟨List.nodup_append.2 ⟨hup.out.1, by simp, fun a ha b hb => by simp at hb; subst hb; exact fun e => hin2 (e ▸ ha)⟩, fun v hv => by
              rcases List.mem_append.1 hv with g | g
              · exact hup.out.2 v g
              · rw [List.mem_singleton.1 g]; exact hin1⟩)
          have hbd : Below wr.heap.size wr wr.drew := (Below.refl _ _).drew
          have X1 := Lib.hid (X0.out.next hbd)
          have I1 := Lib.hid (I0.out.next hbd)
          have B1 := Lib.hid B0.out.drew
          clear hin1 hin2 HK hmem hup hbd
          have D0 : Hid (wr.drew.cell? ⟨w.heap.size, 0, none⟩ = some (.slice (some ⟨vb, vo, none⟩) n0 c0) ∧ wr.drew.cell? ⟨vb, vo + j, none⟩ = some (.string x)) := Lib.hid ⟨v, d0⟩
          have D1 := Lib.hid C1
          have D2 := Lib.hid C2
          have T0 := Lib.hid (isStrs_take I0.out.1.1 (Nat.le_of_lt hlt))
          have T1 : Hid (IsStrs wr.drew (some ⟨vb, vo, none⟩) j c0 (vs.take j)) := Lib.hid (T0.out.next (Below.refl _ _).drew)
          have A1 := Lib.hid (A0.out.next (Below.refl wr.heap.size wr).drew)
          clear C1 C2 T0
          go_wp2_with fail
          clear v u z d0
          refine wp_region_held_drew (S := (fun w' => w'.cell? ⟨w.heap.size, 0, none⟩ = some (.slice (some ⟨vb, vo, none⟩) n0 c0) ∧ w'.cell? ⟨vb, vo + j, none⟩ = some (.string x))) (by kernel_rfl) ?_ (fun hHeld => ?_)
          · exact D0.out
          refine wpAnyH_take (i := 0) (v := ?_) rfl (by kernel_rfl) (by kernel_rfl) (by kernel_rfl) (fun _ _ _ h => h) (Or.inl ⟨by kernel_rfl, ?_⟩) (by assumption) ?_
          rotate_left
          · intro w hSw; (try dsimp only at hSw); go_simp; try with_reducible rfl
          refine wpAnyH_take (i := 1) (v := ?_) rfl (by kernel_rfl) (by kernel_rfl) (by kernel_rfl) (fun _ _ _ h => h) (Or.inl ⟨by kernel_rfl, ?_⟩) (by assumption) ?_
          rotate_left
          · intro w hSw; (try dsimp only at hSw); go_simp; try with_reducible rfl
          refine wpAnyH_take (i := 2) (v := ?_) rfl (by kernel_rfl) (by kernel_rfl) (by kernel_rfl) (fun _ _ _ h => h) (Or.inl ⟨by kernel_rfl, ?_⟩) (by assumption) ?_
          rotate_left
          · intro w hSw; (try dsimp only at hSw); go_simp; try with_reducible rfl
          refine wpAnyH_take (i := 3) (v := ?_) rfl (by kernel_rfl) (by kernel_rfl) (by kernel_rfl) (fun _ _ _ h => h) (Or.inl ⟨by kernel_rfl, ?_⟩) (by assumption) ?_
          rotate_left
          · intro w hSw; (try dsimp only at hSw); go_simp; try with_reducible rfl
          refine wpAnyH_take (i := 4) (v := ?_) rfl (by kernel_rfl) (by kernel_rfl) (by kernel_rfl) (fun _ _ _ h => h) (Or.inl ⟨by kernel_rfl, ?_⟩) (by assumption) ?_
          rotate_left
          · intro w hSw; (try dsimp only at hSw); go_simp; try with_reducible rfl
          refine wpAnyH_take (i := 5) (v := ?_) rfl (by kernel_rfl) (by kernel_rfl) (by kernel_rfl) (fun _ _ _ h => h) (Or.inl ⟨by kernel_rfl, ?_⟩) (by assumption) ?_
          rotate_left
          · intro w hSw; (try dsimp only at hSw); go_simp; try with_reducible rfl
          refine wpAnyH_ready (rs := [6]) (by kernel_rfl) (by simp) ?_
          refine AllReadyH.cons rfl (fun K hK => ?_) AllReadyH.nil
          go_simp
          refine (D1.out _ A1.out).mono ?_
          rintro e wz ⟨rfl, hw⟩
          subst hw
          go_wp2_with fail
          clear hHeld
          refine hK.out _ _ ?_ (fun hHeld => ?_)
          · exact D0.out
          clear hK K
          refine wpAnyH_take (i := 7) (v := ?_) rfl (by kernel_rfl) (by kernel_rfl) (by kernel_rfl) (fun _ _ _ h => h) (Or.inl ⟨by kernel_rfl, ?_⟩) (by assumption) ?_
          rotate_left
          · intro w hSw; (try dsimp only at hSw); go_simp; try with_reducible rfl
          refine wpAnyH_take (i := 8) (v := ?_) rfl (by kernel_rfl) (by kernel_rfl) (by kernel_rfl) (fun _ _ _ h => h) (Or.inl ⟨by kernel_rfl, ?_⟩) (by assumption) ?_
          rotate_left
          · intro w hSw; (try dsimp only at hSw); go_simp; try with_reducible rfl
          refine wpAnyH_take (i := 9) (v := ?_) rfl (by kernel_rfl) (by kernel_rfl) (by kernel_rfl) (fun _ _ _ h => h) (Or.inl ⟨by kernel_rfl, ?_⟩) (by assumption) ?_
          rotate_left
          · intro w hSw; (try dsimp only at hSw); go_simp; try with_reducible rfl
          refine wpAnyH_take (i := 10) (v := ?_) rfl (by kernel_rfl) (by kernel_rfl) (by kernel_rfl) (fun _ _ _ h => h) (Or.inl ⟨by kernel_rfl, ?_⟩) (by assumption) ?_
          rotate_left
          · intro w hSw; (try dsimp only at hSw); go_simp; try with_reducible rfl
          refine wpAnyH_take (i := 11) (v := ?_) rfl (by kernel_rfl) (by kernel_rfl) (by kernel_rfl) (fun _ _ _ h => h) (Or.inl ⟨by kernel_rfl, ?_⟩) (by assumption) ?_
          rotate_left
          · intro w hSw; (try dsimp only at hSw); go_simp; try with_reducible rfl
          refine wpAnyH_take (i := 12) (v := ?_) rfl (by kernel_rfl) (by kernel_rfl) (by kernel_rfl) (fun _ _ _ h => h) (Or.inl ⟨by kernel_rfl, ?_⟩) (by assumption) ?_
          rotate_left
          · intro w hSw; (try dsimp only at hSw); go_simp; try with_reducible rfl
          refine wpAnyH_take (i := 13) (v := ?_) rfl (by kernel_rfl) (by kernel_rfl) (by kernel_rfl) (fun _ _ _ h => h) (Or.inl ⟨by kernel_rfl, ?_⟩) (by assumption) ?_
          rotate_left
          · intro w hSw; (try dsimp only at hSw); go_simp; try with_reducible rfl
          refine wpAnyH_take (i := 14) (v := ?_) rfl (by kernel_rfl) (by kernel_rfl) (by kernel_rfl) (fun _ _ _ h => h) (Or.inl ⟨by kernel_rfl, ?_⟩) (by assumption) ?_
          rotate_left
          · intro w hSw; (try dsimp only at hSw); go_simp; try with_reducible rfl
          refine wpAnyH_take (i := 15) (v := ?_) rfl (by kernel_rfl) (by kernel_rfl) (by kernel_rfl) (fun _ _ _ h => h) (Or.inl ⟨by kernel_rfl, ?_⟩) (by assumption) ?_
          rotate_left
          · intro w hSw; (try dsimp only at hSw); go_simp; try with_reducible rfl
          refine wpAnyH_take (i := 16) (v := ?_) rfl (by kernel_rfl) (by kernel_rfl) (by kernel_rfl) (fun _ _ _ h => h) (Or.inl ⟨by kernel_rfl, ?_⟩) (by assumption) ?_
          rotate_left
          · intro w hSw; (try dsimp only at hSw); go_simp; try with_reducible rfl
          refine wpAnyH_take (i := 17) (v := ?_) rfl (by kernel_rfl) (by kernel_rfl) (by kernel_rfl) (fun _ _ _ h => h) (Or.inl ⟨by kernel_rfl, ?_⟩) (by assumption) ?_
          rotate_left
          · intro w hSw; (try dsimp only at hSw); go_simp; try with_reducible rfl
          refine wpAnyH_ready (rs := [18]) (by kernel_rfl) (by simp) ?_
          refine AllReadyH.cons rfl (fun K hK => ?_) AllReadyH.nil
          go_simp
          refine (D2.out _ T1.out).mono ?_
          rintro e wz ⟨rfl, hw⟩
          subst hw
          go_wp2_with fail
          clear hHeld
          refine hK.out _ _ ?_ (fun hHeld => ?_)
          · exact D0.out
          clear hK K
          refine wpAnyH_take (i := 19) (v := ?_) rfl (by kernel_rfl) (by kernel_rfl) (by kernel_rfl) (fun _ _ _ h => h) (Or.inl ⟨by kernel_rfl, ?_⟩) (by assumption) ?_
          rotate_left
          · intro w hSw; (try dsimp only at hSw); go_simp; try with_reducible rfl
          refine wpAnyH_done (by kernel_rfl) ?_ _
          try simp only [Act.put, List.setIfInBounds_toArray, List.set_cons_zero, List.set_cons_succ, List.getElem_toArray, List.getElem_cons_zero, List.getElem_cons_succ]
          clear hHeld
          go_wp2_with fail
          go_roundw
          case rel => exact ⟨j + 1, by omega, by go_num, HN, A1, X1, I1, B1⟩
          case measure => simp [intOf]; omega
      · rw [decide_eq_false hin1] at C1
        have HF : Hid (q = false) := Lib.hid (by
          rw [Bool.eq_false_iff]; intro hc
          exact hin1 ((HIFF.out.1 hc).2 _ (List.mem_map.2 ⟨x, hmem, rfl⟩)))
        clear hin1 HK hmem
        have D0 : Hid (wr.drew.cell? ⟨w.heap.size, 0, none⟩ = some (.slice (some ⟨vb, vo, none⟩) n0 c0) ∧ wr.drew.cell? ⟨vb, vo + j, none⟩ = some (.string x)) := Lib.hid ⟨v, d0⟩
        have D1 := Lib.hid C1
        have D2 := Lib.hid C2
        have T0 := Lib.hid (isStrs_take I0.out.1.1 (Nat.le_of_lt hlt))
        have T1 : Hid (IsStrs wr.drew (some ⟨vb, vo, none⟩) j c0 (vs.take j)) := Lib.hid (T0.out.next (Below.refl _ _).drew)
        have A1 := Lib.hid (A0.out.next (Below.refl wr.heap.size wr).drew)
        clear C1 C2 T0
        go_wp2_with fail
        clear v u z d0
        refine wp_region_held_drew (S := (fun w' => w'.cell? ⟨w.heap.size, 0, none⟩ = some (.slice (some ⟨vb, vo, none⟩) n0 c0) ∧ w'.cell? ⟨vb, vo + j, none⟩ = some (.string x))) (by kernel_rfl) ?_ (fun hHeld => ?_)
        · exact D0.out
        refine wpAnyH_take (i := 0) (v := ?_) rfl (by kernel_rfl) (by kernel_rfl) (by kernel_rfl) (fun _ _ _ h => h) (Or.inl ⟨by kernel_rfl, ?_⟩) (by assumption) ?_
        rotate_left
        · intro w hSw; (try dsimp only at hSw); go_simp; try with_reducible rfl
        refine wpAnyH_take (i := 1) (v := ?_) rfl (by kernel_rfl) (by kernel_rfl) (by kernel_rfl) (fun _ _ _ h => h) (Or.inl ⟨by kernel_rfl, ?_⟩) (by assumption) ?_
        rotate_left
        · intro w hSw; (try dsimp only at hSw); go_simp; try with_reducible rfl
        refine wpAnyH_take (i := 2) (v := ?_) rfl (by kernel_rfl) (by kernel_rfl) (by kernel_rfl) (fun _ _ _ h => h) (Or.inl ⟨by kernel_rfl, ?_⟩) (by assumption) ?_
        rotate_left
        · intro w hSw; (try dsimp only at hSw); go_simp; try with_reducible rfl
        refine wpAnyH_take (i := 3) (v := ?_) rfl (by kernel_rfl) (by kernel_rfl) (by kernel_rfl) (fun _ _ _ h => h) (Or.inl ⟨by kernel_rfl, ?_⟩) (by assumption) ?_
        rotate_left
        · intro w hSw; (try dsimp only at hSw); go_simp; try with_reducible rfl
        refine wpAnyH_take (i := 4) (v := ?_) rfl (by kernel_rfl) (by kernel_rfl) (by kernel_rfl) (fun _ _ _ h => h) (Or.inl ⟨by kernel_rfl, ?_⟩) (by assumption) ?_
        rotate_left
        · intro w hSw; (try dsimp only at hSw); go_simp; try with_reducible rfl
        refine wpAnyH_take (i := 5) (v := ?_) rfl (by kernel_rfl) (by kernel_rfl) (by kernel_rfl) (fun _ _ _ h => h) (Or.inl ⟨by kernel_rfl, ?_⟩) (by assumption) ?_
        rotate_left
        · intro w hSw; (try dsimp only at hSw); go_simp; try with_reducible rfl
        refine wpAnyH_ready (rs := [6]) (by kernel_rfl) (by simp) ?_
        refine AllReadyH.cons rfl (fun K hK => ?_) AllReadyH.nil
        go_simp
        refine (D1.out _ A1.out).mono ?_
        rintro e wz ⟨rfl, hw⟩
        subst hw
        go_wp2_with fail
        clear hHeld
        refine hK.out _ _ ?_ (fun hHeld => ?_)
        · exact D0.out
        clear hK K
        refine wpAnyH_take (i := 7) (v := ?_) rfl (by kernel_rfl) (by kernel_rfl) (by kernel_rfl) (fun _ _ _ h => h) (Or.inl ⟨by kernel_rfl, ?_⟩) (by assumption) ?_
        rotate_left
        · intro w hSw; (try dsimp only at hSw); go_simp; try with_reducible rfl
        refine wpAnyH_take (i := 8) (v := ?_) rfl (by kernel_rfl) (by kernel_rfl) (by kernel_rfl) (fun _ _ _ h => h) (Or.inl ⟨by kernel_rfl, ?_⟩) (by assumption) ?_
        rotate_left
        · intro w hSw; (try dsimp only at hSw); go_simp; try with_reducible rfl
        refine wpAnyH_take (i := 9) (v := undef) rfl (by kernel_rfl) (by kernel_rfl) (by kernel_rfl) (fun _ _ _ h => h) (Or.inr ⟨by kernel_rfl, rfl⟩) (by assumption) ?_
        refine wpAnyH_take (i := 10) (v := undef) rfl (by kernel_rfl) (by kernel_rfl) (by kernel_rfl) (fun _ _ _ h => h) (Or.inr ⟨by kernel_rfl, rfl⟩) (by assumption) ?_
        refine wpAnyH_take (i := 11) (v := undef) rfl (by kernel_rfl) (by kernel_rfl) (by kernel_rfl) (fun _ _ _ h => h) (Or.inr ⟨by kernel_rfl, rfl⟩) (by assumption) ?_
        refine wpAnyH_take (i := 12) (v := undef) rfl (by kernel_rfl) (by kernel_rfl) (by kernel_rfl) (fun _ _ _ h => h) (Or.inr ⟨by kernel_rfl, rfl⟩) (by assumption) ?_
        refine wpAnyH_take (i := 13) (v := undef) rfl (by kernel_rfl) (by kernel_rfl) (by kernel_rfl) (fun _ _ _ h => h) (Or.inr ⟨by kernel_rfl, rfl⟩) (by assumption) ?_
        refine wpAnyH_take (i := 14) (v := undef) rfl (by kernel_rfl) (by kernel_rfl) (by kernel_rfl) (fun _ _ _ h => h) (Or.inr ⟨by kernel_rfl, rfl⟩) (by assumption) ?_
        refine wpAnyH_take (i := 15) (v := undef) rfl (by kernel_rfl) (by kernel_rfl) (by kernel_rfl) (fun _ _ _ h => h) (Or.inr ⟨by kernel_rfl, rfl⟩) (by assumption) ?_
        refine wpAnyH_take (i := 16) (v := undef) rfl (by kernel_rfl) (by kernel_rfl) (by kernel_rfl) (fun _ _ _ h => h) (Or.inr ⟨by kernel_rfl, rfl⟩) (by assumption) ?_
        refine wpAnyH_take (i := 17) (v := undef) rfl (by kernel_rfl) (by kernel_rfl) (by kernel_rfl) (fun _ _ _ h => h) (Or.inr ⟨by kernel_rfl, rfl⟩) (by assumption) ?_
        refine wpAnyH_take (i := 18) (v := undef) rfl (by kernel_rfl) (by kernel_rfl) (by kernel_rfl) (fun _ _ _ h => h) (Or.inr ⟨by kernel_rfl, rfl⟩) (by assumption) ?_
        refine wpAnyH_take (i := 19) (v := ?_) rfl (by kernel_rfl) (by kernel_rfl) (by kernel_rfl) (fun _ _ _ h => h) (Or.inl ⟨by kernel_rfl, ?_⟩) (by assumption) ?_
        rotate_left
        · intro w hSw; (try dsimp only at hSw); go_simp; try with_reducible rfl
        refine wpAnyH_done (by kernel_rfl) ?_ _
        try simp only [Act.put, List.setIfInBounds_toArray, List.set_cons_zero, List.set_cons_succ, List.getElem_toArray, List.getElem_cons_zero, List.getElem_cons_succ]
        clear hHeld
        go_wp2_with fail
        go_ret
        exact ⟨by rw [HF.out]; rfl, B0.out.drew⟩
    · have HF : Hid (q = true) := Lib.hid (HIFF.out.2 (by
        have h9 := hup.out
        rwa [List.take_of_length_le (by rw [HV.out]; omega)] at h9))
      clear hup
      go_wp2_with fail
      go_ret
      exact ⟨by rw [HF.out]; rfl, B0.out⟩
end Go.Proofs.YtiajdnhmjdfeeaaGreat
