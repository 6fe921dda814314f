/- A row and a triple: the program's own tests.; slices.Insert at pairs: one pair put into a slice that the call owns.; One more pair in a row: the specification's way. -/
import Derived.Test.YtiajdnhmjdfeeaaGreatK31
import Derived.Test.YtiajdnhmjdfeeaaGreatK12
import Derived.Test.YtiajdnhmjdfeeaaGreatK32
import Derived.Deep.QuietTactic
import Derived.BigQuiet
import Derived.Test.YtiajdnhmjdfeeaaGreatK30
import Derived.Lib.Overlaps
import Derived.Lib.AppendZerosOnto
import Derived.Laws.CopyOwn
import Derived.Laws.Externs
import Derived.Deep.RegionLaw
import Derived.Shelf.RegionOpenPlain
import Derived.Test.YtiajdnhmjdfeeaaGreatK25
namespace Go.Proofs.YtiajdnhmjdfeeaaGreat
open Go.RowKit Go.WideShapes
def blankV (x : ByteArray) : ByteArray := if isVarK x.data.toList = true then ⟨#[]⟩ else x
def blankT (a : Tri3) : Tri3 := (blankV a.1, blankV a.2.1, blankV a.2.2)
def wv (x : ByteArray) (k j : Nat) : ByteArray := if k < j then blankV x else x
theorem Box.setc2 {w : World} {g : Nat} {x y z : Value} {T : TypeId} (h : Box w g x y z T) (u : Value) : Box (w.setCell ⟨g, 2, none⟩ u) g x y u T := by
  unfold Box at h ⊢
  simp [World.setCell, h, Array.getElem?_modify]
theorem words_cases {s p o : ByteArray} {j : Nat} {x : ByteArray} (hx : (wordsT (s, p, o))[j]? = some x) : (j = 0 ∧ s = x) ∨ (j = 1 ∧ p = x) ∨ (j = 2 ∧ o = x) := by
  have hj : j = 0 ∨ j = 1 ∨ j = 2 := by
    have := (List.getElem?_eq_some_iff.1 hx).1
    simp only [wordsT, List.length_cons, List.length_nil] at this; omega
  rcases hj with rfl | rfl | rfl
  · exact .inl ⟨rfl, by simpa [wordsT] using hx⟩
  · exact .inr (.inl ⟨rfl, by simpa [wordsT] using hx⟩)
  · exact .inr (.inr ⟨rfl, by simpa [wordsT] using hx⟩)
theorem blankV_no {x : ByteArray} (h : isVarK x.data.toList = false) : blankV x = x := by unfold blankV; rw [h]; rfl
theorem blankV_yes {x : ByteArray} (h : isVarK x.data.toList = true) : blankV x = ⟨#[]⟩ := by unfold blankV; rw [if_pos h]
theorem boxw_keep {w : World} {g j : Nat} {s p o x : ByteArray} {T : TypeId} (h : Box w g (.string (wv s 0 j)) (.string (wv p 1 j)) (.string (wv o 2 j)) T) (hx : (wordsT (s, p, o))[j]? = some x) (hv : isVarK x.data.toList = false) : Box w g (.string (wv s 0 (j + 1))) (.string (wv p 1 (j + 1))) (.string (wv o 2 (j + 1))) T := by
  rcases words_cases hx with ⟨rfl, rfl⟩ | ⟨rfl, rfl⟩ | ⟨rfl, rfl⟩ <;> simpa [wv, blankV_no hv] using h
theorem boxw_set {w : World} {g j : Nat} {s p o x : ByteArray} {T : TypeId} (h : Box w g (.string (wv s 0 j)) (.string (wv p 1 j)) (.string (wv o 2 j)) T) (hx : (wordsT (s, p, o))[j]? = some x) (hv : isVarK x.data.toList = true) : Box (w.setCell ⟨g, j, none⟩ (.string ⟨#[]⟩)) g (.string (wv s 0 (j + 1))) (.string (wv p 1 (j + 1))) (.string (wv o 2 (j + 1))) T := by
  rcases words_cases hx with ⟨rfl, rfl⟩ | ⟨rfl, rfl⟩ | ⟨rfl, rfl⟩
  · simpa [wv, blankV_yes hv] using h.set0 (.string ⟨#[]⟩)
  · simpa [wv, blankV_yes hv] using h.set1 (.string ⟨#[]⟩)
  · simpa [wv, blankV_yes hv] using h.setc2 (.string ⟨#[]⟩)
theorem boxw_at {w : World} {g j : Nat} {s p o : ByteArray} {T : TypeId} (h : Box w g (.string s) (.string p) (.string o) T) (hj : j < 3) : ∃ u, w.cell? ⟨g, j, none⟩ = some (.string u) ∧ w.frozen? ⟨g, j, none⟩ = false := by
  obtain ⟨c0, c1, c2⟩ := h.cells
  obtain ⟨f0, f1, f2⟩ := h.free
  have hj' : j = 0 ∨ j = 1 ∨ j = 2 := by omega
  rcases hj' with rfl | rfl | rfl
  · exact ⟨_, c0, f0⟩
  · exact ⟨_, c1, f1⟩
  · exact ⟨_, c2, f2⟩
set_option maxRecDepth 100000 in
set_option maxHeartbeats 3200000 in
theorem implWithoutVars (s p o : ByteArray) (w : World) (hs : s.size ≤ 2097152 ∧ p.size ≤ 2097152 ∧ o.size ≤ 2097152) :
    Calls Tryz.prog 158 #[.agg #[.string s, .string p, .string o]] w fun e w' => e = .returned (.agg #[.string (blankV s), .string (blankV p), .string (blankV o)]) ∧ Below w.heap.size w w' := by
  obtain ⟨hs1, hs2, hs3⟩ := hs
  have B0 : Below w.heap.size w ((w.alloc (.cells #[.string s, .string p, .string o] 65)).alloc (.cells #[.string ⟨#[]⟩, .string ⟨#[]⟩, .string ⟨#[]⟩] 65)) := ((Below.refl _ _).alloc (Nat.le_refl _) _).alloc (by simp) _
  have g0 : Box ((w.alloc (.cells #[.string s, .string p, .string o] 65)).alloc (.cells #[.string ⟨#[]⟩, .string ⟨#[]⟩, .string ⟨#[]⟩] 65)) w.heap.size (.string s) (.string p) (.string o) 65 := Box.alloc (Box.new w _ _ _ _) _
  have g1 : Box ((w.alloc (.cells #[.string s, .string p, .string o] 65)).alloc (.cells #[.string ⟨#[]⟩, .string ⟨#[]⟩, .string ⟨#[]⟩] 65)) (w.heap.size + 1) (.string ⟨#[]⟩) (.string ⟨#[]⟩) (.string ⟨#[]⟩) 65 := by
    have := Box.new (w.alloc (.cells #[.string s, .string p, .string o] 65)) (.string ⟨#[]⟩) (.string ⟨#[]⟩) (.string ⟨#[]⟩) 65
    unfold Box at this ⊢
    simpa using this
  obtain ⟨c0, c1, c2⟩ := g0.cells
  have CP := Lib.hid (fun W => implParts s p o W)
  go_enter Tryz.func158, Tryz.ntmps158
  go_wp2_with fail
  refine (CP.out _).mono ?_
  rintro e w3 ⟨rfl, hb3⟩
  have B3 := B0.trans (hb3.mono B0.size)
  have hz3 : w.heap.size + 1 < w3.heap.size := by have := hb3.size; simp at this; omega
  have G1 := Lib.hid (g1.next hb3)
  have T1 := Lib.hid (Box.new w3 (.string s) (.string p) (.string o) 116)
  have B4 := Lib.hid (B3.alloc B3.size (.cells #[.string s, .string p, .string o] 116))
  have G2 := Lib.hid (G1.out.alloc (.cells #[.string s, .string p, .string o] 116))
  clear c0 c1 c2 g0 g1 hb3 B0 CP G1 B3
  go_wp2_with fail
  have hgb : w.heap.size ≤ w3.heap.size := by omega
  have hgn : w.heap.size + 1 ≠ w3.heap.size := by omega
  generalize w3.alloc (.cells #[.string s, .string p, .string o] 116) = w4 at T1 B4 G2 ⊢
  generalize w3.heap.size = gb at T1 hgb hgn hz3 ⊢
  clear hz3
  have HS : Hid (∀ (j : Nat) (x : ByteArray), (wordsT (s, p, o))[j]? = some x → x.size ≤ 2097152) := Lib.hid (fun j x hx => by
    have hj : j = 0 ∨ j = 1 ∨ j = 2 := by
      have := (List.getElem?_eq_some_iff.1 hx).1
      simp only [wordsT, List.length_cons, List.length_nil] at this; omega
    rcases hj with rfl | rfl | rfl
    · obtain rfl : s = x := by simpa [wordsT] using hx
      exact hs1
    · obtain rfl : p = x := by simpa [wordsT] using hx
      exact hs2
    · obtain rfl : o = x := by simpa [wordsT] using hx
      exact hs3)
  go_loopw [9] (fun i wr => ∃ j : Nat, j ≤ 3 ∧ i = .int .i64 j ∧ Hid (Box wr gb (.string (wv s 0 j)) (.string (wv p 1 j)) (.string (wv o 2 j)) 116) ∧ Hid (Box wr (w.heap.size + 1) (.string ⟨#[]⟩) (.string ⟨#[]⟩) (.string ⟨#[]⟩) 65) ∧ Below w.heap.size w wr) (fun i _ => 3 - (intOf i).toNat)
  case atStart => exact ⟨0, by omega, rfl, by simpa [wv] using T1, G2, B4.out⟩
  case round =>
    obtain ⟨j, hj, rfl, HT, HG, hnx⟩ := hrel
    clear T1 G2 B4
    have hj6 : (0 : Int) ≤ (j : Int) := by omega
    by_cases hlj : j < 3
    · have hxx : (wordsT (s, p, o))[j]? = some ((wordsT (s, p, o))[j]'(by simp only [wordsT, List.length_cons, List.length_nil]; omega)) := List.getElem?_eq_getElem _
      generalize (wordsT (s, p, o))[j]'(by simp only [wordsT, List.length_cons, List.length_nil]; omega) = x at hxx
      have hx1 := HS.out j x hxx
      have hidx := index3 s p o j x hxx
      have CV' := implIsVar x hx1
      have hj7 : (j : Int) < 3 := by omega
      have HXX := Lib.hid hxx
      obtain ⟨q, hbq⟩ : ∃ q, isVarK x.data.toList = q := ⟨_, rfl⟩
      rw [hbq] at CV'
      have CV := Lib.hid CV'
      have HBQ := Lib.hid hbq
      clear CV' hbq hxx
      go_wp2_with fail
      clear hidx
      refine (CV.out _).mono ?_
      rintro e w5 ⟨rfl, hb5⟩
      have B5 := hnx.trans (hb5.mono hnx.size)
      have HT5 := Lib.hid (HT.out.next hb5)
      have HG5 := Lib.hid (HG.out.next hb5)
      clear hb5 hnx CV HT HG
      cases q
      · have HT6 := Lib.hid (boxw_keep HT5.out HXX.out HBQ.out)
        clear HT5
        go_wp2_with fail
        go_roundw
        case rel => exact ⟨j + 1, by omega, by go_num, HT6, HG5, B5⟩
        case measure => simp [intOf]; omega
      · obtain ⟨u, cj, fj⟩ := boxw_at HT5.out hlj
        have HT6 := Lib.hid (boxw_set HT5.out HXX.out HBQ.out)
        have HG6 := Lib.hid (HG5.out.far (a := ⟨gb, j, none⟩) hgn (.string ⟨#[]⟩))
        have B6 := B5.setCell (p := ⟨gb, j, none⟩) hgb (.string ⟨#[]⟩)
        clear HT5 HG5 B5
        go_wp2_with fail
        go_roundw
        case rel => exact ⟨j + 1, by omega, by go_num, HT6, HG6, B6⟩
        case measure => simp [intOf]; omega
    · have hT : Box wr gb (.string (blankV s)) (.string (blankV p)) (.string (blankV o)) 116 := by
        have h1 := HT.out
        obtain rfl : j = 3 := by omega
        simpa [wv] using h1
      obtain ⟨c0, c1, c2⟩ := hT.cells
      obtain ⟨a0, a1, a2⟩ := HG.out.cells
      obtain ⟨f0, f1, f2⟩ := HG.out.free
      clear HT hT HG
      go_wp2_with fail
      refine bodyPost_ret (v := .agg #[.string (blankV s), .string (blankV p), .string (blankV o)]) (by simp [results, Tryz.results158, go_sem, *]) rfl ⟨rfl, below_set3 hnx (w.heap.size + 1) (Nat.le_succ _) _ _ _⟩
end Go.Proofs.YtiajdnhmjdfeeaaGreat
namespace Go.Proofs.YtiajdnhmjdfeeaaGreat
open Go.RowKit Go.WideShapes
/-- A copy of elements of several cells into a row that is known whole. -/
theorem run_copy_wide {P : Program} (w : World) (dT sT ty elem : TypeId) (z g o dLen dCap : Nat) (a : Addr) (sLen sCap k : Nat) (cur : Array Value) (t : TypeId) (cs : List Value)
    (hu : P.underlying dT = some (.slice elem)) (hs : (P.info? elem).map (·.size) = some z) (hg : w.heap[g]? = some (.cells cur t (0, 0))) (hk : Nat.min sLen dLen = k) (hn : cs.length = k * z)
    (hsrc : ∀ j v, cs[j]? = some v → w.cell? (a.add j) = some v) (hfit : o + cs.length ≤ cur.size) (h1 : ∀ v ∈ cs, v.oneCell' = true) :
    (Builtin.copy_ #[dT, sT] ty #[.slice (some ⟨g, o, none⟩) dLen dCap, .slice (some a) sLen sCap]).run P w =
      .ok (goInt k) (w.setRow g (cur.toList.take o ++ cs ++ cur.toList.drop (o + cs.length)).toArray) := by
  have hl := run_loadCells_list (P := P) w a cs hsrc
  have hst := run_storeCells_at P g o t cs 0 cur w hg (by simpa using hfit) h1
  cases hq : P.info? elem with
  | none => simp [hq] at hs
  | some i =>
    have hi : i.size = z := by simpa [hq] using hs
    simp [Builtin.copy_, run_underlying hu, Builtin.lenOf, Builtin.firstCells, sizeOf, typeInfo, hq, hi, hk, ← hn, hl, hst]
theorem upon_copy {P : Program} {w : World} {o : Oper} {a : Act} {K : Act → World → Prop} {Q : Exit → Act → World → Prop} (d s : Operand) (t t' : TypeId)
    (ho : o.op = .call { callee := .builtin .copy, args := #[d, s], argTypes := #[t, t'] }) (v u : Value) (hd : a.eval d = v) (hs : a.eval s = u) {v' : Value} {w' : World}
    (hr : (Builtin.copy_ #[t, t'] o.type #[v, u]).run P w = .ok v' w') (h : K (a.put o.dst v') w') : Oper.wp P o a w K Q := by
  unfold Oper.wp execOp
  simp only [ho, resolve, invoke, builtin, Sem.run_bind, Sem.run_pure, Result.andThen_ok, List.map_toArray, List.map_cons, List.map_nil, hd, hs, hr]
  exact h
theorem wpList_copy_is {P : Program} {w : World} {ops : Array Oper} {rest : List Oper} {o : Oper} {a : Act} {Q : Exit → Act → World → Prop} (hgd : o.guard = none) (d s : Operand) (t t' : TypeId)
    (ho : o.op = .call { callee := .builtin .copy, args := #[d, s], argTypes := #[t, t'] }) (v u : Value) (hd : a.eval d = v) (hs : a.eval s = u) {v' : Value} {w' : World}
    (hr : (Builtin.copy_ #[t, t'] o.type #[v, u]).run P w = .ok v' w') (h : wpList P ops Q rest (a.put o.dst v') w') : wpList P ops Q (o :: rest) a w :=
  wpList_plain hgd fun _ hK => upon_copy d s t t' ho v u hd hs hr (hK _ _ h)
theorem step_copy_is {P : Program} {ops : Array Oper} {o : Oper} {a : Act} {w : World} {K : Act → World → Prop} {Q : Exit → Act → World → Prop} {E : Prop} (hgd : o.guard = none) (d s : Operand) (t t' : TypeId)
    (ho : o.op = .call { callee := .builtin .copy, args := #[d, s], argTypes := #[t, t'] }) (v u : Value) (hd : a.eval d = v) (hs : a.eval s = u) {v' : Value} {w' : World}
    (hr : (Builtin.copy_ #[t, t'] o.type #[v, u]).run P w = .ok v' w') (h : K (a.put o.dst v') w') :
    if Region.wanted o (yielded ops a.tmps) = true then Oper.wp P o a w K Q else E := by
  have hw : Region.wanted o (yielded ops a.tmps) = true := by simp [Region.wanted, hgd]
  rw [if_pos hw]
  exact upon_copy d s t t' ho v u hd hs hr h
theorem ins_room {α : Type} (L D V : List α) (a d : Nat) (hd : a + V.length = d) (hl : d ≤ L.length) :
    ((L.take d ++ D ++ L.drop (d + D.length)).take a ++ V) ++ (L.take d ++ D ++ L.drop (d + D.length)).drop (a + V.length) = (L.take a ++ V) ++ (D ++ L.drop (d + D.length)) := by
  have h1 : (L.take d ++ D ++ L.drop (d + D.length)).take a = L.take a := by
    rw [List.append_assoc, List.take_append_of_le_length (by rw [List.length_take]; omega), List.take_take, Nat.min_eq_left (by omega)]
  have h2 : (L.take d ++ D ++ L.drop (d + D.length)).drop (a + V.length) = D ++ L.drop (d + D.length) := by
    rw [List.append_assoc, hd]
    exact List.drop_left' (by rw [List.length_take]; omega)
  rw [h1, h2]
theorem ins_grow {α : Type} (A V R D : List α) (a d : Nat) (ha : A.length = a) (hd : a + V.length = d) :
    ∃ S, (((A ++ R).take a ++ V ++ (A ++ R).drop (a + V.length)).take d ++ D) ++ (((A ++ R).take a ++ V ++ (A ++ R).drop (a + V.length)).drop (d + D.length)) = (A ++ V ++ D) ++ S := by
  have h1 : (A ++ R).take a = A := List.take_left' ha
  rw [h1]
  have h2 : (A ++ V ++ (A ++ R).drop (a + V.length)).take d = A ++ V := List.take_left' (by rw [List.length_append]; omega)
  rw [h2]
  exact ⟨_, rfl⟩
theorem flatP_ins (ts : List Pre2) (i : Nat) (p : Pre2) : flatP ((ts.take i ++ [p]) ++ ts.drop i) = (flatP (ts.take i) ++ [.string p.1, .string p.2]) ++ flatP (ts.drop i) := by
  rw [flatP_append, flatP_append]; rfl
theorem ins_length (ts : List Pre2) (i : Nat) (p : Pre2) (hi : i ≤ ts.length) : ((ts.take i ++ [p]) ++ ts.drop i).length = ts.length + 1 := by
  simp only [List.length_append, List.length_take, List.length_cons, List.length_nil, List.length_drop]; omega
/-- What is known of a pair put in. -/
def InsPost (B : Nat) (v : Value) (ts : List Pre2) (i : Nat) (p : Pre2) (w : World) (e : Ending) (w' : World) : Prop :=
  ∃ v', e = .returned v' ∧ OwnP B w' v' ((ts.take i ++ [p]) ++ ts.drop i) ∧ w.grownBy w' v.ownBlock
theorem ins_end (ts : List Pre2) (n : Nat) (p : Pre2) (hn : n = ts.length) : (ts.take n ++ [p]) ++ ts.drop n = ts ++ [p] := by subst hn; simp
theorem own_snocI {B n : Nat} {w : World} {v : Value} {ts : List Pre2} {p : Pre2} (hn : n = ts.length) (h : w.ownsRow B 55 2 v (ts.length + 1) (flatP ts ++ [.string p.1, .string p.2])) : OwnP B w v ((ts.take n ++ [p]) ++ ts.drop n) := by
  rw [ins_end ts n p hn]
  unfold OwnP
  rw [flatP_append, List.length_append]
  exact h
theorem pair_two (p : Pre2) : ∀ u ∈ [Value.string p.1, Value.string p.2], u.oneCell' = true := by
  intro u hu
  simp only [List.mem_cons, List.not_mem_nil, or_false] at hu
  rcases hu with rfl | rfl <;> rfl
theorem pair_at {w : World} {vb : Nat} {p : Pre2} {T : TypeId} (h : w.heap[vb]? = some (.cells #[.string p.1, .string p.2] T (0, 0))) : ∀ (j : Nat) (u : Value), [Value.string p.1, Value.string p.2][j]? = some u → w.cell? ((⟨vb, 0, none⟩ : Addr).add j) = some u := by
  intro j u hj
  rw [add_plain, Nat.zero_add]
  match j, hj with
  | 0, hj => simp at hj; subst hj; simp [World.cell?, h]
  | 1, hj => simp at hj; subst hj; simp [World.cell?, h]
  | j + 2, hj => simp at hj
set_option maxHeartbeats 4000000 in
set_option maxRecDepth 100000 in
theorem insEnd (B : Nat) (v : Value) (ts : List Pre2) (p : Pre2) (w : World) (vb : Nat) (T : TypeId) (h : OwnP B w v ts) (hB : B ≤ w.heap.size) (hv : w.heap[vb]? = some (.cells #[.string p.1, .string p.2] T (0, 0))) (hl : ts.length ≤ 1048576) :
    Calls Tryz.prog 81 #[v, .int .i64 ts.length, .slice (some ⟨vb, 0, none⟩) 1 1] w (InsPost B v ts ts.length p w) := by
  obtain ⟨i0, hi, hz0, hz1, hz2⟩ := info_parts infoPair
  obtain ⟨n, hn⟩ : ∃ n, n = ts.length := ⟨_, rfl⟩
  have h' := h
  unfold OwnP at h'
  rw [← hn] at hl h' ⊢
  have HN := Lib.hid hn
  have HA := Lib.hid (pair_at hv)
  have H' := Lib.hid h'
  rcases h'.2 with ⟨rfl, h0⟩ | ⟨g, cap, cur, rfl, hg1, hg2, h1, h2, h3, h4⟩
  · subst h0
    clear h' hn hv
    go_enter Tryz.func81, Tryz.ntmps81
    go_wp2_with (at_builtin; refine wpList_append_own _ rfl _ _ 50 rfl B 55 i0 (.agg #[.string ⟨#[]⟩, .string ⟨#[]⟩]) 2 32 Tryz.underlying50 hi hz0 hz1 hz2 rfl (by decide) _ _ _ rfl H'.out ⟨vb, 0, none⟩ 1 1 [.string p.1, .string p.2] rfl rfl HA.out (pair_two p) ?qc4 ?qc5 ?qc6 ?_)
    case qc4 => unfold maxLen; omega
    case qc5 => omega
    case qc6 => exact hB
    intro v' w1 hown hgrow _
    go_wp2_with fail
    go_ret
    exact ⟨v', rfl, own_snocI HN.out (by rw [← HN.out]; exact hown), hgrow⟩
  · have hnc : (n : Int) ≤ (cap : Int) := by omega
    have hc63 : cap ≤ 9223372036854775807 := by unfold maxLen at h2; omega
    clear h' hn hv h3 h4 hg2 h2
    go_enter Tryz.func81, Tryz.ntmps81
    go_wp2_with (at_builtin; refine wpList_append_own _ rfl _ _ 50 rfl B 55 i0 (.agg #[.string ⟨#[]⟩, .string ⟨#[]⟩]) 2 32 Tryz.underlying50 hi hz0 hz1 hz2 rfl (by decide) _ _ _ rfl H'.out ⟨vb, 0, none⟩ 1 1 [.string p.1, .string p.2] rfl rfl HA.out (pair_two p) ?qc4 ?qc5 ?qc6 ?_)
    all_goals try (case qc4 => unfold maxLen; omega)
    all_goals try (case qc5 => omega)
    all_goals try (case qc6 => exact hB)
    all_goals
      intro v' w1 hown hgrow _
      go_wp2_with fail
      go_ret
      exact ⟨v', rfl, own_snocI HN.out (by rw [← HN.out]; exact hown), hgrow⟩
set_option maxHeartbeats 4000000 in
set_option maxRecDepth 100000 in
theorem insRoom (B g n c i : Nat) (cur : Array Value) (ts : List Pre2) (p : Pre2) (w : World) (vb : Nat) (T : TypeId) (hin : i < n) (hroom : n + 1 ≤ c) (hc : c ≤ maxLen) (hn : ts.length = n)
    (hg : w.heap[g]? = some (.cells cur 55 (0, 0))) (hBg : B ≤ g) (hsz : cur.size = c * 2) (htk : cur.toList.take (n * 2) = flatP ts)
    (hv : w.heap[vb]? = some (.cells #[.string p.1, .string p.2] T (0, 0))) (hne : vb ≠ g) :
    Calls Tryz.prog 81 #[.slice (some ⟨g, 0, none⟩) n c, .int .i64 i, .slice (some ⟨vb, 0, none⟩) 1 1] w (InsPost B (.slice (some ⟨g, 0, none⟩) n c) ts i p w) := by
  obtain ⟨i0, hi, hz0, hz1, hz2⟩ := info_parts infoPair
  have hc63 : c ≤ 9223372036854775807 := by unfold maxLen at hc; omega
  have hzz : (Tryz.prog.info? 55).map (·.size) = some 2 := by rw [hi]; simp [hz1]
  have hso : ∀ w, (Go.sizeOf 55).run Tryz.prog w = .ok 2 w := fun w => by simp [sizeOf, typeInfo, hi, hz1]
  have hov : ∀ o lb cb, (callFunc 125 #[.slice (some ⟨vb, 0, none⟩) 1 1, .slice (some ⟨g, o, none⟩) lb cb]).run Tryz.prog w = .ok (.value (.bool false)) w := fun o lb cb => by
    rw [run_callFunc_extern Tryz.func125 (by kernel_rfl) (by kernel_rfl) (by kernel_rfl) (e := Extern.SlicesOverlaps.overlaps #[50, 50] #[4]) (by kernel_rfl),
      Lib.run_overlaps_apart w 50 4 55 Tryz.underlying50 2 hso ⟨vb, 0, none⟩ ⟨g, o, none⟩ 1 1 lb cb hne T 55 2 cur.size (by simp [World.shape?, hv]) (by simp [World.shape?, hg]) (by omega) (by simp [World.frozen?, hv]) (by simp [World.frozen?, hv])]
    rfl
  obtain ⟨D, hD⟩ : ∃ D, D = flatP (ts.drop i) := ⟨_, rfl⟩
  have hDl : D.length = (n - i) * 2 := by rw [hD, flatP_len, List.length_drop, hn]
  have hD1 : ∀ v ∈ D, v.oneCell' = true := by rw [hD]; exact flatP_one _
  have hDc : ∀ j u, D[j]? = some u → w.cell? ((⟨g, i * 2, none⟩ : Addr).add j) = some u := fun j u hj => by
    have hjl := (List.getElem?_eq_some_iff.1 hj).1
    have e : (flatP ts)[i * 2 + j]? = some u := by
      rw [flatP_split ts i, List.getElem?_append_right (by rw [flatP_len, List.length_take]; omega), flatP_len, List.length_take, Nat.min_eq_left (by omega), Nat.add_sub_cancel_left, ← hD]
      exact hj
    rw [← htk, List.getElem?_take_of_lt (by omega), Array.getElem?_toList] at e
    rw [add_plain]
    simp [World.cell?, hg, e]
  obtain ⟨R1, hR1⟩ : ∃ R1, R1 = (cur.toList.take ((i + 1) * 2) ++ D ++ cur.toList.drop ((i + 1) * 2 + D.length)).toArray := ⟨_, rfl⟩
  obtain ⟨R2, hR2⟩ : ∃ R2, R2 = (R1.toList.take (i * 2) ++ [Value.string p.1, Value.string p.2] ++ R1.toList.drop (i * 2 + 2)).toArray := ⟨_, rfl⟩
  have hS1 : R1.size = cur.size := by
    rw [hR1]; simp only [List.size_toArray, List.length_append, List.length_take, List.length_drop, Array.length_toList]; omega
  have hS2 : R2.size = c * 2 := by
    rw [hR2]; simp only [List.size_toArray, List.length_append, List.length_take, List.length_drop, Array.length_toList, List.length_cons, List.length_nil]; omega
  have hcp1 : ∀ ty dc sc, (Builtin.copy_ #[50, 50] ty #[.slice (some ⟨g, (i + 1) * 2, none⟩) (n - i) dc, .slice (some ⟨g, i * 2, none⟩) (n + 1 - i) sc]).run Tryz.prog w.drew = .ok (goInt ((n - i : Nat) : Int)) (w.drew.setRow g R1) := fun ty dc sc => by
    rw [hR1]
    exact run_copy_wide w.drew _ _ ty 55 2 g ((i + 1) * 2) (n - i) dc ⟨g, i * 2, none⟩ (n + 1 - i) sc (n - i) cur 55 D Tryz.underlying50 hzz hg (by simp only [Nat.min_def]; split <;> omega) hDl hDc (by omega) hD1
  have hg1 : (w.drew.setRow g R1).heap[g]? = some (.cells R1 55 (0, 0)) := setRow_heap w.drew g cur R1 _ _ hg
  have hv1 : (w.drew.setRow g R1).heap[vb]? = some (.cells #[.string p.1, .string p.2] T (0, 0)) := (setRow_other w.drew g vb R1 hne).trans hv
  obtain ⟨W1, hW1⟩ : ∃ W1, W1 = w.drew.setRow g R1 := ⟨_, rfl⟩
  rw [← hW1] at hcp1 hg1 hv1
  have hcp2 : ∀ ty dc, (Builtin.copy_ #[50, 50] ty #[.slice (some ⟨g, i * 2, none⟩) (n + 1 - i) dc, .slice (some ⟨vb, 0, none⟩) 1 1]).run Tryz.prog W1 = .ok (goInt ((1 : Nat) : Int)) (W1.setRow g R2) := fun ty dc => by
    rw [hR2]
    exact run_copy_wide W1 _ _ ty 55 2 g (i * 2) (n + 1 - i) dc ⟨vb, 0, none⟩ 1 1 1 R1 55 [.string p.1, .string p.2] Tryz.underlying50 hzz hg1 (by simp only [Nat.min_def]; split <;> omega) rfl (pair_at hv1) (by simp; omega) (pair_two p)
  have HP : Hid (InsPost B (.slice (some ⟨g, 0, none⟩) n c) ts i p w (.returned (.slice (some ⟨g, 0, none⟩) (n + 1) c)) (W1.setRow g R2)) := Lib.hid (by
    refine ⟨_, rfl, ?_, ?_⟩
    · unfold OwnP
      rw [ins_length ts i p (by omega), hn, flatP_ins, ← hD]
      refine ⟨by rw [← hn]; simp only [List.length_append, flatP_len, List.length_take, List.length_cons, List.length_nil, hDl]; omega, .inr ⟨g, c, R2, rfl, hBg, setRow_heap W1 g R1 R2 _ _ hg1, hroom, hc, hS2, ?_⟩⟩
      rw [hR2, hR1, List.toList_toArray, List.toList_toArray]
      have e := ins_room cur.toList D [Value.string p.1, Value.string p.2] (i * 2) ((i + 1) * 2) (by simp; omega) (by rw [Array.length_toList]; omega)
      rw [show i * 2 + 2 = i * 2 + [Value.string p.1, Value.string p.2].length from rfl, e]
      have ea : cur.toList.take (i * 2) = flatP (ts.take i) := by
        rw [show cur.toList.take (i * 2) = (cur.toList.take (n * 2)).take (i * 2) by rw [List.take_take, Nat.min_eq_left (by omega)], htk, flatP_split ts i]
        exact List.take_left' (by rw [flatP_len, List.length_take, Nat.min_eq_left (by omega)])
      rw [ea, ← List.append_assoc]
      exact List.take_left' (by simp only [List.length_append, flatP_len, List.length_take, List.length_cons, List.length_nil, hDl]; omega)
    · rw [hW1]
      exact ⟨rfl, rfl, rfl, by simp, fun k _ hk => (setRow_other _ g k R2 (fun e => hk (by simp [Value.ownBlock, e]))).trans (setRow_other w.drew g k R1 (fun e => hk (by simp [Value.ownBlock, e])))⟩)
  clear hR1 hR2 hS1 hS2 hD hDl hD1 hDc hsz htk hg1 hv1 hg hv hW1 hBg hc
  have hw1 : IntKind.i64.wrap ((i : Int) + 1) = (i : Int) + 1 := by rw [IntKind.wrap_i64]; omega
  have hb1 : (0 : Int) ≤ (i : Int) + 1 := by omega
  have hin' : i ≤ n := by omega
  have htn : ((i : Int) + 1).toNat = i + 1 := by omega
  have hb2 : ¬ (c = i + 1) := by omega
  have hb3 : (i : Int) ≤ (n : Int) + 1 := by omega
  have hb4 : ¬ (c = i) := by omega
  have hb5 : ¬ ((i : Int) = (n : Int)) := by omega
  have hb6 : ¬ ((c : Int) < (n : Int) + 1) := by omega
  have mixed : Tryz.prog.follows Departure.mixedOrders = true := by kernel_rfl
  go_enter Tryz.func81, Tryz.ntmps81
  go_wp2_with (simp only [hov])
  go_region_law_o (refine step_copy_is rfl _ _ 50 50 rfl _ _ (by simp [Act.eval, Act.put]) (by simp [Act.eval, Act.put]) (hcp1 _ _ _) ?_)
  go_wp2_with (at_builtin; refine wpList_copy_is rfl _ _ 50 50 rfl _ _ rfl rfl (hcp2 _ _) ?_)
  go_ret
  exact HP.out
set_option maxHeartbeats 4000000 in
set_option maxRecDepth 100000 in
theorem insGrow (B g n c i : Nat) (cur : Array Value) (ts : List Pre2) (p : Pre2) (w : World) (vb : Nat) (T : TypeId) (hin : i < n) (hnc : n ≤ c) (hroom : c < n + 1) (hl : n ≤ 1048576) (hn : ts.length = n)
    (hg : w.heap[g]? = some (.cells cur 55 (0, 0))) (hB : B ≤ w.heap.size) (htk : cur.toList.take (n * 2) = flatP ts)
    (hv : w.heap[vb]? = some (.cells #[.string p.1, .string p.2] T (0, 0))) :
    Calls Tryz.prog 81 #[.slice (some ⟨g, 0, none⟩) n c, .int .i64 i, .slice (some ⟨vb, 0, none⟩) 1 1] w (InsPost B (.slice (some ⟨g, 0, none⟩) n c) ts i p w) := by
  obtain ⟨i0, hi, hz0, hz1, hz2⟩ := info_parts infoPair
  have hzz : (Tryz.prog.info? 55).map (·.size) = some 2 := by rw [hi]; simp [hz1]
  have hgw : g < w.heap.size := (Array.getElem?_eq_some_iff.1 hg).1
  have hvw : vb < w.heap.size := (Array.getElem?_eq_some_iff.1 hv).1
  have hcell : ∀ (j : Nat) (u : Value), (flatP ts)[j]? = some u → w.cell? ⟨g, j, none⟩ = some u := fun j u hj => by
    rw [← htk] at hj
    have hjl := (List.getElem?_eq_some_iff.1 hj).1
    rw [List.length_take] at hjl
    rw [List.getElem?_take_of_lt (by omega), Array.getElem?_toList] at hj
    simp [World.cell?, hg, hj]
  obtain ⟨A, hA⟩ : ∃ A, A = flatP (ts.take i) := ⟨_, rfl⟩
  obtain ⟨D, hD⟩ : ∃ D, D = flatP (ts.drop i) := ⟨_, rfl⟩
  have hAl : A.length = i * 2 := by rw [hA, flatP_len, List.length_take, Nat.min_eq_left (by omega)]
  have hDl : D.length = (n - i) * 2 := by rw [hD, flatP_len, List.length_drop, hn]
  have hAD : flatP ts = A ++ D := by rw [hA, hD]; exact flatP_split ts i
  have hD1 : ∀ v ∈ D, v.oneCell' = true := by rw [hD]; exact flatP_one _
  have hDc : ∀ j u, D[j]? = some u → w.cell? ⟨g, i * 2 + j, none⟩ = some u := fun j u hj => hcell _ u (by
    rw [hAD, List.getElem?_append_right (by omega), hAl, Nat.add_sub_cancel_left]; exact hj)
  have hold : (Builtin.firstCells i0.size i (.slice (some ⟨g, 0, none⟩) i c)).run Tryz.prog w.drew = .ok A.toArray w.drew := by
    rw [hz1]
    exact run_firstCells_some w.drew 2 i ⟨g, 0, none⟩ i c A hAl (fun j v hj => by
      rw [add_plain, Nat.zero_add]
      exact hcell j v (by rw [hAD, List.getElem?_append_left (List.getElem?_eq_some_iff.1 hj).1]; exact hj))
  obtain ⟨G, hG⟩ : ∃ G, G = grownCap w (n + 1) c 55 := ⟨_, rfl⟩
  obtain ⟨ROW, hROW⟩ : ∃ ROW : Array Value, ROW = A.toArray ++ Builtin.zeroCells (Value.agg #[.string ⟨#[]⟩, .string ⟨#[]⟩]).cells (n + 1 - i) ++ Builtin.zeroCells (Value.agg #[.string ⟨#[]⟩, .string ⟨#[]⟩]).cells (G - (n + 1)) := ⟨_, rfl⟩
  have hik : i + (n + 1 - i) = n + 1 := by omega
  have hkk : (n : Int) + 1 - (i : Int) = ((n + 1 - i : Nat) : Int) := by omega
  have hrz : ∀ ty, (Builtin.append_ #[50, 3] ty #[.slice (some ⟨g, 0, none⟩) i c, .int .i64 ((n : Int) + 1 - (i : Int))]).run Tryz.prog w =
      .ok (.slice (some ⟨w.heap.size, 0, none⟩) (n + 1) G) (w.drew.alloc (.cells ROW 55)) := fun ty => by
    have h := Lib.run_append_grow_zeros w 50 3 ty 55 i0 _ .i64 .i64 Tryz.underlying50 Tryz.underlying3 hi hz0 (some ⟨g, 0, none⟩) i c A hold (n + 1 - i) (by omega) (by omega) (by omega) (by omega) (by rw [hz2]; omega) (by rw [hz2, hik]; exact growslice_fits hroom (by omega))
    rw [hik, ← hG, ← hROW] at h
    rw [hkk]
    exact h
  have hGn : n + 1 ≤ G := by rw [hG]; exact grownCap_ge w _ _ _
  have hGm : G ≤ maxLen := by rw [hG]; exact grownCap_le_maxLen w (n + 1) c _ (by unfold maxLen; omega)
  have hG63 : G ≤ 9223372036854775807 := by unfold maxLen at hGm; omega
  have hRs : ROW.size = G * 2 := by
    rw [hROW]
    simp [Builtin.zeroCells, Value.cells, hAl]
    omega
  obtain ⟨R, hR⟩ : ∃ R, ROW.toList = A ++ R := ⟨_, by rw [hROW, Array.toList_append, Array.toList_append, List.append_assoc]⟩
  obtain ⟨R1, hR1⟩ : ∃ R1, R1 = (ROW.toList.take (i * 2) ++ [Value.string p.1, Value.string p.2] ++ ROW.toList.drop (i * 2 + 2)).toArray := ⟨_, rfl⟩
  obtain ⟨R2, hR2⟩ : ∃ R2, R2 = (R1.toList.take ((i + 1) * 2) ++ D ++ R1.toList.drop ((i + 1) * 2 + D.length)).toArray := ⟨_, rfl⟩
  have hS1 : R1.size = G * 2 := by
    rw [hR1]; simp only [List.size_toArray, List.length_append, List.length_take, List.length_drop, Array.length_toList, List.length_cons, List.length_nil]; omega
  have hS2 : R2.size = G * 2 := by
    rw [hR2]; simp only [List.size_toArray, List.length_append, List.length_take, List.length_drop, Array.length_toList]; omega
  obtain ⟨N, hN⟩ : ∃ N, N = w.heap.size := ⟨_, rfl⟩
  have hn0 : (w.alloc (.cells ROW 55)).heap[N]? = some (.cells ROW 55 (0, 0)) := by rw [hN]; exact heap_alloc_new w _
  have hn1 : ((w.alloc (.cells ROW 55)).setRow N R1).heap[N]? = some (.cells R1 55 (0, 0)) := setRow_heap _ N ROW R1 _ _ hn0
  have hcpA : ∀ (W : World), W.heap = (w.alloc (.cells ROW 55)).heap → ∀ ty dc, (Builtin.copy_ #[50, 50] ty #[.slice (some ⟨N, i * 2, none⟩) (n + 1 - i) dc, .slice (some ⟨vb, 0, none⟩) 1 1]).run Tryz.prog W = .ok (goInt ((1 : Nat) : Int)) (W.setRow N R1) := fun W hW ty dc => by
    rw [hR1]
    refine run_copy_wide W _ _ ty 55 2 N (i * 2) (n + 1 - i) dc ⟨vb, 0, none⟩ 1 1 1 ROW 55 [.string p.1, .string p.2] Tryz.underlying50 hzz (by rw [hW]; exact hn0) (by simp only [Nat.min_def]; split <;> omega) rfl (pair_at (T := T) ?_) (by simp; omega) (pair_two p)
    rw [hW, Below.heap_alloc w _ vb hvw]; exact hv
  have hcpB : ∀ (W : World), W.heap = ((w.alloc (.cells ROW 55)).setRow N R1).heap → ∀ ty dc sc, (Builtin.copy_ #[50, 50] ty #[.slice (some ⟨N, (i + 1) * 2, none⟩) (n - i) dc, .slice (some ⟨g, i * 2, none⟩) (n - i) sc]).run Tryz.prog W = .ok (goInt ((n - i : Nat) : Int)) (W.setRow N R2) := fun W hW ty dc sc => by
    rw [hR2]
    refine run_copy_wide W _ _ ty 55 2 N ((i + 1) * 2) (n - i) dc ⟨g, i * 2, none⟩ (n - i) sc (n - i) R1 55 D Tryz.underlying50 hzz (by rw [hW]; exact hn1) (by simp only [Nat.min_def]; split <;> omega) hDl (fun j u hj => ?_) (by omega) hD1
    rw [add_plain]
    have e := hDc j u hj
    have hh : W.heap[g]? = w.heap[g]? := by rw [hW, setRow_other _ N g R1 (by omega), Below.heap_alloc w _ g hgw]
    rw [World.cell?_of_block hh]; exact e
  have HP : Hid (∀ W', W'.heap = (((w.alloc (.cells ROW 55)).setRow N R1).setRow N R2).heap → W'.os = w.os → W'.tape = w.tape → W'.output = w.output → InsPost B (.slice (some ⟨g, 0, none⟩) n c) ts i p w (.returned (.slice (some ⟨N, 0, none⟩) (n + 1) G)) W') := Lib.hid (by
    intro W' hh e1 e2 e3
    refine ⟨_, rfl, ?_, ?_⟩
    · unfold OwnP
      rw [ins_length ts i p (by omega), hn, flatP_ins, ← hD, ← hA]
      refine ⟨by simp only [List.length_append, List.length_cons, List.length_nil, hDl, hAl]; omega, .inr ⟨N, G, R2, rfl, by omega, by rw [hh]; exact setRow_heap _ N R1 R2 _ _ hn1, hGn, hGm, hS2, ?_⟩⟩
      rw [hR2, hR1, List.toList_toArray, List.toList_toArray, hR]
      obtain ⟨S, e⟩ := ins_grow A [Value.string p.1, Value.string p.2] R D (i * 2) ((i + 1) * 2) hAl (by simp; omega)
      rw [show i * 2 + 2 = i * 2 + [Value.string p.1, Value.string p.2].length from rfl, e]
      exact List.take_left' (by simp only [List.length_append, List.length_cons, List.length_nil, hDl, hAl]; omega)
    · refine ⟨e1, e2, e3, by rw [hh]; simp, fun k hk _ => ?_⟩
      rw [hh, setRow_other _ N k R2 (by omega), setRow_other _ N k R1 (by omega), Below.heap_alloc w _ k hk])
  clear hR1 hR2 hS1 hS2 hD hA hAl hDl hD1 hDc htk hn0 hn1 hg hv hAD hold hROW hR hRs hcell hG hGm hkk hik
  have hw1 : IntKind.i64.wrap ((i : Int) + 1) = (i : Int) + 1 := by rw [IntKind.wrap_i64]; omega
  have hb1 : (0 : Int) ≤ (i : Int) + 1 := by omega
  have hin' : i ≤ n := by omega
  have htn : ((i : Int) + 1).toNat = i + 1 := by omega
  have hb3 : (i : Int) ≤ (n : Int) := by omega
  have hb4 : ¬ (c = i) := by omega
  have hb5 : ¬ ((i : Int) = (n : Int)) := by omega
  have hb6 : (c : Int) < (n : Int) + 1 := by omega
  have hGi : ¬ (G = i) := by omega
  have hGim : ¬ (G = i + 1) := by omega
  have mixed : Tryz.prog.follows Departure.mixedOrders = true := by kernel_rfl
  rw [← hN] at hrz
  clear hN hgw hvw hB
  have hA1 := hcpA (w.alloc (.cells ROW 55)).drew rfl
  have hB1 := hcpB ((w.alloc (.cells ROW 55)).drew.setRow N R1).drew rfl
  have hB2 := hcpB ((w.alloc (.cells ROW 55)).drew.setRow N R1) rfl
  clear hcpA hcpB
  go_enter Tryz.func81, Tryz.ntmps81
  go_wp2_with (first
    | (at_builtin; refine Lib.wpList_append_run _ rfl _ _ _ _ rfl _ _ rfl rfl _ _ (hrz _) ?_)
    | (at_builtin; refine wpList_copy_is rfl _ _ 50 50 rfl _ _ rfl rfl (hA1 _ _) ?_)
    | (at_builtin; refine wpList_copy_is rfl _ _ 50 50 rfl _ _ rfl rfl (hB2 _ _ _) ?_))
  go_region_law_o (refine step_copy_is rfl _ _ 50 50 rfl _ _ (by simp [Act.eval, Act.put]) (by simp [Act.eval, Act.put]) (hB1 _ _ _) ?_)
  go_wp2
  go_ret
  exact HP.out _ rfl rfl rfl rfl
theorem insPair (B : Nat) (v : Value) (ts : List Pre2) (p : Pre2) (i : Nat) (w : World) (vb : Nat) (T : TypeId) (h : OwnP B w v ts) (hB : B ≤ w.heap.size) (hv : w.heap[vb]? = some (.cells #[.string p.1, .string p.2] T (0, 0)))
    (hne : v.ownBlock ≠ some vb) (hl : ts.length ≤ 1048576) (hi : i ≤ ts.length) :
    Calls Tryz.prog 81 #[v, .int .i64 i, .slice (some ⟨vb, 0, none⟩) 1 1] w (InsPost B v ts i p w) := by
  by_cases he : i = ts.length
  · subst he
    exact insEnd B v ts p w vb T h hB hv hl
  · rcases h.2 with ⟨rfl, h0⟩ | ⟨g, cap, cur, rfl, hg1, hg2, h1, h2, h3, h4⟩
    · omega
    · by_cases hr : ts.length + 1 ≤ cap
      · exact insRoom B g ts.length cap i cur ts p w vb T (by omega) hr h2 rfl hg2 hg1 h3 h4 hv (fun e => hne (by simp [Value.ownBlock, e]))
      · exact insGrow B g ts.length cap i cur ts p w vb T (by omega) h1 (by omega) hl rfl hg2 hB h4 hv
end Go.Proofs.YtiajdnhmjdfeeaaGreat
namespace Go.Proofs.YtiajdnhmjdfeeaaGreat
open Go.RowKit Go.WideShapes
theorem ownP_some {B : Nat} {w : World} {v : Value} {ts : List Pre2} (h : OwnP B w v ts) (h0 : 0 < ts.length) : ∃ g c, v = .slice (some ⟨g, 0, none⟩) ts.length c := by
  rcases h.2 with ⟨_, e⟩ | ⟨g, c, cur, rfl, _⟩
  · omega
  · exact ⟨g, c, rfl⟩
theorem ownP_lower {B C : Nat} {w : World} {v : Value} {ts : List Pre2} (h : OwnP B w v ts) (hb : C ≤ B) : OwnP C w v ts := by
  refine ⟨h.1, h.2.imp id ?_⟩
  rintro ⟨g, c, cur, h1, h2, h3⟩
  exact ⟨g, c, cur, h1, by omega, h3⟩
theorem ownP_add {B : Nat} {w : World} {v : Value} {ts : List Pre2} {p : Pre2} {k : Nat} (hk : ts.length = k) (h : w.ownsRow B 55 2 v (k + 1) (flatP ts ++ [.string p.1, .string p.2])) : OwnP B w v (ts ++ [p]) := by
  subst hk; unfold OwnP; rw [flatP_snoc, List.length_append]; exact h
theorem bl_eqn {a b : ByteArray} (h : a ≠ b) : (a.toList == b.toList) = false := by
  rw [beq_eq_false_iff_ne, ByteArray.toList_eq, ByteArray.toList_eq]; exact fun e => h (data_inj e)
def PutPostP (B : Nat) (L : List Pre2) (p : Pre2) (w : World) (e : Ending) (w' : World) : Prop :=
  ∃ g' n' c' f, e = .returned (.tuple #[.slice (some ⟨g', 0, none⟩) n' c', .bool f]) ∧ (f = true → ∃ h, putP L p = some h ∧ OwnP B w' (.slice (some ⟨g', 0, none⟩) n' c') h ∧ h.length = n') ∧ (f = false → putP L p = none) ∧ Below w.heap.size w w'
set_option maxRecDepth 100000 in
set_option maxHeartbeats 3200000 in
theorem specPutP (B g n c : Nat) (L : List Pre2) (x y : ByteArray) (w : World) (h : OwnP B w (.slice (some ⟨g, 0, none⟩) n c) L) (hn : L.length = n) (hl : n ≤ 1048576) (hB : B ≤ w.heap.size) :
    Calls Tryz.prog 143 #[.slice (some ⟨g, 0, none⟩) n c, .string x, .string y] w (PutPostP B L (x, y) w) := by
  obtain ⟨i0, hi, hz0, hz1, hz2⟩ := info_parts infoPair
  have hgw : g < w.heap.size := (World.ownsRow.lt h g (by simp [Value.ownBlock])).2
  have hnc : n ≤ c := by
    rcases h.2 with ⟨e, _⟩ | ⟨_, _, _, e, _, _, h1, _⟩
    · cases e
    · cases e; rw [hn] at h1; exact h1
  have HC : Hid (∀ (j : Nat) (u : Value), (flatP L)[j]? = some u → w.cell? ⟨g, j, none⟩ = some u) := Lib.hid (fun j u hj => by
    have hjl := (List.getElem?_eq_some_iff.1 hj).1
    unfold OwnP at h
    rw [hn] at h
    rw [World.ownsRow.cellAt h j (by rw [flatP_len, hn] at hjl; omega)]; exact hj)
  have HL := Lib.hid hn
  have H := Lib.hid h
  clear h hn
  go_enter Tryz.func143, Tryz.ntmps143
  go_wp2_with fail
  go_loop [8] (fun i => ∃ k : Nat, k ≤ n ∧ i = .int .i64 k ∧ Hid (∀ (i : Nat) (u : Pre2), i < k → L[i]? = some u → Op.bytesLess u.1.data.toList x.data.toList = true)) (fun i => n - (intOf i).toNat)
  case atStart => exact ⟨0, Nat.zero_le _, rfl, Lib.hid (fun i u hi => by omega)⟩
  case round =>
    obtain ⟨k, hk, rfl, hah⟩ := hrel
    have hk6 : (0 : Int) ≤ (k : Int) := by omega
    by_cases hlt : k < n
    case' pos =>
      have hu : L[k]? = some (L[k]'(by have := HL.out; omega)) := List.getElem?_eq_getElem _
      generalize L[k]'(by have := HL.out; omega) = u at hu
      obtain ⟨f0, f1⟩ := flatP_at L k u hu
      have c0 := HC.out _ _ f0
      have c1 := HC.out _ _ f1
      have hk7 : (k : Int) < (n : Int) := by omega
      have hbl : Op.bytesLess u.1.toList x.toList = Op.bytesLess u.1.data.toList x.data.toList := by rw [ByteArray.toList_eq, ByteArray.toList_eq]
      have HU := Lib.hid hu
      clear hu f0 f1
      cases hq : Op.bytesLess u.1.data.toList x.data.toList
      case' true =>
        have HN : Hid (∀ (i : Nat) (u : Pre2), i < k + 1 → L[i]? = some u → Op.bytesLess u.1.data.toList x.data.toList = true) := Lib.hid (fun i v hi hv => by
          rcases Nat.lt_or_ge i k with g | g
          · exact hah.out i v g hv
          · obtain rfl : i = k := by omega
            rw [HU.out] at hv; obtain rfl := Option.some.inj hv; exact hq)
        rw [hq] at hbl
        clear hq hah HU c1
        go_wp2_with fail
        go_round
        case rel => exact ⟨k + 1, by omega, by go_num, HN⟩
        case measure => simp [intOf]; omega
      case' false =>
        have HAT : Hid (posP x L = k) := Lib.hid (posP_is hah.out (by have := HL.out; omega) (fun v hv => by rw [HU.out] at hv; obtain rfl := Option.some.inj hv; exact hq))
        rw [hq] at hbl
        clear hq hah
        by_cases he : u.1 = x
        case' pos =>
          have heq : (u.1.toList == x.toList) = true := by rw [he]; simp
          by_cases he2 : u.2 = y
          · have HSAME : Hid (putP L (x, y) = some L) := Lib.hid (putP_same (p := (x, y)) HAT.out HU.out he he2)
            have heq2 : (u.2.toList == y.toList) = true := by rw [he2]; simp
            clear he he2 HU HAT
            go_wp2_with fail
            go_quiet (fail)
            go_wp2_with fail
            go_ret2
            exact ⟨g, n, c, true, rfl, fun _ => ⟨L, HSAME.out, H.out, HL.out⟩, (fun e => by cases e), below_drewN (Below.refl _ _) _⟩
          · have HOTHER : Hid (putP L (x, y) = none) := Lib.hid (putP_other (p := (x, y)) HAT.out HU.out he he2)
            have heq2 : (u.2.toList == y.toList) = false := bl_eqn he2
            clear he he2 HU HAT
            go_wp2_with fail
            go_quiet (fail)
            go_wp2_with fail
            go_ret2
            exact ⟨g, n, c, false, rfl, (fun e => by cases e), fun _ => HOTHER.out, below_drewN (Below.refl _ _) _⟩
        case' neg =>
          have HPUT : Hid (putP L (x, y) = some ((L.take k ++ [(x, y)]) ++ L.drop k)) := Lib.hid (putP_new (p := (x, y)) HAT.out (fun q hq => by rw [HU.out] at hq; obtain rfl := Option.some.inj hq; exact he))
          have heq : (u.1.toList == x.toList) = false := bl_eqn he
          clear he HU HAT
    case' neg =>
      have HPUT : Hid (putP L (x, y) = some ((L.take k ++ [(x, y)]) ++ L.drop k)) := Lib.hid (putP_new (p := (x, y)) (posP_is hah.out (by have := HL.out; omega) (fun v hv => by have := (List.getElem?_eq_some_iff.1 hv).1; have := HL.out; omega)) (fun q hq => by have := (List.getElem?_eq_some_iff.1 hq).1; have := HL.out; omega))
      clear hah
    all_goals
      have O0 : OwnP w.heap.size (w.alloc (.cells #[] 55)) (.slice (some ⟨w.heap.size, 0, none⟩) 0 0) [] := World.ownsRow_lit (size := 2) (e := 55) w #[] 0 (Nat.le_refl _) (by decide) rfl
      have BA := (Below.refl w.heap.size w).alloc (Nat.le_refl _) (.cells #[] 55)
      have HO := Lib.hid O0
      have hlk : (L.take k).length = k := by rw [List.length_take, HL.out]; omega
      obtain ⟨tk, htk⟩ : ∃ l, L.take k = l := ⟨_, rfl⟩
      rw [htk] at hlk
      have HTK := Lib.hid htk
      have HLK := Lib.hid hlk
      have hld : (L.drop k).length = n - k := by rw [List.length_drop, HL.out]
      obtain ⟨td, htd⟩ : ∃ l, L.drop k = l := ⟨_, rfl⟩
      rw [htd] at hld
      have HTD := Lib.hid htd
      have HLD := Lib.hid hld
      have HSP : Hid (flatP L = flatP tk ++ flatP td) := Lib.hid (by rw [← htk, ← htd]; exact flatP_split L k)
      have HCA : Hid (∀ (j : Nat) (u : Value), (flatP tk)[j]? = some u → (w.alloc (.cells #[] 55)).cell? ((⟨g, 0, none⟩ : Addr).add j) = some u) := Lib.hid (fun j u hj => by
        rw [add_plain, Nat.zero_add, BA.cell (p := ⟨g, j, none⟩) hgw]
        refine HC.out j u ?_
        rw [HSP.out, List.getElem?_append_left (List.getElem?_eq_some_iff.1 hj).1]
        exact hj)
      clear htk hlk htd hld O0
      go_wp2_with (at_builtin; refine wpList_append_own _ rfl _ _ 50 rfl w.heap.size 55 i0 (.agg #[.string ⟨#[]⟩, .string ⟨#[]⟩]) 2 32 Tryz.underlying50 hi hz0 hz1 hz2 rfl (by decide) _ _ _ rfl HO.out ⟨g, 0, none⟩ k _ (flatP tk) rfl (by rw [flatP_len, HLK.out]) HCA.out (flatP_one tk) ?h63a ?h48a ?hbsa ?_)
      try (case h63a => first | (rw [List.length_nil]; unfold maxLen; omega) | (unfold maxLen; omega))
      try (case h48a => first | (rw [List.length_nil]; omega) | omega)
      try (case hbsa => first | omega | (simp only [World.size_alloc]; omega))
      intro v1 w1 hown1 hg1 _
      have O1 : OwnP w.heap.size w1 v1 tk := by unfold OwnP; rw [HLK.out]; simpa [flatP] using hown1
      have B1 := BA.grown hg1 BA.size (fun j hj => by simp [Value.ownBlock] at hj; omega)
      have HO1 := Lib.hid O1
      have hne1 := fun j hj => (World.ownsRow.lt O1 j hj).1
      have B1a := B1.alloc B1.size (.cells #[.string x, .string y] 55)
      have O1a := Lib.hid (World.ownsRow.alloc HO1.out (.cells #[.string x, .string y] 55))
      have HLK2 := HLK
      clear hown1 hg1 HO HCA O1 BA
      go_wp2_with (at_builtin; refine wpList_append_own _ rfl _ _ 50 rfl w.heap.size 55 i0 (.agg #[.string ⟨#[]⟩, .string ⟨#[]⟩]) 2 32 Tryz.underlying50 hi hz0 hz1 hz2 rfl (by decide) _ _ _ rfl O1a.out ⟨w1.heap.size, 0, none⟩ 1 _ [.string x, .string y] rfl rfl two_cell (by intro u hu; simp at hu; rcases hu with rfl | rfl <;> rfl) ?h63b ?h48b ?hbsb ?_)
      try (case h63b => first | (rw [HLK2.out]; unfold maxLen; omega) | (unfold maxLen; omega))
      try (case h48b => first | (rw [HLK2.out]; omega) | omega)
      try (case hbsb => first | exact B1a.size | omega | (simp only [World.size_alloc]; omega))
      intro v2 w2 hown2 hg2 _
      have O2 : OwnP w.heap.size w2 v2 (tk ++ [(x, y)]) := ownP_add (p := (x, y)) rfl hown2
      have B2 := B1a.grown hg2 B1a.size (fun j hj => by have := hne1 j hj; omega)
      have hne2 := fun j hj => (World.ownsRow.lt O2 j hj).1
      have HCC : Hid (∀ (j : Nat) (u : Value), (flatP td)[j]? = some u → w2.cell? ⟨g, k * 2 + j, none⟩ = some u) := Lib.hid (fun j u hj => by
        rw [B2.cell (p := ⟨g, k * 2 + j, none⟩) hgw]
        refine HC.out (k * 2 + j) u ?_
        rw [HSP.out, List.getElem?_append_right (by rw [flatP_len, HLK.out]; omega), flatP_len, HLK.out, Nat.add_sub_cancel_left]
        exact hj)
      have HO2 := Lib.hid O2
      have HLP : Hid ((tk ++ [(x, y)]).length = k + 1) := Lib.hid (by rw [List.length_append, HLK2.out]; rfl)
      obtain ⟨pf, hpf⟩ : ∃ l, tk ++ [(x, y)] = l := ⟨_, rfl⟩
      rw [hpf] at HO2 HLP
      have HPF := Lib.hid hpf
      clear hown2 hg2 O1a B1a O2 HO1 B1 hpf
      by_cases hcq : c = k
      · have HTD0 : Hid (td = []) := Lib.hid (List.length_eq_zero_iff.1 (by rw [HLD.out]; omega))
        go_wp2_with (at_builtin; refine wpList_append_own _ rfl _ _ 50 rfl w.heap.size 55 i0 (.agg #[.string ⟨#[]⟩, .string ⟨#[]⟩]) 2 32 Tryz.underlying50 hi hz0 hz1 hz2 rfl (by decide) _ _ _ rfl HO2.out _ (n - k) _ (flatP td) rfl (by rw [flatP_len, HLD.out]) ?hcl (flatP_one td) ?h63c ?h48c ?hbsc ?_)
        case hcl => intro j u hj; rw [HTD0.out] at hj; simp [flatP] at hj
        try (case h63c => first | (rw [HLP.out]; unfold maxLen; omega) | (unfold maxLen; omega))
        try (case h48c => first | (rw [HLP.out]; omega) | omega)
        try (case hbsc => first | exact B2.size | omega | (simp only [World.size_alloc]; omega))
        intro v3 w3 hown3 hg3 _
        have O3 : OwnP w.heap.size w3 v3 (pf ++ td) := by unfold OwnP; rw [List.length_append, HLD.out, HLP.out, flatP_append]; rw [HLP.out] at hown3; exact hown3
        have B3 := B2.grown hg3 B2.size (fun j hj => by have := hne2 j hj; omega)
        have hl3 : (pf ++ td).length = n + 1 := by rw [List.length_append, HLP.out, HLD.out]; omega
        obtain ⟨g3, c3, rfl⟩ := ownP_some O3 (by omega)
        have O4 := ownP_lower O3 hB
        rw [hl3] at O4 ⊢
        have HR : Hid (∃ h, putP L (x, y) = some h ∧ OwnP B w3 (.slice (some ⟨g3, 0, none⟩) (n + 1) c3) h ∧ h.length = n + 1) := Lib.hid ⟨pf ++ td, by rw [HPUT.out, ← HPF.out, HTK.out, HTD.out], O4, hl3⟩
        clear hown3 hg3 O3 O4 hl3
        go_wp2_with fail
        go_ret2
        exact ⟨g3, n + 1, c3, true, rfl, fun _ => HR.out, (fun e => by cases e), B3⟩
      · go_wp2_with (at_builtin; refine wpList_append_own _ rfl _ _ 50 rfl w.heap.size 55 i0 (.agg #[.string ⟨#[]⟩, .string ⟨#[]⟩]) 2 32 Tryz.underlying50 hi hz0 hz1 hz2 rfl (by decide) _ _ _ rfl HO2.out _ (n - k) _ (flatP td) rfl (by rw [flatP_len, HLD.out]) ?hcl (flatP_one td) ?h63c ?h48c ?hbsc ?_)
        case hcl => intro j u hj; rw [add_plain]; first | exact HCC.out j u hj | (simpa using HCC.out j u hj)
        try (case h63c => first | (rw [HLP.out]; unfold maxLen; omega) | (unfold maxLen; omega))
        try (case h48c => first | (rw [HLP.out]; omega) | omega)
        try (case hbsc => first | exact B2.size | omega | (simp only [World.size_alloc]; omega))
        intro v3 w3 hown3 hg3 _
        have O3 : OwnP w.heap.size w3 v3 (pf ++ td) := by unfold OwnP; rw [List.length_append, HLD.out, HLP.out, flatP_append]; rw [HLP.out] at hown3; exact hown3
        have B3 := B2.grown hg3 B2.size (fun j hj => by have := hne2 j hj; omega)
        have hl3 : (pf ++ td).length = n + 1 := by rw [List.length_append, HLP.out, HLD.out]; omega
        obtain ⟨g3, c3, rfl⟩ := ownP_some O3 (by omega)
        have O4 := ownP_lower O3 hB
        rw [hl3] at O4 ⊢
        have HR : Hid (∃ h, putP L (x, y) = some h ∧ OwnP B w3 (.slice (some ⟨g3, 0, none⟩) (n + 1) c3) h ∧ h.length = n + 1) := Lib.hid ⟨pf ++ td, by rw [HPUT.out, ← HPF.out, HTK.out, HTD.out], O4, hl3⟩
        clear hown3 hg3 O3 O4 hl3
        go_wp2_with fail
        go_ret2
        exact ⟨g3, n + 1, c3, true, rfl, fun _ => HR.out, (fun e => by cases e), B3⟩
end Go.Proofs.YtiajdnhmjdfeeaaGreat
