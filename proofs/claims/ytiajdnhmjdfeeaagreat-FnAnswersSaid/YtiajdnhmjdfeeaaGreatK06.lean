/- The contracts of the program's functions on kinds: KindOf and TextIn.; What kind a word is, told by its first byte.; The contracts of the model's functions on kinds. -/
import Derived.Test.YtiajdnhmjdfeeaaGreatK05
import Derived.Test.YtiajdnhmjdfeeaaGreatK04
import Derived.Deep.QuietTactic
import Derived.BigQuiet
import Derived.WalkSmall
namespace Go.Proofs.YtiajdnhmjdfeeaaGreat
open Go.RowKit
theorem meth1 (v : Value) (w : World) : (method 355 170 (.agg #[v]) "loop.example/g00420/impl.right").run Tryz.prog w = .ok (242, .agg #[v]) w := by kernel_rfl
set_option maxRecDepth 100000 in
theorem implTermOf1 (s : ByteArray) (hs : s.size ≤ 2097152) (w : World) (r : List UInt8) (hsh : shape s.data.toList = some (1, r)) :
    Calls Tryz.prog 141 #[.string s] w fun e w' => e = .returned (if kindOk 1 r then .tuple #[.iface 170 (.agg #[.string (bs r)]), .bool true] else .tuple #[.nilIface, .bool false]) ∧ Below w.heap.size w w' := by
  have hr := shape_len hsh
  rw [size_len] at hr
  have C := fun w => implUnmarked s hs w
  rw [hsh] at C
  change ∀ w, Calls _ _ _ w fun e w' => e = .returned (.tuple #[.iface 170 (.agg #[.string (bs r)]), .bool true]) ∧ w = w' at C
  have D := Lib.hid C
  have C2 := nameRight r (by omega)
  have hm := meth1 (.string (bs r))
  have hok : kindOk 1 r = made r 12 nameB := rfl
  rw [hok]
  clear C hsh hr hok
  cases hk : made r 12 nameB
  all_goals
    rw [hk] at C2
    have R := Lib.hid C2
    clear C2 hk
    go_enter Tryz.func141, Tryz.ntmps141
    go_wp2_with fail
    refine (D.out _).mono ?_
    rintro e w' ⟨rfl, rfl⟩
    go_wp2_with fail
    refine (R.out _).mono ?_
    rintro e w' ⟨rfl, hb⟩
    go_wp2_with fail
    go_ret2
    exact ⟨rfl, hb⟩
theorem meth2 (v : Value) (w : World) : (method 355 171 (.agg #[v]) "loop.example/g00420/impl.right").run Tryz.prog w = .ok (246, .agg #[v]) w := by kernel_rfl
set_option maxRecDepth 100000 in
theorem implTermOf2 (s : ByteArray) (hs : s.size ≤ 2097152) (w : World) (r : List UInt8) (hsh : shape s.data.toList = some (2, r)) :
    Calls Tryz.prog 141 #[.string s] w fun e w' => e = .returned (if kindOk 2 r then .tuple #[.iface 171 (.agg #[.string (bs r)]), .bool true] else .tuple #[.nilIface, .bool false]) ∧ Below w.heap.size w w' := by
  have hr := shape_len hsh
  rw [size_len] at hr
  have C := fun w => implUnmarked s hs w
  rw [hsh] at C
  change ∀ w, Calls _ _ _ w fun e w' => e = .returned (.tuple #[.iface 171 (.agg #[.string (bs r)]), .bool true]) ∧ w = w' at C
  have D := Lib.hid C
  have C2 := textRight r (by omega)
  have hm := meth2 (.string (bs r))
  have hok : kindOk 2 r = textOk r := rfl
  rw [hok]
  clear C hsh hr hok
  cases hk : textOk r
  all_goals
    rw [hk] at C2
    have R := Lib.hid C2
    clear C2 hk
    go_enter Tryz.func141, Tryz.ntmps141
    go_wp2_with fail
    refine (D.out _).mono ?_
    rintro e w' ⟨rfl, rfl⟩
    go_wp2_with fail
    refine (R.out _).mono ?_
    rintro e w' ⟨rfl, hb⟩
    go_wp2_with fail
    go_ret2
    exact ⟨rfl, hb⟩
theorem meth3 (v : Value) (w : World) : (method 355 173 (.agg #[v]) "loop.example/g00420/impl.right").run Tryz.prog w = .ok (250, .agg #[v]) w := by kernel_rfl
set_option maxRecDepth 100000 in
theorem implTermOf3 (s : ByteArray) (hs : s.size ≤ 2097152) (w : World) (r : List UInt8) (hsh : shape s.data.toList = some (3, r)) :
    Calls Tryz.prog 141 #[.string s] w fun e w' => e = .returned (if kindOk 3 r then .tuple #[.iface 173 (.agg #[.string (bs r)]), .bool true] else .tuple #[.nilIface, .bool false]) ∧ Below w.heap.size w w' := by
  have hr := shape_len hsh
  rw [size_len] at hr
  have C := fun w => implUnmarked s hs w
  rw [hsh] at C
  change ∀ w, Calls _ _ _ w fun e w' => e = .returned (.tuple #[.iface 173 (.agg #[.string (bs r)]), .bool true]) ∧ w = w' at C
  have D := Lib.hid C
  have C2 := blankRight r (by omega)
  have hm := meth3 (.string (bs r))
  have hok : kindOk 3 r = made r 6 labB := rfl
  rw [hok]
  clear C hsh hr hok
  cases hk : made r 6 labB
  all_goals
    rw [hk] at C2
    have R := Lib.hid C2
    clear C2 hk
    go_enter Tryz.func141, Tryz.ntmps141
    go_wp2_with fail
    refine (D.out _).mono ?_
    rintro e w' ⟨rfl, rfl⟩
    go_wp2_with fail
    refine (R.out _).mono ?_
    rintro e w' ⟨rfl, hb⟩
    go_wp2_with fail
    go_ret2
    exact ⟨rfl, hb⟩
theorem meth4 (v : Value) (w : World) : (method 355 174 (.agg #[v]) "loop.example/g00420/impl.right").run Tryz.prog w = .ok (251, .agg #[v]) w := by kernel_rfl
set_option maxRecDepth 100000 in
theorem implTermOf4 (s : ByteArray) (hs : s.size ≤ 2097152) (w : World) (r : List UInt8) (hsh : shape s.data.toList = some (4, r)) :
    Calls Tryz.prog 141 #[.string s] w fun e w' => e = .returned (if kindOk 4 r then .tuple #[.iface 174 (.agg #[.string (bs r)]), .bool true] else .tuple #[.nilIface, .bool false]) ∧ Below w.heap.size w w' := by
  have hr := shape_len hsh
  rw [size_len] at hr
  have C := fun w => implUnmarked s hs w
  rw [hsh] at C
  change ∀ w, Calls _ _ _ w fun e w' => e = .returned (.tuple #[.iface 174 (.agg #[.string (bs r)]), .bool true]) ∧ w = w' at C
  have D := Lib.hid C
  have C2 := varRight r (by omega)
  have hm := meth4 (.string (bs r))
  have hok : kindOk 4 r = made r 6 labB := rfl
  rw [hok]
  clear C hsh hr hok
  cases hk : made r 6 labB
  all_goals
    rw [hk] at C2
    have R := Lib.hid C2
    clear C2 hk
    go_enter Tryz.func141, Tryz.ntmps141
    go_wp2_with fail
    refine (D.out _).mono ?_
    rintro e w' ⟨rfl, rfl⟩
    go_wp2_with fail
    refine (R.out _).mono ?_
    rintro e w' ⟨rfl, hb⟩
    go_wp2_with fail
    go_ret2
    exact ⟨rfl, hb⟩
set_option maxRecDepth 100000 in
theorem implTermOf0 (s : ByteArray) (hs : s.size ≤ 2097152) (w : World) (hsh : shape s.data.toList = none) :
    Calls Tryz.prog 141 #[.string s] w fun e w' => e = .returned (.tuple #[.nilIface, .bool false]) ∧ Below w.heap.size w w' := by
  have C := fun w => implUnmarked s hs w
  rw [hsh] at C
  have D := Lib.hid C
  clear C hsh
  go_enter Tryz.func141, Tryz.ntmps141
  go_wp2_with fail
  refine (D.out _).mono ?_
  rintro e w' ⟨rfl, rfl⟩
  go_wp2_with fail
  go_ret2
  exact ⟨rfl, Below.refl _ _⟩
theorem as11 (v : Value) (w : World) : (Instr.typeAssert (.iface 170 (.agg #[v])) 166 170 true).run Tryz.prog w = .ok (.tuple #[.agg #[v], .bool true]) w := by kernel_rfl
theorem as21 (v : Value) (w : World) : (Instr.typeAssert (.iface 171 (.agg #[v])) 166 170 true).run Tryz.prog w = .ok (.tuple #[.agg #[.string ⟨#[]⟩], .bool false]) w := by kernel_rfl
theorem as22 (v : Value) (w : World) : (Instr.typeAssert (.iface 171 (.agg #[v])) 166 171 true).run Tryz.prog w = .ok (.tuple #[.agg #[v], .bool true]) w := by kernel_rfl
theorem as31 (v : Value) (w : World) : (Instr.typeAssert (.iface 173 (.agg #[v])) 166 170 true).run Tryz.prog w = .ok (.tuple #[.agg #[.string ⟨#[]⟩], .bool false]) w := by kernel_rfl
theorem as32 (v : Value) (w : World) : (Instr.typeAssert (.iface 173 (.agg #[v])) 166 171 true).run Tryz.prog w = .ok (.tuple #[.agg #[.string ⟨#[]⟩], .bool false]) w := by kernel_rfl
theorem as33 (v : Value) (w : World) : (Instr.typeAssert (.iface 173 (.agg #[v])) 166 173 true).run Tryz.prog w = .ok (.tuple #[.agg #[v], .bool true]) w := by kernel_rfl
theorem as41 (v : Value) (w : World) : (Instr.typeAssert (.iface 174 (.agg #[v])) 166 170 true).run Tryz.prog w = .ok (.tuple #[.agg #[.string ⟨#[]⟩], .bool false]) w := by kernel_rfl
theorem as42 (v : Value) (w : World) : (Instr.typeAssert (.iface 174 (.agg #[v])) 166 171 true).run Tryz.prog w = .ok (.tuple #[.agg #[.string ⟨#[]⟩], .bool false]) w := by kernel_rfl
theorem as43 (v : Value) (w : World) : (Instr.typeAssert (.iface 174 (.agg #[v])) 166 173 true).run Tryz.prog w = .ok (.tuple #[.agg #[.string ⟨#[]⟩], .bool false]) w := by kernel_rfl
theorem as44 (v : Value) (w : World) : (Instr.typeAssert (.iface 174 (.agg #[v])) 166 174 true).run Tryz.prog w = .ok (.tuple #[.agg #[v], .bool true]) w := by kernel_rfl
set_option maxRecDepth 100000 in
theorem implKindOf1 (s : ByteArray) (hs : s.size ≤ 2097152) (w : World) (r : List UInt8) (hsh : shape s.data.toList = some (1, r)) :
    Calls Tryz.prog 95 #[.string s] w fun e w' => e = .returned (.int .i64 (kindL s.data.toList)) ∧ Below w.heap.size w w' := by
  have C := implTermOf1 s hs w r hsh
  have hkl : kindL s.data.toList = if kindOk 1 r then 1 else 0 := by unfold kindL; rw [hsh]
  rw [hkl]
  clear hsh hkl
  have a1 := as11 (.string (bs r))
  cases hk : kindOk 1 r
  all_goals
    rw [hk] at C
    simp only [Bool.false_eq_true, ↓reduceIte] at C ⊢
    have D := Lib.hid C
    clear C hk
    go_enter Tryz.func95, Tryz.ntmps95
    go_wp2_with fail
    refine D.out.mono ?_
    rintro e w' ⟨rfl, hb⟩
    go_wp2_with fail
    go_ret
    exact ⟨rfl, hb⟩
set_option maxRecDepth 100000 in
theorem implKindOf2 (s : ByteArray) (hs : s.size ≤ 2097152) (w : World) (r : List UInt8) (hsh : shape s.data.toList = some (2, r)) :
    Calls Tryz.prog 95 #[.string s] w fun e w' => e = .returned (.int .i64 (kindL s.data.toList)) ∧ Below w.heap.size w w' := by
  have C := implTermOf2 s hs w r hsh
  have hkl : kindL s.data.toList = if kindOk 2 r then 2 else 0 := by unfold kindL; rw [hsh]
  rw [hkl]
  clear hsh hkl
  have a1 := as21 (.string (bs r))
  have a2 := as22 (.string (bs r))
  cases hk : kindOk 2 r
  all_goals
    rw [hk] at C
    simp only [Bool.false_eq_true, ↓reduceIte] at C ⊢
    have D := Lib.hid C
    clear C hk
    go_enter Tryz.func95, Tryz.ntmps95
    go_wp2_with fail
    refine D.out.mono ?_
    rintro e w' ⟨rfl, hb⟩
    go_wp2_with fail
    go_ret
    exact ⟨rfl, hb⟩
set_option maxRecDepth 100000 in
theorem implKindOf3 (s : ByteArray) (hs : s.size ≤ 2097152) (w : World) (r : List UInt8) (hsh : shape s.data.toList = some (3, r)) :
    Calls Tryz.prog 95 #[.string s] w fun e w' => e = .returned (.int .i64 (kindL s.data.toList)) ∧ Below w.heap.size w w' := by
  have C := implTermOf3 s hs w r hsh
  have hkl : kindL s.data.toList = if kindOk 3 r then 3 else 0 := by unfold kindL; rw [hsh]
  rw [hkl]
  clear hsh hkl
  have a1 := as31 (.string (bs r))
  have a2 := as32 (.string (bs r))
  have a3 := as33 (.string (bs r))
  cases hk : kindOk 3 r
  all_goals
    rw [hk] at C
    simp only [Bool.false_eq_true, ↓reduceIte] at C ⊢
    have D := Lib.hid C
    clear C hk
    go_enter Tryz.func95, Tryz.ntmps95
    go_wp2_with fail
    refine D.out.mono ?_
    rintro e w' ⟨rfl, hb⟩
    go_wp2_with fail
    go_ret
    exact ⟨rfl, hb⟩
set_option maxRecDepth 100000 in
theorem implKindOf4 (s : ByteArray) (hs : s.size ≤ 2097152) (w : World) (r : List UInt8) (hsh : shape s.data.toList = some (4, r)) :
    Calls Tryz.prog 95 #[.string s] w fun e w' => e = .returned (.int .i64 (kindL s.data.toList)) ∧ Below w.heap.size w w' := by
  have C := implTermOf4 s hs w r hsh
  have hkl : kindL s.data.toList = if kindOk 4 r then 4 else 0 := by unfold kindL; rw [hsh]
  rw [hkl]
  clear hsh hkl
  have a1 := as41 (.string (bs r))
  have a2 := as42 (.string (bs r))
  have a3 := as43 (.string (bs r))
  have a4 := as44 (.string (bs r))
  cases hk : kindOk 4 r
  all_goals
    rw [hk] at C
    simp only [Bool.false_eq_true, ↓reduceIte] at C ⊢
    have D := Lib.hid C
    clear C hk
    go_enter Tryz.func95, Tryz.ntmps95
    go_wp2_with fail
    refine D.out.mono ?_
    rintro e w' ⟨rfl, hb⟩
    go_wp2_with fail
    go_ret
    exact ⟨rfl, hb⟩
set_option maxRecDepth 100000 in
theorem implKindOf (s : ByteArray) (hs : s.size ≤ 2097152) (w : World) :
    Calls Tryz.prog 95 #[.string s] w fun e w' => e = .returned (.int .i64 (kindL s.data.toList)) ∧ Below w.heap.size w w' := by
  rcases hsh : shape s.data.toList with _ | ⟨k, r⟩
  · have C := implTermOf0 s hs w hsh
    have hkl : kindL s.data.toList = 0 := by unfold kindL; rw [hsh]
    rw [hkl]
    have D := Lib.hid C
    clear C hsh hkl
    go_enter Tryz.func95, Tryz.ntmps95
    go_wp2_with fail
    refine D.out.mono ?_
    rintro e w' ⟨rfl, hb⟩
    go_wp2_with fail
    go_ret
    exact ⟨rfl, hb⟩
  · have h := shape_len hsh
    obtain rfl | rfl | rfl | rfl : k = 1 ∨ k = 2 ∨ k = 3 ∨ k = 4 := by omega
    · exact implKindOf1 s hs w r hsh
    · exact implKindOf2 s hs w r hsh
    · exact implKindOf3 s hs w r hsh
    · exact implKindOf4 s hs w r hsh
end Go.Proofs.YtiajdnhmjdfeeaaGreat
namespace Go.Proofs.YtiajdnhmjdfeeaaGreat
theorem has_first (x a : UInt8) (r : List UInt8) : Lib.hasPrefix (x :: r) [a] = decide (x = a) := by
  unfold Lib.hasPrefix
  rw [Bool.eq_iff_iff]
  simp [List.isPrefixOf]
  exact eq_comm
theorem has_last (r : List UInt8) (b : UInt8) : Lib.hasSuffix r [b] = decide (r.getLast? = some b) := by
  unfold Lib.hasSuffix
  rw [Bool.eq_iff_iff, List.isSuffixOf_iff_suffix, decide_eq_true_eq]
  constructor
  · rintro ⟨t, rfl⟩
    simp
  · intro h
    obtain ⟨t, rfl⟩ := List.getLast?_eq_some_iff.1 h
    exact ⟨t, rfl⟩
theorem inner_cons (x : UInt8) (r : List UInt8) (a b : UInt8) : inner (x :: r) a b = if x = a ∧ r.getLast? = some b then some r.dropLast else none := by
  unfold inner
  rw [has_first]
  by_cases h : x = a
  · have e : Lib.trimPrefix (x :: r) [a] = r := by unfold Lib.trimPrefix; rw [has_first, decide_eq_true h]; rfl
    rw [e, has_last]
    by_cases g : r.getLast? = some b
    · have e2 : Lib.trimSuffix r [b] = r.dropLast := by unfold Lib.trimSuffix; rw [has_last, decide_eq_true g, List.dropLast_eq_take]; rfl
      rw [e2]; simp [h, g]
    · simp [h, g]
  · simp [h]
theorem shape_cons (x : UInt8) (r : List UInt8) : shape (x :: r) = if x = 60 then (if r.getLast? = some 62 then some (1, r.dropLast) else none) else
    if x = 34 then (if r.getLast? = some 34 then some (2, r.dropLast) else none) else
    if x = 95 then (if r.head? = some 58 then some (3, r.drop 1) else none) else if x = 63 then some (4, r) else none := by
  unfold shape
  rw [inner_cons, inner_cons, has_first]
  have hp : Lib.hasPrefix (x :: r) [95, 58] = decide (x = 95 ∧ r.head? = some 58) := by
    unfold Lib.hasPrefix
    rw [Bool.eq_iff_iff]
    cases r with
    | nil => simp [List.isPrefixOf]
    | cons y q => simp [List.isPrefixOf]; constructor <;> (rintro ⟨h1, h2⟩; exact ⟨h1.symm, h2.symm⟩)
  rw [hp]
  by_cases h1 : x = 60
  · subst h1
    by_cases g : r.getLast? = some 62 <;> simp [g]
  by_cases h2 : x = 34
  · subst h2
    by_cases g : r.getLast? = some 34 <;> simp [g]
  by_cases h3 : x = 95
  · subst h3
    by_cases g : r.head? = some 58 <;> simp [g]
  by_cases h4 : x = 63
  · subst h4
    simp
  · simp [h1, h2, h3, h4]
theorem textOk_some {r : List UInt8} (h : textOk r = true) : (unesc r).isSome = true := by
  unfold textOk at h
  split at h
  · rename_i t ht; rw [ht]; rfl
  · simp at h
theorem textIn_kind (l : List UInt8) : (textIn l).isSome = decide (kindL l = 2) := by
  unfold textIn kindL
  split
  · rename_i k r h
    by_cases hk : k = 2
    · subst hk
      have e : kindOk 2 r = textOk r := rfl
      cases ho : textOk r
      · simp [e, ho]
      · simp [e, ho, textOk_some ho]
    · simp only [hk, decide_false, Bool.false_and, Bool.false_eq_true, if_false, Option.isSome_none]
      symm
      rw [decide_eq_false_iff_not]
      split
      · exact hk
      · simp
  · simp
theorem kindL_cons (x : UInt8) (r : List UInt8) : kindL (x :: r) = if x = 60 then (if r.getLast? = some 62 then (if made r.dropLast 12 nameB then 1 else 0) else 0) else
    if x = 34 then (if r.getLast? = some 34 then (if textOk r.dropLast then 2 else 0) else 0) else
    if x = 95 then (if r.head? = some 58 then (if made (r.drop 1) 6 labB then 3 else 0) else 0) else if x = 63 then (if made r 6 labB then 4 else 0) else 0 := by
  unfold kindL
  rw [shape_cons]
  by_cases h1 : x = 60
  · subst h1
    by_cases g : r.getLast? = some 62 <;> simp [g, kindOk]
  by_cases h2 : x = 34
  · subst h2
    by_cases g : r.getLast? = some 34 <;> simp [g, kindOk]
  by_cases h3 : x = 95
  · subst h3
    by_cases g : r.head? = some 58 <;> simp [g, kindOk]
  by_cases h4 : x = 63
  · subst h4
    simp [kindOk]
  · simp [h1, h2, h3, h4]
theorem made_nil (m : Nat) (p : UInt8 → Bool) : made [] m p = false := rfl
theorem textIn_cons (x : UInt8) (r : List UInt8) : textIn (x :: r) = if x = 34 ∧ r.getLast? = some 34 then (if textOk r.dropLast then unesc r.dropLast else none) else none := by
  unfold textIn
  rw [shape_cons]
  by_cases h1 : x = 60
  · subst h1
    by_cases g : r.getLast? = some 62 <;> simp [g]
  by_cases h2 : x = 34
  · subst h2
    by_cases g : r.getLast? = some 34 <;> simp [g]
  by_cases h3 : x = 95
  · subst h3
    by_cases g : r.head? = some 58 <;> simp [g]
  by_cases h4 : x = 63
  · subst h4
    simp
  · simp [h1, h2, h3, h4]
/-- A text of two bytes or more: its first, what stands between, its last. -/
theorem ends (s : ByteArray) (h : 2 ≤ s.size) : s.data.toList = s[0] :: ((s.extract 1 (s.size - 1)).data.toList ++ [s[s.size - 1]]) := by
  have h0 := drop_cons s 0 (by omega)
  rw [List.drop_zero] at h0
  rw [h0, ext_toList]
  congr 1
  have h1 := take_snoc s (s.size - 1) (by omega)
  rw [show s.size - 1 + 1 = s.size from by omega, take_all s s.size (Nat.le_refl _)] at h1
  rw [h1, List.drop_append_of_le_length (by rw [List.length_take, size_len]; omega)]
  congr 1
  rw [List.take_append_of_le_length (by rw [List.length_take, size_len]; omega), List.take_take, Nat.min_self]
end Go.Proofs.YtiajdnhmjdfeeaaGreat
namespace Go.Proofs.YtiajdnhmjdfeeaaGreat
open Go.RowKit
def othB (o : List UInt8) (c : UInt8) : Bool := labB c || o.contains c
theorem lab_cases (c : UInt8) : (labB c = true ∧ 97 ≤ (c.toNat : Int) ∧ (c.toNat : Int) ≤ 122) ∨ (labB c = true ∧ (c.toNat : Int) < 97 ∧ 48 ≤ (c.toNat : Int) ∧ (c.toNat : Int) ≤ 57) ∨
    (labB c = false ∧ (c.toNat : Int) < 97 ∧ (c.toNat : Int) < 48) ∨ (labB c = false ∧ 122 < (c.toNat : Int)) ∨ (labB c = false ∧ (c.toNat : Int) < 97 ∧ 57 < (c.toNat : Int)) := by
  unfold labB
  simp only [Bool.or_eq_true, Bool.and_eq_true, decide_eq_true_eq, Bool.or_eq_false_iff, Bool.and_eq_false_iff, decide_eq_false_iff_not]
  omega
theorem contains_snoc (o : ByteArray) (j : Nat) (h : j < o.size) (c : UInt8) : (o.data.toList.take (j + 1)).contains c = ((o.data.toList.take j).contains c || ((c.toNat : Int) == (o[j].toNat : Int))) := by
  rw [take_snoc o j h, Bool.eq_iff_iff]
  have := u8_int c o[j]
  simp at *
  rw [this]
set_option maxRecDepth 100000 in
set_option maxHeartbeats 1600000 in
theorem specOf (s o : ByteArray) (most : Nat) (hs : s.size ≤ 2097152) (ho : o.size ≤ 100) (w : World) :
    Calls Tryz.prog 146 #[.string s, .int .i64 most, .string o] w fun e w' => e = .returned (.bool (made s.data.toList most (othB o.data.toList))) ∧ Below w.heap.size w w' := by
  go_enter Tryz.func146, Tryz.ntmps146
  go_wp2_with fail
  go_loopw [7] (fun i wr => ∃ k : Nat, k ≤ s.size ∧ i = .int .i64 k ∧ Hid ((s.data.toList.take k).all (othB o.data.toList) = true) ∧ Below w.heap.size w wr) (fun i _ => s.size - (intOf i).toNat)
  case atStart => exact ⟨0, Nat.zero_le _, rfl, Lib.hid (by simp), Below.refl _ _⟩
  case round =>
    obtain ⟨k, hk, rfl, hb, hnx⟩ := hrel
    obtain ⟨wo, rfl⟩ : ∃ wo : World, wo = wr := ⟨_, rfl⟩
    by_cases hlt : k < s.size
    · have HT := Lib.hid (take_snoc s k hlt)
      have HD := Lib.hid (drop_cons s k hlt)
      rcases lab_cases s[k] with ⟨hl, c1, c2⟩ | ⟨hl, c1, c2, c3⟩ | ⟨hl, c1, c2⟩ | ⟨hl, c1⟩ | ⟨hl, c1, c2⟩
      all_goals
        have HL := Lib.hid hl
        clear hl
        go_wp2_with fail
        go_loopw [8, 9] (fun f j wr => ∃ q : Nat, q ≤ o.size ∧ j = .int .i64 q ∧ (∃ b : Bool, f = .bool b ∧ Hid (b = (labB s[k] || (o.data.toList.take q).contains s[k]))) ∧ Below w.heap.size w wr) (fun _ j _ => o.size - (intOf j).toNat)
        case atStart => exact ⟨0, Nat.zero_le _, rfl, ⟨_, rfl, Lib.hid (by rw [HL.out]; simp; try omega)⟩, hnx⟩
        case round =>
          obtain ⟨q, hq, rfl, ⟨b, rfl, hbb⟩, hnx2⟩ := hrel
          by_cases hlt2 : q < o.size
          · have HC := Lib.hid (contains_snoc o q hlt2 s[k])
            cases b
            · go_wp2_with fail
              go_quiet (fail)
              go_wp2_with fail
              go_roundw
              case rel => exact ⟨q + 1, by omega, by go_num, ⟨_, rfl, Lib.hid (by rw [HC.out, ← Bool.or_assoc, ← hbb.out]; simp)⟩, below_drewN hnx2 _⟩
              case measure => simp [intOf]; omega
            · go_wp2_with fail
              go_quiet (fail)
              go_wp2_with fail
              go_roundw
              case rel => exact ⟨q + 1, by omega, by go_num, ⟨_, rfl, Lib.hid (by rw [HC.out, ← Bool.or_assoc, ← hbb.out]; simp)⟩, below_drewN hnx2 _⟩
              case measure => simp [intOf]; omega
          · have HB : Hid (b = othB o.data.toList s[k]) := Lib.hid (by have := hbb.out; rwa [take_all _ _ (by omega)] at this)
            clear hbb
            cases b
            · have HF : Hid (s.data.toList.all (othB o.data.toList) = false) := Lib.hid (by
                rw [← List.take_append_drop k s.data.toList, List.all_append, HD.out, List.all_cons, ← HB.out]; simp)
              go_wp2_with fail
              go_ret
              exact ⟨by unfold made; rw [HF.out]; simp, hnx2⟩
            · have HF : Hid ((s.data.toList.take (k + 1)).all (othB o.data.toList) = true) := Lib.hid (by rw [HT.out, List.all_append, hb.out]; simp [← HB.out])
              go_wp2_with fail
              go_roundw
              case rel => exact ⟨k + 1, by omega, by go_num, HF, hnx2⟩
              case measure => simp [intOf]; omega
    · have HF : Hid (s.data.toList.all (othB o.data.toList) = true) := Lib.hid (by have := hb.out; rwa [take_all _ _ (by omega)] at this)
      have HM : Hid (made s.data.toList most (othB o.data.toList) = (decide (1 ≤ s.size) && decide (s.size ≤ most))) := Lib.hid (by unfold made; rw [HF.out, size_len]; simp)
      by_cases g1 : (1 : Int) ≤ s.size
      · by_cases g2 : (s.size : Int) ≤ most
        · go_wp2_with fail
          go_ret
          exact ⟨by rw [HM.out, decide_eq_true (by omega : 1 ≤ s.size), decide_eq_true (by omega : s.size ≤ most)]; rfl, hnx⟩
        · go_wp2_with fail
          go_ret
          exact ⟨by rw [HM.out, decide_eq_true (by omega : 1 ≤ s.size), decide_eq_false (by omega : ¬ s.size ≤ most)]; rfl, hnx⟩
      · go_wp2_with fail
        go_ret
        exact ⟨by rw [HM.out, decide_eq_false (by omega : ¬ 1 ≤ s.size)]; rfl, hnx⟩
end Go.Proofs.YtiajdnhmjdfeeaaGreat
