/- The contracts of the program's functions on kinds: what a word is, and what a text has in it. -/
import Derived.Test.YtiajdnhmjdfeeaaGreatG04
namespace Go.Proofs.YtiajdnhmjdfeeaaGreat
open Go.RowKit
/-- The type of the value that holds a word of kind k. -/
def tyOf (k : Nat) : TypeId := if k = 1 then 170 else if k = 2 then 171 else if k = 3 then 173 else 174
def termVal (k : Nat) (r : List UInt8) : Value := .iface (tyOf k) (.agg #[.string (bs r)])
theorem implUnmarked (s : ByteArray) (hs : s.size ≤ 2097152) (w : World) :
    Calls Tryz.prog 173 #[.string s] w fun e w' => e = .returned (match shape s.data.toList with | some (k, r) => .tuple #[termVal k r, .bool true] | none => .tuple #[.nilIface, .bool false]) ∧ w = w' := by
  have B1 := fun w => implBetween s 60 62 hs w
  have B2 := fun w => implBetween s 34 34 hs w
  have C3 := fun w => Tryz.strings_CutPrefix s (bs [95, 58]) w
  have C4 := fun w => Tryz.strings_CutPrefix s (bs [63]) w
  simp only [bs_toList] at C3 C4
  unfold shape
  cases h1 : inner s.data.toList 60 62 with
  | some r =>
    rw [h1] at B1
    have D1 := Lib.hid B1
    clear B1 B2 C3 C4 h1
    go_enter Tryz.func173, Tryz.ntmps173
    go_wp2_with fail
    refine (D1.out _).mono ?_
    rintro e w' ⟨rfl, rfl⟩
    go_wp2_with fail
    go_ret2
    exact ⟨rfl, rfl⟩
  | none =>
    rw [h1] at B1
    clear h1
    cases h2 : inner s.data.toList 34 34 with
    | some r =>
      rw [h2] at B2
      have D1 := Lib.hid B1
      have D2 := Lib.hid B2
      clear B1 B2 C3 C4 h2
      go_enter Tryz.func173, Tryz.ntmps173
      go_wp2_with fail
      refine (D1.out _).mono ?_
      rintro e w' ⟨rfl, rfl⟩
      go_wp2_with fail
      refine (D2.out _).mono ?_
      rintro e w'' ⟨rfl, rfl⟩
      go_wp2_with fail
      go_ret2
      exact ⟨rfl, rfl⟩
    | none =>
      rw [h2] at B2
      clear h2
      unfold Lib.trimPrefix at C3 C4
      cases h3 : Lib.hasPrefix s.data.toList [95, 58] <;> cases h4 : Lib.hasPrefix s.data.toList [63]
      all_goals
        rw [h3] at C3
        rw [h4] at C4
        have D1 := Lib.hid B1
        have D2 := Lib.hid B2
        have D3 := Lib.hid C3
        have D4 := Lib.hid C4
        clear B1 B2 C3 C4 h3 h4
        go_enter Tryz.func173, Tryz.ntmps173
        go_wp2_with fail
        refine (D1.out _).mono ?_
        rintro e w' ⟨rfl, rfl⟩
        go_wp2_with fail
        refine (D2.out _).mono ?_
        rintro e w'' ⟨rfl, rfl⟩
        go_wp2_with fail
        refine (D3.out _).mono ?_
        rintro e w3 ⟨rfl, rfl⟩
        go_wp2_with fail
        try
          refine (D4.out _).mono ?_
          rintro e w4 ⟨rfl, rfl⟩
          go_wp2_with fail
        go_ret2
        exact ⟨rfl, rfl⟩
theorem nameRight (r : List UInt8) (hr : r.length ≤ 2097152) (w : World) :
    Calls Tryz.prog 242 #[.agg #[.string (bs r)]] w fun e w' => e = .returned (.bool (made r 12 nameB)) ∧ Below w.heap.size w w' := by
  have C := fun w => implMade 244 nameB (Lib.hid implName) (enters_of Tryz.func244 (by kernel_rfl) rfl) (bs r) 12 (by rw [bs_size]; omega) w
  rw [bs_toList] at C
  have D := Lib.hid C
  clear C
  go_enter Tryz.func242, Tryz.ntmps242
  go_wp2_with fail
  refine (D.out _).mono ?_
  rintro e w' ⟨rfl, rfl⟩
  go_wp2_with fail
  go_ret
  exact ⟨rfl, (Below.refl _ _).alloc (Nat.le_refl _) _⟩
theorem blankRight (r : List UInt8) (hr : r.length ≤ 2097152) (w : World) :
    Calls Tryz.prog 250 #[.agg #[.string (bs r)]] w fun e w' => e = .returned (.bool (made r 6 labB)) ∧ Below w.heap.size w w' := by
  have C := fun w => implMade 245 labB (Lib.hid implLabel) (enters_of Tryz.func245 (by kernel_rfl) rfl) (bs r) 6 (by rw [bs_size]; omega) w
  rw [bs_toList] at C
  have D := Lib.hid C
  clear C
  go_enter Tryz.func250, Tryz.ntmps250
  go_wp2_with fail
  refine (D.out _).mono ?_
  rintro e w' ⟨rfl, rfl⟩
  go_wp2_with fail
  go_ret
  exact ⟨rfl, (Below.refl _ _).alloc (Nat.le_refl _) _⟩
theorem varRight (r : List UInt8) (hr : r.length ≤ 2097152) (w : World) :
    Calls Tryz.prog 251 #[.agg #[.string (bs r)]] w fun e w' => e = .returned (.bool (made r 6 labB)) ∧ Below w.heap.size w w' := by
  have C := fun w => implMade 245 labB (Lib.hid implLabel) (enters_of Tryz.func245 (by kernel_rfl) rfl) (bs r) 6 (by rw [bs_size]; omega) w
  rw [bs_toList] at C
  have D := Lib.hid C
  clear C
  go_enter Tryz.func251, Tryz.ntmps251
  go_wp2_with fail
  refine (D.out _).mono ?_
  rintro e w' ⟨rfl, rfl⟩
  go_wp2_with fail
  go_ret
  exact ⟨rfl, (Below.refl _ _).alloc (Nat.le_refl _) _⟩
theorem textRight (r : List UInt8) (hr : r.length ≤ 2097152) (w : World) :
    Calls Tryz.prog 246 #[.agg #[.string (bs r)]] w fun e w' => e = .returned (.bool (textOk r)) ∧ Below w.heap.size w w' := by
  have C := fun w => implUnescaped (bs r) w (by rw [bs_size]; omega)
  rw [bs_toList] at C
  unfold textOk
  cases hu : unesc r with
  | none =>
    rw [hu] at C
    have D := Lib.hid C
    clear C hu
    go_enter Tryz.func246, Tryz.ntmps246
    go_wp2_with fail
    refine (D.out _).mono ?_
    rintro e w' ⟨rfl, hb⟩
    go_wp2_with fail
    go_ret
    exact ⟨rfl, ((Below.refl _ _).alloc (Nat.le_refl _) _).trans (hb.mono (by simp))⟩
  | some t =>
    have ht := unesc_len _ _ hu
    have M := fun w => implMade 248 textB (Lib.hid implText) (enters_of Tryz.func248 (by kernel_rfl) rfl) (bs t) 12 (by rw [bs_size]; omega) w
    rw [bs_toList] at M
    have DM := Lib.hid M
    rw [hu] at C
    have D := Lib.hid C
    clear C hu M
    cases t with
    | nil =>
      have hne : (bs []).toList.isEmpty = true := by rw [bs_list]; rfl
      have hne2 : (bs []).toList = [] := bs_list []
      go_enter Tryz.func246, Tryz.ntmps246
      go_wp2_with fail
      refine (D.out _).mono ?_
      rintro e w' ⟨rfl, hb⟩
      go_wp2_with fail
      go_ret
      exact ⟨rfl, ((Below.refl _ _).alloc (Nat.le_refl _) _).trans (hb.mono (by simp))⟩
    | cons c q =>
      have hne : (bs (c :: q)).toList.isEmpty = false := by rw [bs_list]; rfl
      have hne2 : ¬ (bs (c :: q)).toList = [] := by rw [bs_list]; simp
      go_enter Tryz.func246, Tryz.ntmps246
      go_wp2_with fail
      refine (D.out _).mono ?_
      rintro e w' ⟨rfl, hb⟩
      go_wp2_with fail
      refine (DM.out _).mono ?_
      rintro e w'' ⟨rfl, rfl⟩
      go_wp2_with fail
      go_ret
      exact ⟨rfl, ((Below.refl _ _).alloc (Nat.le_refl _) _).trans (hb.mono (by simp))⟩
end Go.Proofs.YtiajdnhmjdfeeaaGreat
/- The contracts of the program's functions on kinds: KindOf and TextIn. -/
namespace Go.Proofs.YtiajdnhmjdfeeaaGreat
open Go.RowKit
theorem meth1 (v : Value) (w : World) : (method 355 170 (.agg #[v]) "loop.example/g00420/impl.right").run Tryz.prog w = .ok (242, .agg #[v]) w := by kernel_rfl
set_option maxRecDepth 100000 in
theorem implTermOf1 (s : ByteArray) (hs : s.size ≤ 2097152) (w : World) (r : List UInt8) (hsh : shape s.data.toList = some (1, r)) :
    Calls Tryz.prog 141 #[.string s] w fun e w' => e = .returned (if kindOk 1 r then .tuple #[.iface 170 (.agg #[.string (bs r)]), .bool true] else .tuple #[.nilIface, .bool false]) ∧ Below w.heap.size w w' := by
  have hr := shape_len hsh
  rw [size_len] at hr
  have C := fun w => implUnmarked s hs w
  rw [hsh] at C
  change ∀ w, Calls _ _ _ w fun e w' => e = .returned (.tuple #[.iface 170 (.agg #[.string (bs r)]), .bool true]) ∧ w = w' at C
  have D := Lib.hid C
  have C2 := nameRight r (by omega)
  have hm := meth1 (.string (bs r))
  have hok : kindOk 1 r = made r 12 nameB := rfl
  rw [hok]
  clear C hsh hr hok
  cases hk : made r 12 nameB
  all_goals
    rw [hk] at C2
    have R := Lib.hid C2
    clear C2 hk
    go_enter Tryz.func141, Tryz.ntmps141
    go_wp2_with fail
    refine (D.out _).mono ?_
    rintro e w' ⟨rfl, rfl⟩
    go_wp2_with fail
    refine (R.out _).mono ?_
    rintro e w' ⟨rfl, hb⟩
    go_wp2_with fail
    go_ret2
    exact ⟨rfl, hb⟩
theorem meth2 (v : Value) (w : World) : (method 355 171 (.agg #[v]) "loop.example/g00420/impl.right").run Tryz.prog w = .ok (246, .agg #[v]) w := by kernel_rfl
set_option maxRecDepth 100000 in
theorem implTermOf2 (s : ByteArray) (hs : s.size ≤ 2097152) (w : World) (r : List UInt8) (hsh : shape s.data.toList = some (2, r)) :
    Calls Tryz.prog 141 #[.string s] w fun e w' => e = .returned (if kindOk 2 r then .tuple #[.iface 171 (.agg #[.string (bs r)]), .bool true] else .tuple #[.nilIface, .bool false]) ∧ Below w.heap.size w w' := by
  have hr := shape_len hsh
  rw [size_len] at hr
  have C := fun w => implUnmarked s hs w
  rw [hsh] at C
  change ∀ w, Calls _ _ _ w fun e w' => e = .returned (.tuple #[.iface 171 (.agg #[.string (bs r)]), .bool true]) ∧ w = w' at C
  have D := Lib.hid C
  have C2 := textRight r (by omega)
  have hm := meth2 (.string (bs r))
  have hok : kindOk 2 r = textOk r := rfl
  rw [hok]
  clear C hsh hr hok
  cases hk : textOk r
  all_goals
    rw [hk] at C2
    have R := Lib.hid C2
    clear C2 hk
    go_enter Tryz.func141, Tryz.ntmps141
    go_wp2_with fail
    refine (D.out _).mono ?_
    rintro e w' ⟨rfl, rfl⟩
    go_wp2_with fail
    refine (R.out _).mono ?_
    rintro e w' ⟨rfl, hb⟩
    go_wp2_with fail
    go_ret2
    exact ⟨rfl, hb⟩
theorem meth3 (v : Value) (w : World) : (method 355 173 (.agg #[v]) "loop.example/g00420/impl.right").run Tryz.prog w = .ok (250, .agg #[v]) w := by kernel_rfl
set_option maxRecDepth 100000 in
theorem implTermOf3 (s : ByteArray) (hs : s.size ≤ 2097152) (w : World) (r : List UInt8) (hsh : shape s.data.toList = some (3, r)) :
    Calls Tryz.prog 141 #[.string s] w fun e w' => e = .returned (if kindOk 3 r then .tuple #[.iface 173 (.agg #[.string (bs r)]), .bool true] else .tuple #[.nilIface, .bool false]) ∧ Below w.heap.size w w' := by
  have hr := shape_len hsh
  rw [size_len] at hr
  have C := fun w => implUnmarked s hs w
  rw [hsh] at C
  change ∀ w, Calls _ _ _ w fun e w' => e = .returned (.tuple #[.iface 173 (.agg #[.string (bs r)]), .bool true]) ∧ w = w' at C
  have D := Lib.hid C
  have C2 := blankRight r (by omega)
  have hm := meth3 (.string (bs r))
  have hok : kindOk 3 r = made r 6 labB := rfl
  rw [hok]
  clear C hsh hr hok
  cases hk : made r 6 labB
  all_goals
    rw [hk] at C2
    have R := Lib.hid C2
    clear C2 hk
    go_enter Tryz.func141, Tryz.ntmps141
    go_wp2_with fail
    refine (D.out _).mono ?_
    rintro e w' ⟨rfl, rfl⟩
    go_wp2_with fail
    refine (R.out _).mono ?_
    rintro e w' ⟨rfl, hb⟩
    go_wp2_with fail
    go_ret2
    exact ⟨rfl, hb⟩
theorem meth4 (v : Value) (w : World) : (method 355 174 (.agg #[v]) "loop.example/g00420/impl.right").run Tryz.prog w = .ok (251, .agg #[v]) w := by kernel_rfl
set_option maxRecDepth 100000 in
theorem implTermOf4 (s : ByteArray) (hs : s.size ≤ 2097152) (w : World) (r : List UInt8) (hsh : shape s.data.toList = some (4, r)) :
    Calls Tryz.prog 141 #[.string s] w fun e w' => e = .returned (if kindOk 4 r then .tuple #[.iface 174 (.agg #[.string (bs r)]), .bool true] else .tuple #[.nilIface, .bool false]) ∧ Below w.heap.size w w' := by
  have hr := shape_len hsh
  rw [size_len] at hr
  have C := fun w => implUnmarked s hs w
  rw [hsh] at C
  change ∀ w, Calls _ _ _ w fun e w' => e = .returned (.tuple #[.iface 174 (.agg #[.string (bs r)]), .bool true]) ∧ w = w' at C
  have D := Lib.hid C
  have C2 := varRight r (by omega)
  have hm := meth4 (.string (bs r))
  have hok : kindOk 4 r = made r 6 labB := rfl
  rw [hok]
  clear C hsh hr hok
  cases hk : made r 6 labB
  all_goals
    rw [hk] at C2
    have R := Lib.hid C2
    clear C2 hk
    go_enter Tryz.func141, Tryz.ntmps141
    go_wp2_with fail
    refine (D.out _).mono ?_
    rintro e w' ⟨rfl, rfl⟩
    go_wp2_with fail
    refine (R.out _).mono ?_
    rintro e w' ⟨rfl, hb⟩
    go_wp2_with fail
    go_ret2
    exact ⟨rfl, hb⟩
set_option maxRecDepth 100000 in
theorem implTermOf0 (s : ByteArray) (hs : s.size ≤ 2097152) (w : World) (hsh : shape s.data.toList = none) :
    Calls Tryz.prog 141 #[.string s] w fun e w' => e = .returned (.tuple #[.nilIface, .bool false]) ∧ Below w.heap.size w w' := by
  have C := fun w => implUnmarked s hs w
  rw [hsh] at C
  have D := Lib.hid C
  clear C hsh
  go_enter Tryz.func141, Tryz.ntmps141
  go_wp2_with fail
  refine (D.out _).mono ?_
  rintro e w' ⟨rfl, rfl⟩
  go_wp2_with fail
  go_ret2
  exact ⟨rfl, Below.refl _ _⟩
theorem as11 (v : Value) (w : World) : (Instr.typeAssert (.iface 170 (.agg #[v])) 166 170 true).run Tryz.prog w = .ok (.tuple #[.agg #[v], .bool true]) w := by kernel_rfl
theorem as12 (v : Value) (w : World) : (Instr.typeAssert (.iface 170 (.agg #[v])) 166 171 true).run Tryz.prog w = .ok (.tuple #[.agg #[.string ⟨#[]⟩], .bool false]) w := by kernel_rfl
theorem as13 (v : Value) (w : World) : (Instr.typeAssert (.iface 170 (.agg #[v])) 166 173 true).run Tryz.prog w = .ok (.tuple #[.agg #[.string ⟨#[]⟩], .bool false]) w := by kernel_rfl
theorem as14 (v : Value) (w : World) : (Instr.typeAssert (.iface 170 (.agg #[v])) 166 174 true).run Tryz.prog w = .ok (.tuple #[.agg #[.string ⟨#[]⟩], .bool false]) w := by kernel_rfl
theorem as21 (v : Value) (w : World) : (Instr.typeAssert (.iface 171 (.agg #[v])) 166 170 true).run Tryz.prog w = .ok (.tuple #[.agg #[.string ⟨#[]⟩], .bool false]) w := by kernel_rfl
theorem as22 (v : Value) (w : World) : (Instr.typeAssert (.iface 171 (.agg #[v])) 166 171 true).run Tryz.prog w = .ok (.tuple #[.agg #[v], .bool true]) w := by kernel_rfl
theorem as23 (v : Value) (w : World) : (Instr.typeAssert (.iface 171 (.agg #[v])) 166 173 true).run Tryz.prog w = .ok (.tuple #[.agg #[.string ⟨#[]⟩], .bool false]) w := by kernel_rfl
theorem as24 (v : Value) (w : World) : (Instr.typeAssert (.iface 171 (.agg #[v])) 166 174 true).run Tryz.prog w = .ok (.tuple #[.agg #[.string ⟨#[]⟩], .bool false]) w := by kernel_rfl
theorem as31 (v : Value) (w : World) : (Instr.typeAssert (.iface 173 (.agg #[v])) 166 170 true).run Tryz.prog w = .ok (.tuple #[.agg #[.string ⟨#[]⟩], .bool false]) w := by kernel_rfl
theorem as32 (v : Value) (w : World) : (Instr.typeAssert (.iface 173 (.agg #[v])) 166 171 true).run Tryz.prog w = .ok (.tuple #[.agg #[.string ⟨#[]⟩], .bool false]) w := by kernel_rfl
theorem as33 (v : Value) (w : World) : (Instr.typeAssert (.iface 173 (.agg #[v])) 166 173 true).run Tryz.prog w = .ok (.tuple #[.agg #[v], .bool true]) w := by kernel_rfl
theorem as34 (v : Value) (w : World) : (Instr.typeAssert (.iface 173 (.agg #[v])) 166 174 true).run Tryz.prog w = .ok (.tuple #[.agg #[.string ⟨#[]⟩], .bool false]) w := by kernel_rfl
theorem as41 (v : Value) (w : World) : (Instr.typeAssert (.iface 174 (.agg #[v])) 166 170 true).run Tryz.prog w = .ok (.tuple #[.agg #[.string ⟨#[]⟩], .bool false]) w := by kernel_rfl
theorem as42 (v : Value) (w : World) : (Instr.typeAssert (.iface 174 (.agg #[v])) 166 171 true).run Tryz.prog w = .ok (.tuple #[.agg #[.string ⟨#[]⟩], .bool false]) w := by kernel_rfl
theorem as43 (v : Value) (w : World) : (Instr.typeAssert (.iface 174 (.agg #[v])) 166 173 true).run Tryz.prog w = .ok (.tuple #[.agg #[.string ⟨#[]⟩], .bool false]) w := by kernel_rfl
theorem as44 (v : Value) (w : World) : (Instr.typeAssert (.iface 174 (.agg #[v])) 166 174 true).run Tryz.prog w = .ok (.tuple #[.agg #[v], .bool true]) w := by kernel_rfl
set_option maxRecDepth 100000 in
theorem implKindOf1 (s : ByteArray) (hs : s.size ≤ 2097152) (w : World) (r : List UInt8) (hsh : shape s.data.toList = some (1, r)) :
    Calls Tryz.prog 95 #[.string s] w fun e w' => e = .returned (.int .i64 (kindL s.data.toList)) ∧ Below w.heap.size w w' := by
  have C := implTermOf1 s hs w r hsh
  have hkl : kindL s.data.toList = if kindOk 1 r then 1 else 0 := by unfold kindL; rw [hsh]
  rw [hkl]
  clear hsh hkl
  have a1 := as11 (.string (bs r))
  cases hk : kindOk 1 r
  all_goals
    rw [hk] at C
    simp only [Bool.false_eq_true, ↓reduceIte] at C ⊢
    have D := Lib.hid C
    clear C hk
    go_enter Tryz.func95, Tryz.ntmps95
    go_wp2_with fail
    refine D.out.mono ?_
    rintro e w' ⟨rfl, hb⟩
    go_wp2_with fail
    go_ret
    exact ⟨rfl, hb⟩
set_option maxRecDepth 100000 in
theorem implKindOf2 (s : ByteArray) (hs : s.size ≤ 2097152) (w : World) (r : List UInt8) (hsh : shape s.data.toList = some (2, r)) :
    Calls Tryz.prog 95 #[.string s] w fun e w' => e = .returned (.int .i64 (kindL s.data.toList)) ∧ Below w.heap.size w w' := by
  have C := implTermOf2 s hs w r hsh
  have hkl : kindL s.data.toList = if kindOk 2 r then 2 else 0 := by unfold kindL; rw [hsh]
  rw [hkl]
  clear hsh hkl
  have a1 := as21 (.string (bs r))
  have a2 := as22 (.string (bs r))
  cases hk : kindOk 2 r
  all_goals
    rw [hk] at C
    simp only [Bool.false_eq_true, ↓reduceIte] at C ⊢
    have D := Lib.hid C
    clear C hk
    go_enter Tryz.func95, Tryz.ntmps95
    go_wp2_with fail
    refine D.out.mono ?_
    rintro e w' ⟨rfl, hb⟩
    go_wp2_with fail
    go_ret
    exact ⟨rfl, hb⟩
set_option maxRecDepth 100000 in
theorem implKindOf3 (s : ByteArray) (hs : s.size ≤ 2097152) (w : World) (r : List UInt8) (hsh : shape s.data.toList = some (3, r)) :
    Calls Tryz.prog 95 #[.string s] w fun e w' => e = .returned (.int .i64 (kindL s.data.toList)) ∧ Below w.heap.size w w' := by
  have C := implTermOf3 s hs w r hsh
  have hkl : kindL s.data.toList = if kindOk 3 r then 3 else 0 := by unfold kindL; rw [hsh]
  rw [hkl]
  clear hsh hkl
  have a1 := as31 (.string (bs r))
  have a2 := as32 (.string (bs r))
  have a3 := as33 (.string (bs r))
  cases hk : kindOk 3 r
  all_goals
    rw [hk] at C
    simp only [Bool.false_eq_true, ↓reduceIte] at C ⊢
    have D := Lib.hid C
    clear C hk
    go_enter Tryz.func95, Tryz.ntmps95
    go_wp2_with fail
    refine D.out.mono ?_
    rintro e w' ⟨rfl, hb⟩
    go_wp2_with fail
    go_ret
    exact ⟨rfl, hb⟩
set_option maxRecDepth 100000 in
theorem implKindOf4 (s : ByteArray) (hs : s.size ≤ 2097152) (w : World) (r : List UInt8) (hsh : shape s.data.toList = some (4, r)) :
    Calls Tryz.prog 95 #[.string s] w fun e w' => e = .returned (.int .i64 (kindL s.data.toList)) ∧ Below w.heap.size w w' := by
  have C := implTermOf4 s hs w r hsh
  have hkl : kindL s.data.toList = if kindOk 4 r then 4 else 0 := by unfold kindL; rw [hsh]
  rw [hkl]
  clear hsh hkl
  have a1 := as41 (.string (bs r))
  have a2 := as42 (.string (bs r))
  have a3 := as43 (.string (bs r))
  have a4 := as44 (.string (bs r))
  cases hk : kindOk 4 r
  all_goals
    rw [hk] at C
    simp only [Bool.false_eq_true, ↓reduceIte] at C ⊢
    have D := Lib.hid C
    clear C hk
    go_enter Tryz.func95, Tryz.ntmps95
    go_wp2_with fail
    refine D.out.mono ?_
    rintro e w' ⟨rfl, hb⟩
    go_wp2_with fail
    go_ret
    exact ⟨rfl, hb⟩
set_option maxRecDepth 100000 in
theorem implKindOf (s : ByteArray) (hs : s.size ≤ 2097152) (w : World) :
    Calls Tryz.prog 95 #[.string s] w fun e w' => e = .returned (.int .i64 (kindL s.data.toList)) ∧ Below w.heap.size w w' := by
  rcases hsh : shape s.data.toList with _ | ⟨k, r⟩
  · have C := implTermOf0 s hs w hsh
    have hkl : kindL s.data.toList = 0 := by unfold kindL; rw [hsh]
    rw [hkl]
    have D := Lib.hid C
    clear C hsh hkl
    go_enter Tryz.func95, Tryz.ntmps95
    go_wp2_with fail
    refine D.out.mono ?_
    rintro e w' ⟨rfl, hb⟩
    go_wp2_with fail
    go_ret
    exact ⟨rfl, hb⟩
  · have h := shape_len hsh
    obtain rfl | rfl | rfl | rfl : k = 1 ∨ k = 2 ∨ k = 3 ∨ k = 4 := by omega
    · exact implKindOf1 s hs w r hsh
    · exact implKindOf2 s hs w r hsh
    · exact implKindOf3 s hs w r hsh
    · exact implKindOf4 s hs w r hsh
end Go.Proofs.YtiajdnhmjdfeeaaGreat
/- What kind a word is, told by its first byte. -/
namespace Go.Proofs.YtiajdnhmjdfeeaaGreat
theorem has_first (x a : UInt8) (r : List UInt8) : Lib.hasPrefix (x :: r) [a] = decide (x = a) := by
  unfold Lib.hasPrefix
  rw [Bool.eq_iff_iff]
  simp [List.isPrefixOf]
  exact eq_comm
theorem has_last (r : List UInt8) (b : UInt8) : Lib.hasSuffix r [b] = decide (r.getLast? = some b) := by
  unfold Lib.hasSuffix
  rw [Bool.eq_iff_iff, List.isSuffixOf_iff_suffix, decide_eq_true_eq]
  constructor
  · rintro ⟨t, rfl⟩
    simp
  · intro h
    obtain ⟨t, rfl⟩ := List.getLast?_eq_some_iff.1 h
    exact ⟨t, rfl⟩
theorem inner_cons (x : UInt8) (r : List UInt8) (a b : UInt8) : inner (x :: r) a b = if x = a ∧ r.getLast? = some b then some r.dropLast else none := by
  unfold inner
  rw [has_first]
  by_cases h : x = a
  · have e : Lib.trimPrefix (x :: r) [a] = r := by unfold Lib.trimPrefix; rw [has_first, decide_eq_true h]; rfl
    rw [e, has_last]
    by_cases g : r.getLast? = some b
    · have e2 : Lib.trimSuffix r [b] = r.dropLast := by unfold Lib.trimSuffix; rw [has_last, decide_eq_true g, List.dropLast_eq_take]; rfl
      rw [e2]; simp [h, g]
    · simp [h, g]
  · simp [h]
theorem shape_cons (x : UInt8) (r : List UInt8) : shape (x :: r) = if x = 60 then (if r.getLast? = some 62 then some (1, r.dropLast) else none) else
    if x = 34 then (if r.getLast? = some 34 then some (2, r.dropLast) else none) else
    if x = 95 then (if r.head? = some 58 then some (3, r.drop 1) else none) else if x = 63 then some (4, r) else none := by
  unfold shape
  rw [inner_cons, inner_cons, has_first]
  have hp : Lib.hasPrefix (x :: r) [95, 58] = decide (x = 95 ∧ r.head? = some 58) := by
    unfold Lib.hasPrefix
    rw [Bool.eq_iff_iff]
    cases r with
    | nil => simp [List.isPrefixOf]
    | cons y q => simp [List.isPrefixOf]; constructor <;> (rintro ⟨h1, h2⟩; exact ⟨h1.symm, h2.symm⟩)
  rw [hp]
  by_cases h1 : x = 60
  · subst h1
    by_cases g : r.getLast? = some 62 <;> simp [g]
  by_cases h2 : x = 34
  · subst h2
    by_cases g : r.getLast? = some 34 <;> simp [g]
  by_cases h3 : x = 95
  · subst h3
    by_cases g : r.head? = some 58 <;> simp [g]
  by_cases h4 : x = 63
  · subst h4
    simp
  · simp [h1, h2, h3, h4]
theorem shape_nil : shape [] = none := by rfl
theorem textOk_some {r : List UInt8} (h : textOk r = true) : (unesc r).isSome = true := by
  unfold textOk at h
  split at h
  · rename_i t ht; rw [ht]; rfl
  · simp at h
theorem textIn_kind (l : List UInt8) : (textIn l).isSome = decide (kindL l = 2) := by
  unfold textIn kindL
  split
  · rename_i k r h
    by_cases hk : k = 2
    · subst hk
      have e : kindOk 2 r = textOk r := rfl
      cases ho : textOk r
      · simp [e, ho]
      · simp [e, ho, textOk_some ho]
    · simp only [hk, decide_false, Bool.false_and, Bool.false_eq_true, if_false, Option.isSome_none]
      symm
      rw [decide_eq_false_iff_not]
      split
      · exact hk
      · simp
  · simp
theorem kindL_cons (x : UInt8) (r : List UInt8) : kindL (x :: r) = if x = 60 then (if r.getLast? = some 62 then (if made r.dropLast 12 nameB then 1 else 0) else 0) else
    if x = 34 then (if r.getLast? = some 34 then (if textOk r.dropLast then 2 else 0) else 0) else
    if x = 95 then (if r.head? = some 58 then (if made (r.drop 1) 6 labB then 3 else 0) else 0) else if x = 63 then (if made r 6 labB then 4 else 0) else 0 := by
  unfold kindL
  rw [shape_cons]
  by_cases h1 : x = 60
  · subst h1
    by_cases g : r.getLast? = some 62 <;> simp [g, kindOk]
  by_cases h2 : x = 34
  · subst h2
    by_cases g : r.getLast? = some 34 <;> simp [g, kindOk]
  by_cases h3 : x = 95
  · subst h3
    by_cases g : r.head? = some 58 <;> simp [g, kindOk]
  by_cases h4 : x = 63
  · subst h4
    simp [kindOk]
  · simp [h1, h2, h3, h4]
theorem made_nil (m : Nat) (p : UInt8 → Bool) : made [] m p = false := rfl
theorem textIn_cons (x : UInt8) (r : List UInt8) : textIn (x :: r) = if x = 34 ∧ r.getLast? = some 34 then (if textOk r.dropLast then unesc r.dropLast else none) else none := by
  unfold textIn
  rw [shape_cons]
  by_cases h1 : x = 60
  · subst h1
    by_cases g : r.getLast? = some 62 <;> simp [g]
  by_cases h2 : x = 34
  · subst h2
    by_cases g : r.getLast? = some 34 <;> simp [g]
  by_cases h3 : x = 95
  · subst h3
    by_cases g : r.head? = some 58 <;> simp [g]
  by_cases h4 : x = 63
  · subst h4
    simp
  · simp [h1, h2, h3, h4]
/-- A text of two bytes or more: its first, what stands between, its last. -/
theorem ends (s : ByteArray) (h : 2 ≤ s.size) : s.data.toList = s[0] :: ((s.extract 1 (s.size - 1)).data.toList ++ [s[s.size - 1]]) := by
  have h0 := drop_cons s 0 (by omega)
  rw [List.drop_zero] at h0
  rw [h0, ext_toList]
  congr 1
  have h1 := take_snoc s (s.size - 1) (by omega)
  rw [show s.size - 1 + 1 = s.size from by omega, take_all s s.size (Nat.le_refl _)] at h1
  rw [h1, List.drop_append_of_le_length (by rw [List.length_take, size_len]; omega)]
  congr 1
  rw [List.take_append_of_le_length (by rw [List.length_take, size_len]; omega), List.take_take, Nat.min_self]
end Go.Proofs.YtiajdnhmjdfeeaaGreat
