/- The contracts of the program's functions on kinds: KindOf and TextIn. -/
import Derived.Test.YtkcbgppplgkkbaaGreatKind2
namespace Go.Proofs.YtkcbgppplgkkbaaGreat
open Go.RowKit
theorem meth1 (v : Value) (w : World) : (method 262 73 (.agg #[v]) "loop.example/g00420/impl.right").run Tryz.prog w = .ok (126, .agg #[v]) w := by kernel_rfl
set_option maxRecDepth 100000 in
theorem implTermOf1 (s : ByteArray) (hs : s.size ≤ 2097152) (w : World) (r : List UInt8) (hsh : shape s.data.toList = some (1, r)) :
    Calls Tryz.prog 43 #[.string s] w fun e w' => e = .returned (if kindOk 1 r then .tuple #[.iface 73 (.agg #[.string (bs r)]), .bool true] else .tuple #[.nilIface, .bool false]) ∧ Below w.heap.size w w' := by
  have hr := shape_len hsh
  rw [size_len] at hr
  have C := fun w => implUnmarked s hs w
  rw [hsh] at C
  change ∀ w, Calls _ _ _ w fun e w' => e = .returned (.tuple #[.iface 73 (.agg #[.string (bs r)]), .bool true]) ∧ w = w' at C
  have D := Lib.hid C
  have C2 := nameRight r (by omega)
  have hm := meth1 (.string (bs r))
  have hok : kindOk 1 r = made r 12 nameB := rfl
  rw [hok]
  clear C hsh hr hok
  cases hk : made r 12 nameB
  all_goals
    rw [hk] at C2
    have R := Lib.hid C2
    clear C2 hk
    go_enter Tryz.func43, Tryz.ntmps43
    go_wp2_with fail
    refine (D.out _).mono ?_
    rintro e w' ⟨rfl, rfl⟩
    go_wp2_with fail
    refine (R.out _).mono ?_
    rintro e w' ⟨rfl, hb⟩
    go_wp2_with fail
    go_ret2
    exact ⟨rfl, hb⟩
theorem meth2 (v : Value) (w : World) : (method 262 74 (.agg #[v]) "loop.example/g00420/impl.right").run Tryz.prog w = .ok (130, .agg #[v]) w := by kernel_rfl
set_option maxRecDepth 100000 in
theorem implTermOf2 (s : ByteArray) (hs : s.size ≤ 2097152) (w : World) (r : List UInt8) (hsh : shape s.data.toList = some (2, r)) :
    Calls Tryz.prog 43 #[.string s] w fun e w' => e = .returned (if kindOk 2 r then .tuple #[.iface 74 (.agg #[.string (bs r)]), .bool true] else .tuple #[.nilIface, .bool false]) ∧ Below w.heap.size w w' := by
  have hr := shape_len hsh
  rw [size_len] at hr
  have C := fun w => implUnmarked s hs w
  rw [hsh] at C
  change ∀ w, Calls _ _ _ w fun e w' => e = .returned (.tuple #[.iface 74 (.agg #[.string (bs r)]), .bool true]) ∧ w = w' at C
  have D := Lib.hid C
  have C2 := textRight r (by omega)
  have hm := meth2 (.string (bs r))
  have hok : kindOk 2 r = textOk r := rfl
  rw [hok]
  clear C hsh hr hok
  cases hk : textOk r
  all_goals
    rw [hk] at C2
    have R := Lib.hid C2
    clear C2 hk
    go_enter Tryz.func43, Tryz.ntmps43
    go_wp2_with fail
    refine (D.out _).mono ?_
    rintro e w' ⟨rfl, rfl⟩
    go_wp2_with fail
    refine (R.out _).mono ?_
    rintro e w' ⟨rfl, hb⟩
    go_wp2_with fail
    go_ret2
    exact ⟨rfl, hb⟩
theorem meth3 (v : Value) (w : World) : (method 262 76 (.agg #[v]) "loop.example/g00420/impl.right").run Tryz.prog w = .ok (134, .agg #[v]) w := by kernel_rfl
set_option maxRecDepth 100000 in
theorem implTermOf3 (s : ByteArray) (hs : s.size ≤ 2097152) (w : World) (r : List UInt8) (hsh : shape s.data.toList = some (3, r)) :
    Calls Tryz.prog 43 #[.string s] w fun e w' => e = .returned (if kindOk 3 r then .tuple #[.iface 76 (.agg #[.string (bs r)]), .bool true] else .tuple #[.nilIface, .bool false]) ∧ Below w.heap.size w w' := by
  have hr := shape_len hsh
  rw [size_len] at hr
  have C := fun w => implUnmarked s hs w
  rw [hsh] at C
  change ∀ w, Calls _ _ _ w fun e w' => e = .returned (.tuple #[.iface 76 (.agg #[.string (bs r)]), .bool true]) ∧ w = w' at C
  have D := Lib.hid C
  have C2 := blankRight r (by omega)
  have hm := meth3 (.string (bs r))
  have hok : kindOk 3 r = made r 6 labB := rfl
  rw [hok]
  clear C hsh hr hok
  cases hk : made r 6 labB
  all_goals
    rw [hk] at C2
    have R := Lib.hid C2
    clear C2 hk
    go_enter Tryz.func43, Tryz.ntmps43
    go_wp2_with fail
    refine (D.out _).mono ?_
    rintro e w' ⟨rfl, rfl⟩
    go_wp2_with fail
    refine (R.out _).mono ?_
    rintro e w' ⟨rfl, hb⟩
    go_wp2_with fail
    go_ret2
    exact ⟨rfl, hb⟩
theorem meth4 (v : Value) (w : World) : (method 262 77 (.agg #[v]) "loop.example/g00420/impl.right").run Tryz.prog w = .ok (135, .agg #[v]) w := by kernel_rfl
set_option maxRecDepth 100000 in
theorem implTermOf4 (s : ByteArray) (hs : s.size ≤ 2097152) (w : World) (r : List UInt8) (hsh : shape s.data.toList = some (4, r)) :
    Calls Tryz.prog 43 #[.string s] w fun e w' => e = .returned (if kindOk 4 r then .tuple #[.iface 77 (.agg #[.string (bs r)]), .bool true] else .tuple #[.nilIface, .bool false]) ∧ Below w.heap.size w w' := by
  have hr := shape_len hsh
  rw [size_len] at hr
  have C := fun w => implUnmarked s hs w
  rw [hsh] at C
  change ∀ w, Calls _ _ _ w fun e w' => e = .returned (.tuple #[.iface 77 (.agg #[.string (bs r)]), .bool true]) ∧ w = w' at C
  have D := Lib.hid C
  have C2 := varRight r (by omega)
  have hm := meth4 (.string (bs r))
  have hok : kindOk 4 r = made r 6 labB := rfl
  rw [hok]
  clear C hsh hr hok
  cases hk : made r 6 labB
  all_goals
    rw [hk] at C2
    have R := Lib.hid C2
    clear C2 hk
    go_enter Tryz.func43, Tryz.ntmps43
    go_wp2_with fail
    refine (D.out _).mono ?_
    rintro e w' ⟨rfl, rfl⟩
    go_wp2_with fail
    refine (R.out _).mono ?_
    rintro e w' ⟨rfl, hb⟩
    go_wp2_with fail
    go_ret2
    exact ⟨rfl, hb⟩
set_option maxRecDepth 100000 in
theorem implTermOf0 (s : ByteArray) (hs : s.size ≤ 2097152) (w : World) (hsh : shape s.data.toList = none) :
    Calls Tryz.prog 43 #[.string s] w fun e w' => e = .returned (.tuple #[.nilIface, .bool false]) ∧ Below w.heap.size w w' := by
  have C := fun w => implUnmarked s hs w
  rw [hsh] at C
  have D := Lib.hid C
  clear C hsh
  go_enter Tryz.func43, Tryz.ntmps43
  go_wp2_with fail
  refine (D.out _).mono ?_
  rintro e w' ⟨rfl, rfl⟩
  go_wp2_with fail
  go_ret2
  exact ⟨rfl, Below.refl _ _⟩
theorem as11 (v : Value) (w : World) : (Instr.typeAssert (.iface 73 (.agg #[v])) 69 73 true).run Tryz.prog w = .ok (.tuple #[.agg #[v], .bool true]) w := by kernel_rfl
theorem as12 (v : Value) (w : World) : (Instr.typeAssert (.iface 73 (.agg #[v])) 69 74 true).run Tryz.prog w = .ok (.tuple #[.agg #[.string ⟨#[]⟩], .bool false]) w := by kernel_rfl
theorem as13 (v : Value) (w : World) : (Instr.typeAssert (.iface 73 (.agg #[v])) 69 76 true).run Tryz.prog w = .ok (.tuple #[.agg #[.string ⟨#[]⟩], .bool false]) w := by kernel_rfl
theorem as14 (v : Value) (w : World) : (Instr.typeAssert (.iface 73 (.agg #[v])) 69 77 true).run Tryz.prog w = .ok (.tuple #[.agg #[.string ⟨#[]⟩], .bool false]) w := by kernel_rfl
theorem as21 (v : Value) (w : World) : (Instr.typeAssert (.iface 74 (.agg #[v])) 69 73 true).run Tryz.prog w = .ok (.tuple #[.agg #[.string ⟨#[]⟩], .bool false]) w := by kernel_rfl
theorem as22 (v : Value) (w : World) : (Instr.typeAssert (.iface 74 (.agg #[v])) 69 74 true).run Tryz.prog w = .ok (.tuple #[.agg #[v], .bool true]) w := by kernel_rfl
theorem as23 (v : Value) (w : World) : (Instr.typeAssert (.iface 74 (.agg #[v])) 69 76 true).run Tryz.prog w = .ok (.tuple #[.agg #[.string ⟨#[]⟩], .bool false]) w := by kernel_rfl
theorem as24 (v : Value) (w : World) : (Instr.typeAssert (.iface 74 (.agg #[v])) 69 77 true).run Tryz.prog w = .ok (.tuple #[.agg #[.string ⟨#[]⟩], .bool false]) w := by kernel_rfl
theorem as31 (v : Value) (w : World) : (Instr.typeAssert (.iface 76 (.agg #[v])) 69 73 true).run Tryz.prog w = .ok (.tuple #[.agg #[.string ⟨#[]⟩], .bool false]) w := by kernel_rfl
theorem as32 (v : Value) (w : World) : (Instr.typeAssert (.iface 76 (.agg #[v])) 69 74 true).run Tryz.prog w = .ok (.tuple #[.agg #[.string ⟨#[]⟩], .bool false]) w := by kernel_rfl
theorem as33 (v : Value) (w : World) : (Instr.typeAssert (.iface 76 (.agg #[v])) 69 76 true).run Tryz.prog w = .ok (.tuple #[.agg #[v], .bool true]) w := by kernel_rfl
theorem as34 (v : Value) (w : World) : (Instr.typeAssert (.iface 76 (.agg #[v])) 69 77 true).run Tryz.prog w = .ok (.tuple #[.agg #[.string ⟨#[]⟩], .bool false]) w := by kernel_rfl
theorem as41 (v : Value) (w : World) : (Instr.typeAssert (.iface 77 (.agg #[v])) 69 73 true).run Tryz.prog w = .ok (.tuple #[.agg #[.string ⟨#[]⟩], .bool false]) w := by kernel_rfl
theorem as42 (v : Value) (w : World) : (Instr.typeAssert (.iface 77 (.agg #[v])) 69 74 true).run Tryz.prog w = .ok (.tuple #[.agg #[.string ⟨#[]⟩], .bool false]) w := by kernel_rfl
theorem as43 (v : Value) (w : World) : (Instr.typeAssert (.iface 77 (.agg #[v])) 69 76 true).run Tryz.prog w = .ok (.tuple #[.agg #[.string ⟨#[]⟩], .bool false]) w := by kernel_rfl
theorem as44 (v : Value) (w : World) : (Instr.typeAssert (.iface 77 (.agg #[v])) 69 77 true).run Tryz.prog w = .ok (.tuple #[.agg #[v], .bool true]) w := by kernel_rfl
set_option maxRecDepth 100000 in
theorem implKindOf1 (s : ByteArray) (hs : s.size ≤ 2097152) (w : World) (r : List UInt8) (hsh : shape s.data.toList = some (1, r)) :
    Calls Tryz.prog 24 #[.string s] w fun e w' => e = .returned (.int .i64 (kindL s.data.toList)) ∧ Below w.heap.size w w' := by
  have C := implTermOf1 s hs w r hsh
  have hkl : kindL s.data.toList = if kindOk 1 r then 1 else 0 := by unfold kindL; rw [hsh]
  rw [hkl]
  clear hsh hkl
  have a1 := as11 (.string (bs r))
  cases hk : kindOk 1 r
  all_goals
    rw [hk] at C
    simp only [Bool.false_eq_true, ↓reduceIte] at C ⊢
    have D := Lib.hid C
    clear C hk
    go_enter Tryz.func24, Tryz.ntmps24
    go_wp2_with fail
    refine D.out.mono ?_
    rintro e w' ⟨rfl, hb⟩
    go_wp2_with fail
    go_ret
    exact ⟨rfl, hb⟩
set_option maxRecDepth 100000 in
theorem implKindOf2 (s : ByteArray) (hs : s.size ≤ 2097152) (w : World) (r : List UInt8) (hsh : shape s.data.toList = some (2, r)) :
    Calls Tryz.prog 24 #[.string s] w fun e w' => e = .returned (.int .i64 (kindL s.data.toList)) ∧ Below w.heap.size w w' := by
  have C := implTermOf2 s hs w r hsh
  have hkl : kindL s.data.toList = if kindOk 2 r then 2 else 0 := by unfold kindL; rw [hsh]
  rw [hkl]
  clear hsh hkl
  have a1 := as21 (.string (bs r))
  have a2 := as22 (.string (bs r))
  cases hk : kindOk 2 r
  all_goals
    rw [hk] at C
    simp only [Bool.false_eq_true, ↓reduceIte] at C ⊢
    have D := Lib.hid C
    clear C hk
    go_enter Tryz.func24, Tryz.ntmps24
    go_wp2_with fail
    refine D.out.mono ?_
    rintro e w' ⟨rfl, hb⟩
    go_wp2_with fail
    go_ret
    exact ⟨rfl, hb⟩
set_option maxRecDepth 100000 in
theorem implKindOf3 (s : ByteArray) (hs : s.size ≤ 2097152) (w : World) (r : List UInt8) (hsh : shape s.data.toList = some (3, r)) :
    Calls Tryz.prog 24 #[.string s] w fun e w' => e = .returned (.int .i64 (kindL s.data.toList)) ∧ Below w.heap.size w w' := by
  have C := implTermOf3 s hs w r hsh
  have hkl : kindL s.data.toList = if kindOk 3 r then 3 else 0 := by unfold kindL; rw [hsh]
  rw [hkl]
  clear hsh hkl
  have a1 := as31 (.string (bs r))
  have a2 := as32 (.string (bs r))
  have a3 := as33 (.string (bs r))
  cases hk : kindOk 3 r
  all_goals
    rw [hk] at C
    simp only [Bool.false_eq_true, ↓reduceIte] at C ⊢
    have D := Lib.hid C
    clear C hk
    go_enter Tryz.func24, Tryz.ntmps24
    go_wp2_with fail
    refine D.out.mono ?_
    rintro e w' ⟨rfl, hb⟩
    go_wp2_with fail
    go_ret
    exact ⟨rfl, hb⟩
set_option maxRecDepth 100000 in
theorem implKindOf4 (s : ByteArray) (hs : s.size ≤ 2097152) (w : World) (r : List UInt8) (hsh : shape s.data.toList = some (4, r)) :
    Calls Tryz.prog 24 #[.string s] w fun e w' => e = .returned (.int .i64 (kindL s.data.toList)) ∧ Below w.heap.size w w' := by
  have C := implTermOf4 s hs w r hsh
  have hkl : kindL s.data.toList = if kindOk 4 r then 4 else 0 := by unfold kindL; rw [hsh]
  rw [hkl]
  clear hsh hkl
  have a1 := as41 (.string (bs r))
  have a2 := as42 (.string (bs r))
  have a3 := as43 (.string (bs r))
  have a4 := as44 (.string (bs r))
  cases hk : kindOk 4 r
  all_goals
    rw [hk] at C
    simp only [Bool.false_eq_true, ↓reduceIte] at C ⊢
    have D := Lib.hid C
    clear C hk
    go_enter Tryz.func24, Tryz.ntmps24
    go_wp2_with fail
    refine D.out.mono ?_
    rintro e w' ⟨rfl, hb⟩
    go_wp2_with fail
    go_ret
    exact ⟨rfl, hb⟩
set_option maxRecDepth 100000 in
theorem implKindOf (s : ByteArray) (hs : s.size ≤ 2097152) (w : World) :
    Calls Tryz.prog 24 #[.string s] w fun e w' => e = .returned (.int .i64 (kindL s.data.toList)) ∧ Below w.heap.size w w' := by
  rcases hsh : shape s.data.toList with _ | ⟨k, r⟩
  · have C := implTermOf0 s hs w hsh
    have hkl : kindL s.data.toList = 0 := by unfold kindL; rw [hsh]
    rw [hkl]
    have D := Lib.hid C
    clear C hsh hkl
    go_enter Tryz.func24, Tryz.ntmps24
    go_wp2_with fail
    refine D.out.mono ?_
    rintro e w' ⟨rfl, hb⟩
    go_wp2_with fail
    go_ret
    exact ⟨rfl, hb⟩
  · have h := shape_len hsh
    obtain rfl | rfl | rfl | rfl : k = 1 ∨ k = 2 ∨ k = 3 ∨ k = 4 := by omega
    · exact implKindOf1 s hs w r hsh
    · exact implKindOf2 s hs w r hsh
    · exact implKindOf3 s hs w r hsh
    · exact implKindOf4 s hs w r hsh
end Go.Proofs.YtkcbgppplgkkbaaGreat
