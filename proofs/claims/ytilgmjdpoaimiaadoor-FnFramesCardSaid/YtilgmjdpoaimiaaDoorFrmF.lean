/- The program's reading of one frame. -/
import Derived.Test.YtilgmjdpoaimiaaDoorFrmI
import Derived.Test.YtilgmjdpoaimiaaDoorShelf
namespace Go.Proofs.YtilgmjdpoaimiaaDoor
open Go.RowKit
def firstV (o : Option (List UInt8)) : Value := .tuple #[.string (bs (o.getD [])), .bool o.isSome]
theorem firstL_by {s : List UInt8} {n : Nat} (h8 : ¬ s.length < 8) (hn : num4 (s.getD 0 0) (s.getD 1 0) (s.getD 2 0) (s.getD 3 0) = n) (h1 : n ≤ 100000) (h2 : 8 + n ≤ s.length) :
    firstL s = if Lib.hasPrefix s (frameL ((s.drop 8).take n)) then some ((s.drop 8).take n) else none := by
  obtain ⟨a, b, c, f, e, r, hs, he, g0, g1, g2, g3, gd, ge⟩ := first_parts s h8
  unfold firstL
  rw [hn, gd, ge, if_neg h8, if_neg (by omega)]
  rw [g0, g1, g2, g3] at hn
  have hl : s.length = 8 + r.length := by rw [hs]; simp only [List.length_cons, List.length_append, he]; omega
  have hdl : (r.take n).length = n := by rw [List.length_take]; omega
  have e1 : frameL (r.take n) = a :: b :: c :: f :: (low4 (crcL (r.take n)).toNat ++ r.take n) := by
    unfold frameL headL
    rw [hdl, if_neg (by omega), ← hn, bytes4_num]
    rfl
  have hp : Lib.hasPrefix s (frameL (r.take n)) = decide (low4 (crcL (r.take n)).toNat = e) := by
    unfold Lib.hasPrefix
    rw [e1, hs, Bool.eq_iff_iff, List.isPrefixOf_iff_prefix, decide_eq_true_iff]
    simp only [List.cons_prefix_cons, true_and]
    constructor
    · rintro ⟨t, ht⟩
      rw [List.append_assoc] at ht
      exact (List.append_inj ht (by rw [he]; rfl)).1
    · intro h
      rw [h]
      exact List.prefix_append_right_inj e |>.2 (List.take_prefix n r)
  rw [hp]
  by_cases h : low4 (crcL (r.take n)).toNat = e <;> simp [h]
theorem firstL_over {s : List UInt8} {n : Nat} (hn : num4 (s.getD 0 0) (s.getD 1 0) (s.getD 2 0) (s.getD 3 0) = n) (h : 100000 < n ∨ s.length < 8 + n) : firstL s = none := by
  unfold firstL
  rw [hn]
  split
  · rfl
  · rfl
theorem or_nat (x y : Nat) (hx : x < 9223372036854775808) (hy : y < 9223372036854775808) : bits .or .i64 (x : Int) (y : Int) = ((x ||| y : Nat) : Int) := by
  show IntKind.i64.wrap (((BitVec.ofInt 64 (x : Int)) ||| (BitVec.ofInt 64 (y : Int))).toNat : Int) = _
  have h : x ||| y < 9223372036854775808 := Nat.or_lt_two_pow (n := 63) hx hy
  rw [BitVec.toNat_or, BitVec.ofInt_natCast, BitVec.ofInt_natCast, BitVec.toNat_ofNat, BitVec.toNat_ofNat, Nat.mod_eq_of_lt (by omega), Nat.mod_eq_of_lt (by omega), IntKind.wrap_i64]
  omega
theorem or_add (x y k m : Nat) (hm : m = 2 ^ k) (hy : y < m) : x * m ||| y = x * m + y := by
  subst hm
  have := Nat.shiftLeft_add_eq_or_of_lt hy x
  rw [Nat.shiftLeft_eq] at this
  exact this.symm
set_option maxRecDepth 100000 in
theorem or_num4 (a b c d : UInt8) : bits .or .i64 (bits .or .i64 (bits .or .i64 (wrap64 (wrap64 (a.toNat : Int) * 16777216)) (wrap64 (wrap64 (b.toNat : Int) * 65536))) (wrap64 (wrap64 (c.toNat : Int) * 256))) (wrap64 (d.toNat : Int)) = (num4 a b c d : Int) := by
  have ha := a.toNat_lt; have hb := b.toNat_lt; have hc := c.toNat_lt; have hd := d.toNat_lt
  have w : ∀ x : Int, 0 ≤ x → x < 9223372036854775808 → wrap64 x = x := fun x h0 h1 => by unfold wrap64; omega
  unfold num4
  generalize a.toNat = a at ha ⊢
  generalize b.toNat = b at hb ⊢
  generalize c.toNat = c at hc ⊢
  generalize d.toNat = d at hd ⊢
  rw [w a (by omega) (by omega), w b (by omega) (by omega), w c (by omega) (by omega), w d (by omega) (by omega), w _ (by omega) (by omega), w _ (by omega) (by omega), w _ (by omega) (by omega)]
  have e1 : ((a : Int) * 16777216) = ((a * 16777216 : Nat) : Int) := by omega
  have e2 : ((b : Int) * 65536) = ((b * 65536 : Nat) : Int) := by omega
  have e3 : ((c : Int) * 256) = ((c * 256 : Nat) : Int) := by omega
  have h1 : b * 65536 < 16777216 := by omega
  have h2 : c * 256 < 65536 := by omega
  obtain ⟨x, hx⟩ : ∃ x, a * 256 + b = x := ⟨_, rfl⟩
  have hx2 : x < 65536 := by omega
  obtain ⟨y, hy⟩ : ∃ y, x * 256 + c = y := ⟨_, rfl⟩
  have hy2 : y < 16777216 := by omega
  have e4 : a * 16777216 + b * 65536 = x * 65536 := by rw [← hx]; simp only [Nat.add_mul, Nat.mul_assoc, Nat.reduceMul]
  have e5 : x * 65536 + c * 256 = y * 256 := by rw [← hy]; simp only [Nat.add_mul, Nat.mul_assoc, Nat.reduceMul]
  have b1 : a * 16777216 < 9223372036854775808 := Nat.lt_trans (Nat.mul_lt_mul_of_pos_right ha (by decide : 0 < 16777216)) (by decide)
  have b2 : b * 65536 < 9223372036854775808 := Nat.lt_trans h1 (by decide)
  have b3 : x * 65536 < 9223372036854775808 := Nat.lt_trans (Nat.mul_lt_mul_of_pos_right hx2 (by decide : 0 < 65536)) (by decide)
  have b4 : c * 256 < 9223372036854775808 := Nat.lt_trans h2 (by decide)
  have b5 : y * 256 < 9223372036854775808 := Nat.lt_trans (Nat.mul_lt_mul_of_pos_right hy2 (by decide : 0 < 256)) (by decide)
  have b6 : d < 9223372036854775808 := by clear e1 e2 e3 e4 e5 hx hy w; omega
  rw [hx, hy, e1, e2, e3, or_nat _ _ b1 b2, or_add a (b * 65536) 24 16777216 rfl h1, e4, or_nat _ _ b3 b4, or_add x (c * 256) 16 65536 rfl h2, e5, or_nat _ _ b5 b6, or_add y d 8 256 rfl hd]
theorem at_get (s : ByteArray) (k : Nat) (h : k < s.size) : s.data.toList.getD k 0 = s[k] := by
  rw [List.getD_eq_getElem?_getD, List.getElem?_eq_getElem (by rw [size_len]; exact h)]
  rfl
theorem below_drewN {B : Nat} {w w' : World} (h : Below B w w') : ∀ n : Nat, Below B w (w'.drewN n) := by
  intro n
  have e : (w'.drewN n).heap = w'.heap := rfl
  exact ⟨h.os, h.tape, h.output, h.size, h.block⟩
set_option maxHeartbeats 1600000 in
theorem implFirst (s : ByteArray) (w : World) (hs : s.size ≤ 2097152) (ht : CrcT w) :
    Calls Tryd.prog 21 #[.string s] w fun e w' => e = .returned (firstV (firstL s.data.toList)) ∧ Below w.heap.size w w' := by
  by_cases hb : (s.size : Int) < 8
  · go_enter Tryd.func21, Tryd.ntmps21
    go_wp2_with fail
    go_ret2
    exact ⟨by rw [firstL_short (by rw [size_len]; omega)]; rfl, Below.refl _ _⟩
  · have k0 : 0 < s.size := by omega
    have k1 : 1 < s.size := by omega
    have k2 : 2 < s.size := by omega
    have k3 : 3 < s.size := by omega
    have j1 : (1 : Int) < s.size := by omega
    have j2 : (2 : Int) < s.size := by omega
    have j3 : (3 : Int) < s.size := by omega
    go_enter Tryd.func21, Tryd.ntmps21
    go_wp2_with fail
    go_quiet (fail)
    rw [or_num4 s[0] s[1] s[2] s[3]]
    have HN := Lib.hid (show num4 (s.data.toList.getD 0 0) (s.data.toList.getD 1 0) (s.data.toList.getD 2 0) (s.data.toList.getD 3 0) = num4 s[0] s[1] s[2] s[3] by rw [at_get s 0 k0, at_get s 1 k1, at_get s 2 k2, at_get s 3 k3])
    have hlt := num4_lt s[0] s[1] s[2] s[3]
    generalize num4 s[0] s[1] s[2] s[3] = n at HN hlt
    by_cases h1 : (100000 : Int) < n
    · go_wp2_with fail
      go_ret2
      exact ⟨by rw [firstL_over HN.out (by omega)]; rfl, below_drewN (Below.refl _ _) _⟩
    by_cases h2 : (s.size : Int) - 8 < n
    · go_wp2_with fail
      go_ret2
      exact ⟨by rw [firstL_over HN.out (by rw [size_len]; omega)]; rfl, below_drewN (Below.refl _ _) _⟩
    have HF := Lib.hid (firstL_by (s := s.data.toList) (by rw [size_len]; omega) HN.out (by omega) (by rw [size_len]; omega))
    go_wp2_with fail
    have BD : Below w.heap.size w (w.drewN nq) := below_drewN (Below.refl _ _) _
    have h0 : 0 < w.heap.size := ht.1
    have hx : (s.extract 8 (8 + n)).data.toList = (s.data.toList.drop 8).take n := by
      rw [ext_toList, List.drop_take]
      congr 1
      omega
    refine (implFrameOf (s.extract 8 (8 + n)) _ (by rw [ByteArray.size_extract]; omega) (ht.next BD h0 (Nat.le_refl _))).mono ?_
    rintro e w1 ⟨rfl, hb1⟩
    rw [hx]
    have B1 := BD.trans (hb1.mono BD.size)
    have HX := Lib.hid (bs_of (s.extract 8 (8 + n)))
    rw [hx] at HX
    clear hx hb1
    cases hp : Lib.hasPrefix s.data.toList (frameL ((s.data.toList.drop 8).take n))
    · rw [hp] at HF
      have C := fun w => Tryd.strings_HasPrefix s (bs (frameL ((s.data.toList.drop 8).take n))) w
      rw [bs_toList, hp] at C
      have HC := Lib.hid C
      clear C hp
      go_wp2_with fail
      refine (HC.out _).mono ?_
      rintro e w2 ⟨rfl, rfl⟩
      go_wp2_with fail
      go_ret2
      exact ⟨by rw [HF.out]; rfl, B1⟩
    · rw [hp] at HF
      have C := fun w => Tryd.strings_HasPrefix s (bs (frameL ((s.data.toList.drop 8).take n))) w
      rw [bs_toList, hp] at C
      have HC := Lib.hid C
      clear C hp
      go_wp2_with fail
      refine (HC.out _).mono ?_
      rintro e w2 ⟨rfl, rfl⟩
      go_wp2_with fail
      go_ret2
      exact ⟨by rw [HF.out, ← HX.out]; rfl, B1⟩
end Go.Proofs.YtilgmjdpoaimiaaDoor
