/- Frames, plainly: the sum by bits and by a table of sixteen, four bytes of a number, what a frame is and what is read as frames. -/
import Derived.Test.YtilgmjdpoaimiaaDoorFrame
namespace Go.Proofs.YtilgmjdpoaimiaaDoor
open Go.RowKit
def crcBit (c : BitVec 32) : BitVec 32 := if c.toNat % 2 = 1 then (c >>> 1) ^^^ 3988292384#32 else c >>> 1
def crcBits : Nat → BitVec 32 → BitVec 32
  | 0, c => c
  | n + 1, c => crcBits n (crcBit c)
theorem crcBit_is (c : BitVec 32) : crcBit c = (c >>> 1) ^^^ (if c.getLsbD 0 then 3988292384#32 else 0#32) := by
  unfold crcBit
  have h : c.getLsbD 0 = decide (c.toNat % 2 = 1) := by
    rw [BitVec.getLsbD, Nat.testBit_zero]
  rw [h]
  by_cases hc : c.toNat % 2 = 1 <;> simp [hc]
theorem crcBit_xor (a b : BitVec 32) : crcBit (a ^^^ b) = crcBit a ^^^ crcBit b := by
  rw [crcBit_is, crcBit_is, crcBit_is, BitVec.getLsbD_xor]
  have h : (a ^^^ b) >>> 1 = (a >>> 1) ^^^ (b >>> 1) := by
    apply BitVec.eq_of_getLsbD_eq
    intro i hi
    simp
  rw [h]
  generalize a >>> 1 = x
  generalize b >>> 1 = y
  cases a.getLsbD 0 <;> cases b.getLsbD 0 <;> simp [BitVec.xor_assoc]
  · rw [BitVec.xor_comm 3988292384#32 y]
  · rw [BitVec.xor_comm y 3988292384#32, ← BitVec.xor_assoc, BitVec.xor_self, BitVec.zero_xor]
theorem crcBits_xor : ∀ (n : Nat) (a b : BitVec 32), crcBits n (a ^^^ b) = crcBits n a ^^^ crcBits n b
  | 0, _, _ => rfl
  | n + 1, a, b => by unfold crcBits; rw [crcBit_xor, crcBits_xor n]
theorem crcBits_add (m : Nat) : ∀ (n : Nat) (c : BitVec 32), crcBits (n + m) c = crcBits m (crcBits n c)
  | 0, c => by rw [Nat.zero_add]; rfl
  | n + 1, c => by
    rw [Nat.succ_add]
    exact crcBits_add m n (crcBit c)
def crcTab (n : Nat) : Nat := [0, 498536548, 997073096, 651767980, 1994146192, 1802195444, 1303535960, 1342533948, 3988292384, 4027552580, 3604390888, 3412177804, 2607071920, 2262029012, 2685067896, 3183342108].getD n 0
theorem crcBit_even {c : BitVec 32} (h : c.getLsbD 0 = false) : crcBit c = c >>> 1 := by rw [crcBit_is, h]; simp
theorem crc_high (c : BitVec 32) : crcBits 4 (c &&& 4294967280#32) = c >>> 4 := by
  have hk : ∀ k : Nat, k < 4 → ((c &&& 4294967280#32) >>> k).getLsbD 0 = false := by
    intro k hk
    rw [BitVec.getLsbD_ushiftRight, BitVec.getLsbD_and]
    have : k = 0 ∨ k = 1 ∨ k = 2 ∨ k = 3 := by omega
    rcases this with rfl | rfl | rfl | rfl <;> simp <;> intro _ <;> decide
  have h0 := hk 0 (by omega)
  have h1 := hk 1 (by omega)
  have h2 := hk 2 (by omega)
  have h3 := hk 3 (by omega)
  generalize hx : c &&& 4294967280#32 = x at h0 h1 h2 h3
  rw [BitVec.ushiftRight_zero] at h0
  unfold crcBits crcBits crcBits crcBits crcBits
  rw [crcBit_even h0, crcBit_even h1, ← BitVec.shiftRight_add, crcBit_even h2, ← BitVec.shiftRight_add, crcBit_even h3, ← BitVec.shiftRight_add, ← hx]
  apply BitVec.eq_of_getLsbD_eq
  intro i hi
  rw [BitVec.getLsbD_ushiftRight, BitVec.getLsbD_and, BitVec.getLsbD_ushiftRight]
  by_cases h : 4 + i < 32
  · have : (4294967280#32).getLsbD (1 + 1 + 1 + 1 + i) = true := by
      have : i < 28 := by omega
      revert i
      decide
    rw [this, Bool.and_true]
  · have h1 : c.getLsbD (1 + 1 + 1 + 1 + i) = false := BitVec.getLsbD_of_ge _ _ (by omega)
    have h2 : c.getLsbD (4 + i) = false := BitVec.getLsbD_of_ge _ _ (by omega)
    rw [h1]
    first | rfl | (rw [h2]; rfl)
theorem crc_low : ∀ n : Nat, n < 16 → crcBits 4 (BitVec.ofNat 32 n) = BitVec.ofNat 32 (crcTab n) := by decide
theorem crc_parts (c : BitVec 32) : c = (c &&& 4294967280#32) ^^^ (c &&& 15#32) := by
  apply BitVec.eq_of_getLsbD_eq
  intro i hi
  rw [BitVec.getLsbD_xor, BitVec.getLsbD_and, BitVec.getLsbD_and]
  have : ((4294967280#32).getLsbD i, (15#32).getLsbD i) = (true, false) ∨ ((4294967280#32).getLsbD i, (15#32).getLsbD i) = (false, true) := by
    revert i; decide
  rcases this with h | h <;> (rw [Prod.mk.injEq] at h; rw [h.1, h.2]; simp)
theorem nib_lt (c : BitVec 32) : (c &&& 15#32).toNat < 16 := by
  rw [BitVec.toNat_and]
  exact Nat.lt_of_le_of_lt Nat.and_le_right (by decide)
/-- Four bits at once, by the table. -/
theorem crc_nib (c : BitVec 32) : crcBits 4 c = (c >>> 4) ^^^ BitVec.ofNat 32 (crcTab (c &&& 15#32).toNat) := by
  conv => lhs; rw [crc_parts c]
  rw [crcBits_xor, crc_high, ← crc_low _ (nib_lt c), BitVec.ofNat_toNat, BitVec.setWidth_eq]
def crcStep (c : BitVec 32) (b : UInt8) : BitVec 32 := crcBits 8 (c ^^^ BitVec.ofNat 32 b.toNat)
theorem crcStep_nibs (c : BitVec 32) (b : UInt8) : crcStep c b = crcBits 4 (crcBits 4 (c ^^^ BitVec.ofNat 32 b.toNat)) := crcBits_add 4 4 _
def crcL (l : List UInt8) : BitVec 32 := ~~~ (l.foldl crcStep 4294967295#32)
/-! The walk's own terms. -/
theorem ofInt_nat (x : BitVec 32) : BitVec.ofInt 32 (x.toNat : Int) = x := by
  rw [BitVec.ofInt_natCast, BitVec.ofNat_toNat, BitVec.setWidth_eq]
theorem wrap_nat (x : BitVec 32) : IntKind.u32.wrap (x.toNat : Int) = (x.toNat : Int) := by
  have := x.isLt
  rw [IntKind.wrap_u32]
  omega
theorem bits_xor (a b : BitVec 32) : bits .xor .u32 (a.toNat : Int) (b.toNat : Int) = ((a ^^^ b).toNat : Int) := by
  show IntKind.u32.wrap (((BitVec.ofInt 32 (a.toNat : Int)) ^^^ (BitVec.ofInt 32 (b.toNat : Int))).toNat : Int) = _
  rw [ofInt_nat, ofInt_nat, wrap_nat]
theorem bits_and15 (a : BitVec 32) : bits .and .u32 (a.toNat : Int) 15 = ((a &&& 15#32).toNat : Int) := by
  show IntKind.u32.wrap (((BitVec.ofInt 32 (a.toNat : Int)) &&& (BitVec.ofInt 32 15)).toNat : Int) = _
  rw [ofInt_nat, show BitVec.ofInt 32 15 = 15#32 from rfl, wrap_nat]
theorem shr_div (a : BitVec 32) (k : Nat) : (a.toNat : Int) / 2 ^ k = ((a >>> k).toNat : Int) := by
  rw [BitVec.toNat_ushiftRight, Nat.shiftRight_eq_div_pow]
  simp
theorem not_xor (a : BitVec 32) : bits .xor .u32 4294967295 (a.toNat : Int) = ((~~~ a).toNat : Int) := by
  have h := bits_xor 4294967295#32 a
  rw [show ((4294967295#32).toNat : Int) = 4294967295 from rfl] at h
  rw [h, show 4294967295#32 = BitVec.allOnes 32 from rfl, BitVec.allOnes_xor]
/-! Four bytes of a number, the highest first, and what four bytes say. -/
def byteN (n k : Nat) : UInt8 := UInt8.ofNat (n / 256 ^ k)
def bytes4 (n : Nat) : List UInt8 := [byteN n 3, byteN n 2, byteN n 1, byteN n 0]
def low4 (n : Nat) : List UInt8 := [byteN n 0, byteN n 1, byteN n 2, byteN n 3]
def num4 (a b c d : UInt8) : Nat := ((a.toNat * 256 + b.toNat) * 256 + c.toNat) * 256 + d.toNat
theorem byteN_nat (n k : Nat) : (byteN n k).toNat = n / 256 ^ k % 256 := by unfold byteN; simp
theorem bytes4_num (a b c d : UInt8) : bytes4 (num4 a b c d) = [a, b, c, d] := by
  have ha := a.toNat_lt; have hb := b.toNat_lt; have hc := c.toNat_lt; have hd := d.toNat_lt
  unfold bytes4
  have e : ∀ (x : UInt8) (k : Nat), num4 a b c d / 256 ^ k % 256 = x.toNat → byteN (num4 a b c d) k = x := fun x k h => by
    apply UInt8.toNat_inj.1
    rw [byteN_nat, h]
  rw [e a 3 (by unfold num4; omega), e b 2 (by unfold num4; omega), e c 1 (by unfold num4; omega), e d 0 (by unfold num4; omega)]
theorem num4_bytes (n : Nat) (h : n < 4294967296) : num4 (byteN n 3) (byteN n 2) (byteN n 1) (byteN n 0) = n := by
  unfold num4
  rw [byteN_nat, byteN_nat, byteN_nat, byteN_nat]
  omega
theorem num4_lt (a b c d : UInt8) : num4 a b c d < 4294967296 := by
  have ha := a.toNat_lt; have hb := b.toNat_lt; have hc := c.toNat_lt; have hd := d.toNat_lt
  unfold num4; omega
/-! Frames. -/
def headL (l : List UInt8) : List UInt8 := bytes4 l.length ++ low4 (crcL l).toNat
def frameL (l : List UInt8) : List UInt8 := if 100000 < l.length then [] else headL l ++ l
theorem headL_len (l : List UInt8) : (headL l).length = 8 := rfl
/-- The data of the frame with which s begins. -/
def firstL (s : List UInt8) : Option (List UInt8) :=
  if s.length < 8 then none
  else if 100000 < num4 (s.getD 0 0) (s.getD 1 0) (s.getD 2 0) (s.getD 3 0) ∨ s.length < 8 + num4 (s.getD 0 0) (s.getD 1 0) (s.getD 2 0) (s.getD 3 0) then none
  else if low4 (crcL ((s.drop 8).take (num4 (s.getD 0 0) (s.getD 1 0) (s.getD 2 0) (s.getD 3 0)))).toNat = (s.drop 4).take 4 then some ((s.drop 8).take (num4 (s.getD 0 0) (s.getD 1 0) (s.getD 2 0) (s.getD 3 0))) else none
theorem firstL_short {s : List UInt8} (h : s.length < 8) : firstL s = none := by unfold firstL; rw [if_pos h]
theorem first_parts (s : List UInt8) (h : ¬ s.length < 8) : ∃ a b c d e r, s = a :: b :: c :: d :: (e ++ r) ∧ e.length = 4 ∧ s.getD 0 0 = a ∧ s.getD 1 0 = b ∧ s.getD 2 0 = c ∧ s.getD 3 0 = d ∧ s.drop 8 = r ∧ (s.drop 4).take 4 = e := by
  match s, h with
  | a :: b :: c :: d :: x0 :: x1 :: x2 :: x3 :: r, _ => exact ⟨a, b, c, d, [x0, x1, x2, x3], r, rfl, rfl, rfl, rfl, rfl, rfl, rfl, rfl⟩
  | [], h => simp at h
  | [_], h => simp at h
  | [_, _], h => simp at h
  | [_, _, _], h => simp at h
  | [_, _, _, _], h => simp at h
  | [_, _, _, _, _], h => simp at h
  | [_, _, _, _, _, _], h => simp at h
  | [_, _, _, _, _, _, _], h => simp at h
theorem firstL_frame (d r : List UInt8) (h : d.length ≤ 100000) : firstL (frameL d ++ r) = some d := by
  have e : frameL d = headL d ++ d := by unfold frameL; rw [if_neg (by omega)]
  rw [e]
  unfold headL bytes4 low4
  generalize hc : (crcL d).toNat = z
  have hl : ([byteN d.length 3, byteN d.length 2, byteN d.length 1, byteN d.length 0] ++ [byteN z 0, byteN z 1, byteN z 2, byteN z 3] ++ d ++ r).length = 8 + (d.length + r.length) := by
    simp only [List.length_append, List.length_cons, List.length_nil]; omega
  unfold firstL
  rw [hl, if_neg (by omega)]
  have hn : num4 (([byteN d.length 3, byteN d.length 2, byteN d.length 1, byteN d.length 0] ++ [byteN z 0, byteN z 1, byteN z 2, byteN z 3] ++ d ++ r).getD 0 0) (([byteN d.length 3, byteN d.length 2, byteN d.length 1, byteN d.length 0] ++ [byteN z 0, byteN z 1, byteN z 2, byteN z 3] ++ d ++ r).getD 1 0) (([byteN d.length 3, byteN d.length 2, byteN d.length 1, byteN d.length 0] ++ [byteN z 0, byteN z 1, byteN z 2, byteN z 3] ++ d ++ r).getD 2 0) (([byteN d.length 3, byteN d.length 2, byteN d.length 1, byteN d.length 0] ++ [byteN z 0, byteN z 1, byteN z 2, byteN z 3] ++ d ++ r).getD 3 0) = d.length := num4_bytes d.length (by omega)
  rw [hn, if_neg (by omega)]
  have hd : ([byteN d.length 3, byteN d.length 2, byteN d.length 1, byteN d.length 0] ++ [byteN z 0, byteN z 1, byteN z 2, byteN z 3] ++ d ++ r).drop 8 = d ++ r := rfl
  rw [hd, List.take_left, hc]
  exact if_pos rfl
theorem firstL_some {s d : List UInt8} (h : firstL s = some d) : d.length ≤ 100000 ∧ ∃ r, s = frameL d ++ r := by
  by_cases h8 : s.length < 8
  · rw [firstL_short h8] at h; cases h
  obtain ⟨a, b, c, f, e, r, hs, he, g0, g1, g2, g3, gd, ge⟩ := first_parts s h8
  unfold firstL at h
  rw [g0, g1, g2, g3, gd, ge, if_neg h8] at h
  generalize hn : num4 a b c f = n at h
  split at h
  · cases h
  · rename_i h1
    split at h
    · rename_i h2
      simp only [Option.some.injEq] at h
      have hl : s.length = 8 + r.length := by rw [hs]; simp only [List.length_cons, List.length_append, he]; omega
      have hdl : d.length = n := by rw [← h, List.length_take]; omega
      refine ⟨by omega, r.drop n, ?_⟩
      have e1 : frameL d = headL d ++ d := by unfold frameL; rw [if_neg (by omega)]
      rw [e1]
      unfold headL
      rw [hdl, ← hn, bytes4_num, ← h, h2, hn, List.append_assoc, List.take_append_drop, List.append_assoc]
      exact hs
    · cases h
theorem frameL_len {d : List UInt8} (h : d.length ≤ 100000) : (frameL d).length = 8 + d.length := by
  unfold frameL; rw [if_neg (by omega), List.length_append, headL_len]
/-- As many frames as there are. -/
def takeL (s : List UInt8) : List (List UInt8) :=
  match h : firstL s with
  | none => []
  | some d => d :: takeL (s.drop (8 + d.length))
termination_by s.length
decreasing_by
  obtain ⟨_, r, rfl⟩ := firstL_some h
  rename_i h1
  rw [List.length_drop, List.length_append, frameL_len h1]
  omega
theorem takeL_none {s : List UInt8} (h : firstL s = none) : takeL s = [] := by
  rw [takeL]
  split
  · rfl
  · rename_i d h'; rw [h] at h'; cases h'
theorem takeL_some {s d : List UInt8} (h : firstL s = some d) : takeL s = d :: takeL (s.drop (8 + d.length)) := by
  rw [takeL]
  split
  · rename_i h'; rw [h] at h'; cases h'
  · rename_i d' h'; rw [h] at h'; cases h'; rfl
/-- The frames of texts, one behind the other. -/
def framesL (l : List (List UInt8)) : List UInt8 := l.flatMap frameL
theorem takeL_frame (d r : List UInt8) (h : d.length ≤ 100000) : takeL (frameL d ++ r) = d :: takeL r := by
  rw [takeL_some (firstL_frame d r h)]
  congr 1
  have : 8 + d.length = (frameL d).length := (frameL_len h).symm
  rw [this, List.drop_left]
theorem takeL_frames : ∀ (l : List (List UInt8)) (r : List UInt8), (∀ d ∈ l, d.length ≤ 100000) → takeL (framesL l ++ r) = l ++ takeL r
  | [], _, _ => rfl
  | d :: l, r, h => by
    unfold framesL
    rw [List.flatMap_cons, List.append_assoc, takeL_frame d _ (h d (by simp))]
    have := takeL_frames l r (fun x hx => h x (by simp [hx]))
    unfold framesL at this
    rw [this]; rfl
theorem takeL_is (n : Nat) : ∀ s : List UInt8, s.length ≤ n → (∀ d ∈ takeL s, d.length ≤ 100000) ∧ ∃ r, s = framesL (takeL s) ++ r ∧ takeL r = [] := by
  induction n with
  | zero =>
    intro s hs
    have : firstL s = none := firstL_short (by omega)
    rw [takeL_none this]
    exact ⟨by simp, s, rfl, takeL_none this⟩
  | succ n ih =>
    intro s hs
    cases h : firstL s with
    | none =>
      rw [takeL_none h]
      exact ⟨by simp, s, rfl, takeL_none h⟩
    | some d =>
      obtain ⟨hd, r, rfl⟩ := firstL_some h
      rw [takeL_frame d r hd]
      rw [List.length_append, frameL_len hd] at hs
      obtain ⟨h1, r', h2, h3⟩ := ih r (by omega)
      refine ⟨?_, r', ?_, h3⟩
      · intro x hx
        rcases List.mem_cons.1 hx with rfl | hx
        · exact hd
        · exact h1 x hx
      · unfold framesL at h2 ⊢
        rw [List.flatMap_cons, List.append_assoc, ← h2]
/-- Of frames that are cut the first few come back. -/
theorem takeL_cut (n : Nat) : ∀ s r : List UInt8, s.length ≤ n → takeL s <+: takeL (s ++ r) := by
  induction n with
  | zero =>
    intro s r hs
    rw [takeL_none (firstL_short (by omega))]
    exact List.nil_prefix
  | succ n ih =>
    intro s r hs
    cases h : firstL s with
    | none => rw [takeL_none h]; exact List.nil_prefix
    | some d =>
      obtain ⟨hd, r', rfl⟩ := firstL_some h
      rw [List.append_assoc, takeL_frame d r' hd, takeL_frame d _ hd]
      rw [List.length_append, frameL_len hd] at hs
      exact List.cons_prefix_cons.2 ⟨rfl, ih r' r (by omega)⟩
end Go.Proofs.YtilgmjdpoaimiaaDoor
