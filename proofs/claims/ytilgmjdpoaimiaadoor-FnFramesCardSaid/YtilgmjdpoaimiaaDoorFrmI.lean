/- The program's sum of a text, by its table. -/
import Derived.Test.YtilgmjdpoaimiaaDoorFrmM
import Derived.Test.YtilgmjdpoaimiaaDoorSpecK
import Derived.Test.YtilgmjdpoaimiaaDoorBox
namespace Go.Proofs.YtilgmjdpoaimiaaDoor
open Go.RowKit
/-- The table of sixteen lies where the program's text lays it. -/
def CrcT (w : World) : Prop := 0 < w.heap.size ∧ ∀ i : Nat, i < 16 → w.cell? ⟨0, i, none⟩ = some (.int .u32 (crcTab i))
theorem CrcT.next {B : Nat} {w w' : World} (h : CrcT w) (hb : Below B w w') (h0 : 0 < B) (hs : B ≤ w.heap.size) : CrcT w' :=
  ⟨by have := hb.size; omega, fun i hi => by rw [hb.cell (p := ⟨0, i, none⟩) h0]; exact h.2 i hi⟩
theorem nib_facts (c : BitVec 32) : ∃ q n t : Nat, n < 16 ∧ t = crcTab n ∧ (c.toNat : Int) / 16 = (q : Int) ∧ bits .and .u32 (c.toNat : Int) 15 = (n : Int) ∧ bits .xor .u32 (q : Int) (t : Int) = ((crcBits 4 c).toNat : Int) := by
  refine ⟨(c >>> 4).toNat, (c &&& 15#32).toNat, _, nib_lt c, rfl, ?_, bits_and15 c, ?_⟩
  · exact shr_div c 4
  · rw [crc_nib]
    have ht : (crcTab (c &&& 15#32).toNat : Int) = ((BitVec.ofNat 32 (crcTab (c &&& 15#32).toNat)).toNat : Int) := by
      have : ∀ n : Nat, n < 16 → crcTab n = (BitVec.ofNat 32 (crcTab n)).toNat := by decide
      exact congrArg _ (this _ (nib_lt c))
    rw [ht]
    exact bits_xor _ _
theorem byte_xor (c : BitVec 32) (b : UInt8) : bits .xor .u32 (c.toNat : Int) (b.toNat : Int) = ((c ^^^ BitVec.ofNat 32 b.toNat).toNat : Int) := by
  have hb := b.toNat_lt
  have : (b.toNat : Int) = ((BitVec.ofNat 32 b.toNat).toNat : Int) := by
    rw [BitVec.toNat_ofNat, Nat.mod_eq_of_lt (by omega)]
  rw [this]
  exact bits_xor _ _
def crcTo (s : ByteArray) (k : Nat) : BitVec 32 := (s.data.toList.take k).foldl crcStep 4294967295#32
theorem crcTo_succ (s : ByteArray) (k : Nat) (h : k < s.size) : crcTo s (k + 1) = crcStep (crcTo s k) s[k] := by
  unfold crcTo
  rw [take_snoc s k h, List.foldl_append]
  rfl
set_option maxHeartbeats 1600000 in
theorem implCrc (s : ByteArray) (w : World) (hs : s.size ≤ 2097152) (ht : CrcT w) :
    Calls Tryd.prog 23 #[.string s] w fun e w' => e = .returned (.int .u32 (crcL s.data.toList).toNat) ∧ w' = w := by
  go_enter Tryd.func23, Tryd.ntmps23
  go_wp2
  go_loopw [3, 4] (fun c i wr => ∃ k : Nat, k ≤ s.size ∧ i = .int .i64 k ∧ c = .int .u32 (crcTo s k).toNat ∧ wr = w) (fun _ i _ => s.size - (intOf i).toNat)
  case atStart => exact ⟨0, Nat.zero_le _, rfl, rfl, rfl⟩
  case round =>
    obtain ⟨k, hk, rfl, rfl, rfl⟩ := hrel
    by_cases hlt : k < s.size
    · have HS := Lib.hid (crcTo_succ s k hlt)
      have E1 := byte_xor (crcTo s k) s[k]
      have HN := Lib.hid (crcStep_nibs (crcTo s k) s[k])
      have hM : (s[k].toNat : Int) % 4294967296 = (s[k].toNat : Int) := by have := s[k].toNat_lt; omega
      generalize hd : crcTo s k ^^^ BitVec.ofNat 32 s[k].toNat = d at E1 HN
      obtain ⟨q1, n1, t1, hn1, h1, D1, A1, X1⟩ := nib_facts d
      have C1 := ht.2 n1 hn1
      rw [← h1] at C1
      generalize hd2 : crcBits 4 d = d2 at X1 HN
      obtain ⟨q2, n2, t2, hn2, h2, D2, A2, X2⟩ := nib_facts d2
      have C2 := ht.2 n2 hn2
      rw [← h2] at C2
      generalize hd3 : crcBits 4 d2 = d3 at X2 HN
      rw [HN.out] at HS
      have HT := Lib.hid ht
      clear hd hd2 hd3 h1 h2 HN ht
      go_wp2
      go_roundw
      case rel => exact ⟨k + 1, by omega, by go_num, by rw [HS.out], trivial⟩
      case measure => simp [intOf]; omega
    · have e : crcTo s k = s.data.toList.foldl crcStep 4294967295#32 := by
        unfold crcTo
        rw [take_all _ _ (by omega)]
      have E : bits .xor .u32 IntKind.u32.max ((crcTo s k).toNat : Int) = ((crcL s.data.toList).toNat : Int) := by
        have := not_xor (crcTo s k)
        rw [e] at this ⊢
        exact this
      clear e
      go_wp2
      go_ret
      exact ⟨rfl, rfl⟩
theorem conv_new (l : List UInt8) (xs : Array Value) (hx : xs.toList = l.map b8) (n : Nat) (hn : l.length = n) (W : World) (T cap : Nat) :
    (convert 22 9 (.slice (some ⟨W.heap.size, 0, none⟩) n cap)).run Tryd.prog (W.alloc (.cells xs T)) = .ok (.string (bs l)) (W.alloc (.cells xs T)) := by
  subst hn
  have hb := heap_alloc_new W (.cells xs T)
  have := run_convert_bytes_arg (P := Tryd.prog) (W.alloc (.cells xs T)) 22 5 Tryd.underlying22 Tryd.underlying5 W.heap.size 0 l.length cap (l.map fun c => (c.toNat : Int)) (by simp) (fun i hi => by
    rw [Nat.zero_add]
    have e : xs[i]? = some (.int .u8 ((l.map fun c => (c.toNat : Int)).getD i 0)) := by
      rw [← Array.getElem?_toList, hx, List.getElem?_map]
      simp [List.getD, hi]
    simp only [World.cell?, hb]
    exact e) 9 Tryd.underlying9
  rw [this, strOfNums_bytes]
theorem byte_is (n k : Nat) (z : Int) (h : (n : Int) / 256 ^ k % 256 = z) : Value.int .u8 z = b8 (byteN n k) := by
  unfold b8
  rw [byteN_nat]
  congr 1
  rw [← h]
  simp
theorem conv8 (n z : Nat) (hn : n ≤ 100000) (W : World) (T : Nat) :
    (convert 22 9 (.slice (some ⟨W.heap.size, 0, none⟩) 8 8)).run Tryd.prog (W.alloc (.cells #[.int .u8 ((n : Int) / 16777216), .int .u8 ((n : Int) / 65536), .int .u8 ((n : Int) / 256 % 256), .int .u8 ((n : Int) % 256), .int .u8 ((z : Int) % 256), .int .u8 ((z : Int) / 256 % 256), .int .u8 ((z : Int) / 65536 % 256), .int .u8 ((z : Int) / 16777216 % 256)] T)) = .ok (.string (bs (bytes4 n ++ low4 z))) (W.alloc (.cells #[.int .u8 ((n : Int) / 16777216), .int .u8 ((n : Int) / 65536), .int .u8 ((n : Int) / 256 % 256), .int .u8 ((n : Int) % 256), .int .u8 ((z : Int) % 256), .int .u8 ((z : Int) / 256 % 256), .int .u8 ((z : Int) / 65536 % 256), .int .u8 ((z : Int) / 16777216 % 256)] T)) := by
  refine conv_new (bytes4 n ++ low4 z) _ ?_ 8 rfl W T 8
  rw [byte_is n 3 _ (by omega), byte_is n 2 ((n : Int) / 65536) (by omega), byte_is n 1 ((n : Int) / 256 % 256) (by omega), byte_is n 0 ((n : Int) % 256) (by omega), byte_is z 0 ((z : Int) % 256) (by omega), byte_is z 1 ((z : Int) / 256 % 256) (by omega), byte_is z 2 ((z : Int) / 65536 % 256) (by omega), byte_is z 3 ((z : Int) / 16777216 % 256) (by omega)]
  rfl
set_option maxHeartbeats 1600000 in
theorem implFrameOf (s : ByteArray) (w : World) (hs : s.size ≤ 2097152) (ht : CrcT w) :
    Calls Tryd.prog 11 #[.string s] w fun e w' => e = .returned (.string (bs (frameL s.data.toList))) ∧ Below w.heap.size w w' := by
  have HC := Lib.hid (implCrc s w hs ht)
  by_cases hb : (100000 : Int) < s.size
  · go_enter Tryd.func11, Tryd.ntmps11
    go_wp2_with fail
    go_ret
    exact ⟨by unfold frameL; rw [size_len, if_pos (by omega)]; rfl, Below.refl _ _⟩
  · go_enter Tryd.func11, Tryd.ntmps11
    go_wp2_with fail
    refine HC.out.mono ?_
    rintro e w' ⟨rfl, rfl⟩
    have HF : Hid (frameL s.data.toList = (bytes4 s.size ++ low4 (crcL s.data.toList).toNat) ++ s.data.toList) := Lib.hid (by unfold frameL headL; rw [size_len, if_neg (by omega)])
    generalize (crcL s.data.toList).toNat = z at HF
    have K := conv8 s.size z (by omega) w' 41
    generalize hh : bytes4 s.size ++ low4 z = hd at K HF
    have hl8 : (bs hd).size = 8 := by rw [← hh]; rfl
    clear hh
    go_wp2_with fail
    go_ret
    exact ⟨by rw [HF.out]; rfl, (Below.refl _ _).alloc (Nat.le_refl _) _⟩
end Go.Proofs.YtilgmjdpoaimiaaDoor
