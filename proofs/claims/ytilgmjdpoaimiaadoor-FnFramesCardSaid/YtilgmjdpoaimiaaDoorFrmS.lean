/- The specification's sum of a text, bit by bit. -/
import Derived.Test.YtilgmjdpoaimiaaDoorFrmI
import Derived.Deep.RegionWith
namespace Go.Proofs.YtilgmjdpoaimiaaDoor
open Go.RowKit
theorem crcBits_snoc (j : Nat) (d : BitVec 32) : crcBits (j + 1) d = crcBit (crcBits j d) := crcBits_add 1 j d
theorem crc_odd {c : BitVec 32} (h : (c.toNat : Int) % 2 = 1) : bits .xor .u32 ((c.toNat : Int) / 2) 3988292384 = ((crcBit c).toNat : Int) := by
  have e1 := shr_div c 1
  rw [show (2 : Int) ^ 1 = 2 from rfl] at e1
  have e2 : (3988292384 : Int) = ((3988292384#32).toNat : Int) := rfl
  rw [e1, e2, bits_xor]
  unfold crcBit
  rw [if_pos (by omega)]
theorem crc_even {c : BitVec 32} (h : ¬ (c.toNat : Int) % 2 = 1) : (c.toNat : Int) / 2 = ((crcBit c).toNat : Int) := by
  have e1 := shr_div c 1
  rw [show (2 : Int) ^ 1 = 2 from rfl] at e1
  rw [e1]
  unfold crcBit
  rw [if_neg (by omega)]
theorem conv4l (z : Nat) (W : World) (T : Nat) :
    (convert 22 9 (.slice (some ⟨W.heap.size, 0, none⟩) 4 4)).run Tryd.prog (W.alloc (.cells #[.int .u8 ((z : Int) % 256), .int .u8 ((z : Int) / 256 % 256), .int .u8 ((z : Int) / 65536 % 256), .int .u8 ((z : Int) / 16777216 % 256)] T)) = .ok (.string (bs (low4 z))) (W.alloc (.cells #[.int .u8 ((z : Int) % 256), .int .u8 ((z : Int) / 256 % 256), .int .u8 ((z : Int) / 65536 % 256), .int .u8 ((z : Int) / 16777216 % 256)] T)) := by
  refine conv_new (low4 z) _ ?_ 4 rfl W T 4
  rw [byte_is z 0 ((z : Int) % 256) (by omega), byte_is z 1 ((z : Int) / 256 % 256) (by omega), byte_is z 2 ((z : Int) / 65536 % 256) (by omega), byte_is z 3 ((z : Int) / 16777216 % 256) (by omega)]
  rfl
set_option maxHeartbeats 1600000 in
theorem specSum (s : ByteArray) (w : World) (hs : s.size ≤ 2097152) :
    Calls Tryd.prog 22 #[.string s] w fun e w' => e = .returned (.string (bs (low4 (crcL s.data.toList).toNat))) ∧ Below w.heap.size w w' := by
  go_enter Tryd.func22, Tryd.ntmps22
  go_wp2
  go_loopw [3, 4] (fun c i wr => ∃ k : Nat, k ≤ s.size ∧ i = .int .i64 k ∧ c = .int .u32 (crcTo s k).toNat ∧ wr = w) (fun _ i _ => s.size - (intOf i).toNat)
  case atStart => exact ⟨0, Nat.zero_le _, rfl, rfl, rfl⟩
  case round =>
    obtain ⟨k, hk, rfl, rfl, rfl⟩ := hrel
    by_cases hlt : k < s.size
    · have HS := Lib.hid (crcTo_succ s k hlt)
      have E1 := byte_xor (crcTo s k) s[k]
      have hM : (s[k].toNat : Int) % 4294967296 = (s[k].toNat : Int) := by have := s[k].toNat_lt; omega
      generalize hd : crcTo s k ^^^ BitVec.ofNat 32 s[k].toNat = d at E1
      have HD := Lib.hid (show crcStep (crcTo s k) s[k] = crcBits 8 d by rw [← hd]; rfl)
      clear hd
      go_wp2
      go_loopw [3, 5] (fun c i wz => ∃ j : Nat, j ≤ 8 ∧ i = .int .i64 j ∧ c = .int .u32 (crcBits j d).toNat ∧ wz = wr) (fun _ i _ => 8 - (intOf i).toNat)
      case atStart => exact ⟨0, by omega, rfl, rfl, rfl⟩
      case round =>
        obtain ⟨j, hj, rfl, rfl, rfl⟩ := hrel
        by_cases hj8 : j < 8
        · have HJ := Lib.hid (crcBits_snoc j d)
          have hj9 : (j : Int) < 8 := by omega
          generalize crcBits j d = c at HJ
          by_cases ho : (c.toNat : Int) % 2 = 1
          · have E2 := crc_odd ho
            go_wp2
            go_roundw
            case rel => exact ⟨j + 1, by omega, by go_num, by rw [HJ.out], trivial⟩
            case measure => simp [intOf]; omega
          · have E2 := crc_even ho
            go_wp2
            go_roundw
            case rel => exact ⟨j + 1, by omega, by go_num, by rw [HJ.out], trivial⟩
            case measure => simp [intOf]; omega
        · obtain rfl : j = 8 := by omega
          rw [← HD.out, ← HS.out]
          go_wp2
          go_roundw
          case rel => exact ⟨k + 1, by omega, by go_num, rfl, trivial⟩
          case measure => simp [intOf]; omega
    · have e : crcTo s k = s.data.toList.foldl crcStep 4294967295#32 := by
        unfold crcTo
        rw [take_all _ _ (by omega)]
      have E : bits .xor .u32 IntKind.u32.max ((crcTo s k).toNat : Int) = ((crcL s.data.toList).toNat : Int) := by
        have := not_xor (crcTo s k)
        rw [e] at this ⊢
        exact this
      clear e
      obtain ⟨z, hz⟩ : ∃ z, (crcL s.data.toList).toNat = z := ⟨_, rfl⟩
      rw [hz] at E
      have HZ := Lib.hid hz
      clear hz
      have K := conv4l z wr 5
      go_wp2
      go_ret
      exact ⟨by rw [HZ.out]; rfl, (Below.refl _ _).alloc (Nat.le_refl _) _⟩
theorem conv4h (n : Nat) (hn : n ≤ 100000) (W : World) (T : Nat) :
    (convert 22 9 (.slice (some ⟨W.heap.size, 0, none⟩) 4 4)).run Tryd.prog (W.alloc (.cells #[.int .u8 (IntKind.u8.wrap ((n : Int) / 16777216)), .int .u8 (IntKind.u8.wrap ((n : Int) / 65536)), .int .u8 (IntKind.u8.wrap ((n : Int) / 256)), .int .u8 (IntKind.u8.wrap (n : Int))] T)) = .ok (.string (bs (bytes4 n))) (W.alloc (.cells #[.int .u8 (IntKind.u8.wrap ((n : Int) / 16777216)), .int .u8 (IntKind.u8.wrap ((n : Int) / 65536)), .int .u8 (IntKind.u8.wrap ((n : Int) / 256)), .int .u8 (IntKind.u8.wrap (n : Int))] T)) := by
  refine conv_new (bytes4 n) _ ?_ 4 rfl W T 4
  rw [byte_is n 3 (IntKind.u8.wrap ((n : Int) / 16777216)) (by rw [IntKind.wrap_u8]; omega), byte_is n 2 (IntKind.u8.wrap ((n : Int) / 65536)) (by rw [IntKind.wrap_u8]; omega), byte_is n 1 (IntKind.u8.wrap ((n : Int) / 256)) (by rw [IntKind.wrap_u8]; omega), byte_is n 0 (IntKind.u8.wrap (n : Int)) (by rw [IntKind.wrap_u8]; omega)]
  rfl
abbrev H4 (n : Nat) (T : Nat) : Obj := .cells #[.int .u8 (IntKind.u8.wrap ((n : Int) / 16777216)), .int .u8 (IntKind.u8.wrap ((n : Int) / 65536)), .int .u8 (IntKind.u8.wrap ((n : Int) / 256)), .int .u8 (IntKind.u8.wrap (n : Int))] T
theorem conv4d (n : Nat) (hn : n ≤ 100000) (W : World) (T : Nat) :
    (convert 22 9 (.slice (some ⟨W.heap.size, 0, none⟩) 4 4)).run Tryd.prog (W.alloc (H4 n T)).drew = .ok (.string (bs (bytes4 n))) (W.alloc (H4 n T)).drew := conv4h n hn W.drew T
theorem conv4b (n : Nat) (hn : n ≤ 100000) (W : World) (T : Nat) {w' : World} (hb : Below (W.alloc (H4 n T)).drew.heap.size (W.alloc (H4 n T)).drew w') :
    (convert 22 9 (.slice (some ⟨W.heap.size, 0, none⟩) 4 4)).run Tryd.prog w' = .ok (.string (bs (bytes4 n))) w' := by
  have hblk : w'.heap[W.heap.size]? = (W.alloc (H4 n T)).heap[W.heap.size]? := hb.block W.heap.size (by rw [show (W.alloc (H4 n T)).drew.heap.size = (W.alloc (H4 n T)).heap.size from rfl, World.size_alloc]; exact Nat.lt_succ_self _)
  rw [heap_alloc_new] at hblk
  have e : #[Value.int .u8 (IntKind.u8.wrap ((n : Int) / 16777216)), .int .u8 (IntKind.u8.wrap ((n : Int) / 65536)), .int .u8 (IntKind.u8.wrap ((n : Int) / 256)), .int .u8 (IntKind.u8.wrap (n : Int))] = ((bytes4 n).map b8).toArray := by
    rw [byte_is n 3 (IntKind.u8.wrap ((n : Int) / 16777216)) (by rw [IntKind.wrap_u8]; omega), byte_is n 2 (IntKind.u8.wrap ((n : Int) / 65536)) (by rw [IntKind.wrap_u8]; omega), byte_is n 1 (IntKind.u8.wrap ((n : Int) / 256)) (by rw [IntKind.wrap_u8]; omega), byte_is n 0 (IntKind.u8.wrap (n : Int)) (by rw [IntKind.wrap_u8]; omega)]
    rfl
  have := run_convert_bytes_arg (P := Tryd.prog) w' 22 5 Tryd.underlying22 Tryd.underlying5 W.heap.size 0 4 4 ((bytes4 n).map fun c => (c.toNat : Int)) rfl (fun i hi => by
    rw [Nat.zero_add]
    have e2 : ((bytes4 n).map b8).toArray[i]? = some (.int .u8 (((bytes4 n).map fun c => (c.toNat : Int)).getD i 0)) := by
      rw [List.getElem?_toArray, List.getElem?_map]
      have : i < (bytes4 n).length := hi
      simp [List.getD, this]
    rw [← e] at e2
    simp only [World.cell?, hblk]
    exact e2) 9 Tryd.underlying9
  rw [this, strOfNums_bytes]
set_option maxHeartbeats 1600000 in
theorem specFrameOf (s : ByteArray) (w : World) (hs : s.size ≤ 2097152) :
    Calls Tryd.prog 13 #[.string s] w fun e w' => e = .returned (.string (bs (frameL s.data.toList))) ∧ Below w.heap.size w w' := by
  by_cases hb : (100000 : Int) < s.size
  · go_enter Tryd.func13, Tryd.ntmps13
    go_wp2_with fail
    go_ret
    exact ⟨by unfold frameL; rw [size_len, if_pos (by omega)]; rfl, Below.refl _ _⟩
  · have HF : Hid (frameL s.data.toList = (bytes4 s.size ++ low4 (crcL s.data.toList).toNat) ++ s.data.toList) := Lib.hid (by unfold frameL headL; rw [size_len, if_neg (by omega)])
    have C := fun w => specSum s w hs
    obtain ⟨z, hz⟩ : ∃ z, (crcL s.data.toList).toNat = z := ⟨_, rfl⟩
    rw [hz] at HF C
    have HC := Lib.hid C
    have hn : s.size ≤ 100000 := by omega
    clear hz C
    go_enter Tryd.func13, Tryd.ntmps13
    go_wp2_with fail
    have K0 := fun W => conv4h s.size hn W 5
    have K1 := conv4d s.size hn w 5
    have z1 : (bs (bytes4 s.size)).size = 4 := rfl
    have z2 : (bs (low4 z)).size = 4 := rfl
    have z3 : (bs (bytes4 s.size) ++ bs (low4 z)).size = 8 := rfl
    go_region_with (go_at_call 22; refine (HC.out _).mono ?_; rintro e w5 ⟨rfl, hb5⟩; (first | have K5 := conv4b s.size hn w 5 hb5 | skip))
    all_goals
      have BW : Below w.heap.size w w5 := by first | exact ((Below.refl _ _).alloc (Nat.le_refl _) _).drew.trans (hb5.mono (by rw [show (w.alloc (H4 s.size 5)).drew.heap.size = (w.alloc (H4 s.size 5)).heap.size from rfl, World.size_alloc]; omega)) | exact (Below.refl _ _).drew.trans hb5
      clear hb5
      go_wp2_with fail
      go_ret
      refine ⟨by rw [HF.out]; rfl, ?_⟩
      first | exact BW | exact BW.alloc BW.size _
end Go.Proofs.YtilgmjdpoaimiaaDoor
