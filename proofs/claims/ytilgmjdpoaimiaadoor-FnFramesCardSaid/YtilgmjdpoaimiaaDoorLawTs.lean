/- The laws' own way to hold texts against each other (over Strs alone). -/
import Derived.Test.YtilgmjdpoaimiaaDoorStrs
import Derived.Test.YtilgmjdpoaimiaaDoorFrmF
namespace Go.Proofs.YtilgmjdpoaimiaaDoor
open Go.RowKit Go.WideShapes
set_option maxRecDepth 100000 in
set_option maxHeartbeats 1600000 in
theorem lawTextsEq (a b : Option Addr) (la ca lb cb : Nat) (ts : List ByteArray) (w : World) (h : IsStrs w a la ca ts) (k : IsStrs w b lb cb ts) (hl : la ≤ 1048576) :
    Calls Tryd.prog 10 #[.slice a la ca, .slice b lb cb] w fun e w' => e = .returned (.bool true) ∧ Below w.heap.size w w' := by
  have hlb : lb = la := by rw [← h.len, ← k.len]
  subst hlb
  have H := Lib.hid h
  have K := Lib.hid k
  clear h k
  go_enter Tryd.func10, Tryd.ntmps10
  go_wp2_with fail
  go_loopw [5] (fun i wr => ∃ j : Nat, j ≤ lb ∧ i = .int .i64 j ∧ Below w.heap.size w wr) (fun i _ => lb - (intOf i).toNat)
  case atStart => exact ⟨0, Nat.zero_le _, rfl, Below.refl _ _⟩
  case round =>
    obtain ⟨j, hj, rfl, hnx⟩ := hrel
    have hj6 : (0 : Int) ≤ (j : Int) := by omega
    by_cases hlt : j < lb
    · have hj7 : (j : Int) < (lb : Int) := by omega
      obtain ⟨b1, off, rfl, hb, hl1, hm1, hts, hcs⟩ := (H.out.next hnx).cells (by omega)
      obtain ⟨b2, off2, rfl, hb2, hl2, hm2, hts2, hcs2⟩ := (K.out.next hnx).cells (by omega)
      have ht : ts[j]? = some (ts[j]'(by omega)) := List.getElem?_eq_getElem (by omega)
      have c0 := hcs j _ ht
      have d0 := hcs2 j _ ht
      generalize ts[j]'(by omega) = t at ht c0 d0
      have HB : Hid (∀ n, Below w.heap.size w (wr.drewN n)) := Lib.hid (fun n => below_drewN hnx n)
      have EQ : (t.toList == t.toList) = true := by simp
      have EN : (t.toList != t.toList) = false := by simp
      clear ht hts hts2 hcs hcs2 hm1 hm2 hl1 hl2 hnx
      go_wp2_with fail
      go_quiet (fail)
      clear EQ EN
      go_wp2_with fail
      go_roundw
      case rel => exact ⟨j + 1, by omega, by go_num, HB.out _⟩
      case measure => simp [intOf]; omega
    · obtain rfl : j = lb := by omega
      go_wp2_with fail
      go_ret
      exact ⟨rfl, hnx⟩
end Go.Proofs.YtilgmjdpoaimiaaDoor
