/- The program's reading of frames. -/
import Derived.Test.YtilgmjdpoaimiaaDoorFrmF
import Derived.Test.YtilgmjdpoaimiaaDoorStrs
namespace Go.Proofs.YtilgmjdpoaimiaaDoor
open Go.RowKit Go.WideShapes
theorem framesL_snoc (l : List (List UInt8)) (d : List UInt8) : framesL (l ++ [d]) = framesL l ++ frameL d := by unfold framesL; simp
theorem framesL_len : ∀ l : List (List UInt8), (∀ d ∈ l, d.length ≤ 100000) → 8 * l.length ≤ (framesL l).length
  | [], _ => Nat.zero_le _
  | d :: l, h => by
    have := framesL_len l (fun x hx => h x (by simp [hx]))
    unfold framesL at this ⊢
    rw [List.flatMap_cons, List.length_append, frameL_len (h d (by simp)), List.length_cons]
    omega
/-- So far: the texts l of the frames ahead of place k. -/
structure SoFar (s : List UInt8) (l : List (List UInt8)) (k : Nat) : Prop where
  all : takeL s = l ++ takeL (s.drop k)
  place : (framesL l).length = k
  less : k ≤ s.length
  few : 8 * l.length ≤ k
theorem SoFar.start (s : List UInt8) : SoFar s [] 0 := ⟨rfl, rfl, Nat.zero_le _, Nat.le_refl _⟩
theorem SoFar.more {s : List UInt8} {l : List (List UInt8)} {k : Nat} {d : List UInt8} (h : SoFar s l k) (hd : firstL (s.drop k) = some d) : SoFar s (l ++ [d]) (k + (8 + d.length)) ∧ k + (8 + d.length) ≤ s.length ∧ d.length ≤ 100000 := by
  obtain ⟨h1, r, h2⟩ := firstL_some hd
  have hl : s.length - k = 8 + d.length + r.length := by
    rw [← List.length_drop, h2, List.length_append, frameL_len h1]
  have h3 := h.less
  refine ⟨⟨?_, ?_, by omega, ?_⟩, by omega, h1⟩
  · rw [h.all, takeL_some hd, List.drop_drop, List.append_assoc]; rfl
  · rw [framesL_snoc, List.length_append, h.place, frameL_len h1]
  · have := h.few
    rw [List.length_append, List.length_singleton]
    omega
theorem SoFar.done {s : List UInt8} {l : List (List UInt8)} {k : Nat} (h : SoFar s l k) (hd : firstL (s.drop k) = none) : takeL s = l ∧ (framesL (takeL s)).length = k := by
  have : takeL s = l := by rw [h.all, takeL_none hd, List.append_nil]
  exact ⟨this, by rw [this]; exact h.place⟩
set_option maxHeartbeats 1600000 in
theorem implTake (s : ByteArray) (w : World) (hs : s.size ≤ 2097152) (ht : CrcT w) :
    Calls Tryd.prog 8 #[.string s] w fun e w' => ∃ v, e = .returned (.tuple #[v, .int .i64 (framesL (takeL s.data.toList)).length]) ∧ OwnS w.heap.size w' v ((takeL s.data.toList).map bs) ∧ Below w.heap.size w w' := by
  obtain ⟨i0, hi, hz0, hz1, hz2⟩ := info_parts infoStr
  have h0 := ht.1
  have HO : Hid (OwnS w.heap.size w (.slice none 0 0) (([] : List (List UInt8)).map bs)) := Lib.hid ⟨rfl, .inl ⟨rfl, rfl⟩⟩
  have HT := Lib.hid ht
  clear ht
  go_enter Tryd.func8, Tryd.ntmps8
  go_wp2_with fail
  go_loopw [4, 5] (fun o i wr => ∃ (l : List (List UInt8)) (k : Nat), Hid (SoFar s.data.toList l k) ∧ k ≤ s.size ∧ i = .int .i64 k ∧ Hid (OwnS w.heap.size wr o (l.map bs)) ∧ Below w.heap.size w wr) (fun _ i _ => s.size - (intOf i).toNat)
  case atStart => exact ⟨[], 0, Lib.hid (SoFar.start _), Nat.zero_le _, rfl, HO, Below.refl _ _⟩
  case round =>
    obtain ⟨l, k, HF, hk, rfl, HQ, hnx⟩ := hrel
    clear HO
    have hx : (s.extract k s.size).data.toList = s.data.toList.drop k := by rw [ext_toList, take_all _ _ (Nat.le_refl _)]
    have C := implFirst (s.extract k s.size) wr (by rw [ByteArray.size_extract]; omega) (HT.out.next hnx h0 (Nat.le_refl _))
    rw [hx] at C
    clear hx
    have hsz := hnx.size
    have hle : l.length ≤ 300000 := by have := HF.out.few; omega
    cases hd : firstL (s.data.toList.drop k) with
    | none =>
      have HD := Lib.hid (HF.out.done hd)
      rw [hd] at C
      have HC := Lib.hid C
      clear C hd
      go_wp2_with fail
      refine HC.out.mono ?_
      rintro e w1 ⟨rfl, hb1⟩
      unfold firstV
      go_wp2_with fail
      go_ret2
      exact ⟨_, by rw [HD.out.2]; rfl, by rw [HD.out.1]; exact HQ.out.kept hb1, hnx.trans (hb1.mono hsz)⟩
    | some d =>
      obtain ⟨M, hk2, hd1⟩ := HF.out.more hd
      rw [size_len] at hk2
      have HM := Lib.hid M
      rw [hd] at C
      have HC := Lib.hid C
      clear C hd M
      go_wp2_with fail
      refine HC.out.mono ?_
      rintro e w1 ⟨rfl, hb1⟩
      unfold firstV
      have hsd : (bs d).size = d.length := bs_size d
      have B1 := hnx.trans (hb1.mono hsz)
      have O1 := (HQ.out.kept hb1)
      have B2 := B1.alloc B1.size (.cells #[.string (bs d)] 9)
      have O2 := Lib.hid (World.ownsRow.alloc O1 (.cells #[.string (bs d)] 9))
      have hlt := fun j hj => (World.ownsRow.lt O1 j hj).1
      clear O1 hb1 HC
      go_wp2_with (at_builtin; refine wpList_append_own _ rfl _ _ 25 rfl w.heap.size 9 i0 (.string ⟨#[]⟩) 1 16 Tryd.underlying25 hi hz0 hz1 hz2 rfl (by decide) _ _ _ rfl O2.out ⟨w1.heap.size, 0, none⟩ 1 1 [.string (bs d)] rfl rfl one_cell (by simp [Value.oneCell']) ?qc4 ?qc5 ?qc6 ?_)
      case qc4 => rw [List.length_map]; unfold maxLen; omega
      case qc5 => rw [List.length_map]; omega
      case qc6 => exact B2.size
      intro v' w2 hown hgrow _
      have B3 := B2.grown hgrow B2.size hlt
      have O3 : OwnS w.heap.size w2 v' ((l ++ [d]).map bs) := by
        rw [List.map_append]
        exact ownS_snoc (by rw [List.length_map, List.map_map]; exact hown)
      have HO3 := Lib.hid O3
      clear hown hgrow O3 B2 O2
      go_wp2_with fail
      go_roundw
      case rel => exact ⟨l ++ [d], k + (8 + d.length), HM, hk2, by go_num, HO3, B3⟩
      case measure => simp [intOf]; omega
end Go.Proofs.YtilgmjdpoaimiaaDoor
