/- A copy of triples; sorted in an order; the store of a graph: the program's functions. -/
import Derived.Test.YtapcbhpkbdlinaaStoI
import Derived.Test.YtapcbhpkbdlinaaFlat
namespace Go.Proofs.Ytapcbhpkbdlinaa
open Go.RowKit Go.WideShapes
set_option maxRecDepth 100000 in
set_option maxHeartbeats 1600000 in
theorem cloneTri (a : Option Addr) (len cap : Nat) (ts : List Tri3) (w : World) (h : IsTris w a len cap ts) (hl : len ≤ 1048576) :
    Calls Try.prog 97 #[.slice a len cap] w (CopyPost ts w) := by
  have q28 : ∀ (w : World) (a : Option Addr) (n c n' c' : Nat), (binOp .eql 28 (.slice a n c) (.slice none n' c')).run Try.prog w = .ok (.bool a.isNone) w := fun w a n c n' c' => Lib.run_eql_slice_nil w _ _ a n c n' c' Try.underlying28
  obtain ⟨i0, hi, hz0, hz1, hz2⟩ := info_parts infoTri
  rcases h with ⟨rfl, rfl, rfl, rfl⟩ | ⟨x, rfl, h1, h2, h3, h4⟩
  · go_enter Try.func97, Try.ntmps97
    go_wp2_with fail
    go_ret
    exact ⟨_, rfl, ⟨rfl, .inl ⟨rfl, rfl⟩⟩, Below.refl _ _⟩
  · have A := Lib.hid (fun j u hj => tris_news h4 j u hj)
    have H3 := Lib.hid h3
    have HF := Lib.hid (flat_one ts)
    clear h4 h3
    go_enter Try.func97, Try.ntmps97
    go_wp2_with (at_builtin; refine wpList_append_own _ rfl _ _ 28 rfl w.heap.size 23 i0 (.agg #[.string ⟨#[]⟩, .string ⟨#[]⟩, .string ⟨#[]⟩]) 3 48 Try.underlying28 hi hz0 hz1 hz2 rfl (by decide) _ _ _ rfl (World.ownsRow_made w #[] 0 (Nat.le_refl _) (Nat.zero_le _) (by simp)) x len cap (flat ts) rfl ?qc1 ?qc2 ?qc3 ?qc4 ?qc5 ?qc6 ?_)
    case qc1 => rw [flat_len, H3.out]
    case qc2 => exact fun j u hj => Lib.cell?_alloc_some _ (A.out j u hj)
    case qc3 => exact HF.out
    case qc4 => unfold maxLen; omega
    case qc5 => omega
    case qc6 => simp
    intro v' w1 hown hgrow _
    go_wp2_with fail
    go_ret
    exact ⟨v', rfl, by unfold OwnT; rw [H3.out]; simpa using hown, ((Below.refl _ w).alloc (Nat.le_refl _) _).grown hgrow (by simp) (by intro k hk; simp [Value.ownBlock] at hk; omega)⟩
set_option maxRecDepth 100000 in
set_option maxHeartbeats 1600000 in
theorem implSortedPos (a : Option Addr) (len cap : Nat) (ts : List Tri3) (w : World) (h : IsTris w a len cap ts) (hl : len ≤ 1048576) :
    Calls Try.prog 98 #[.slice a len cap, .func (.func 99) #[] #[]] w (CopyPost (sortH 1 ts) w) := by
  have B0 := (Below.refl w.heap.size w).alloc (Nat.le_refl _) (.cells #[.func (.func 99) #[] #[]] 141)
  have hc0 : (w.alloc (.cells #[.func (.func 99) #[] #[]] 141)).cell? ⟨w.heap.size, 0, none⟩ = some (.func (.func 99) #[] #[]) := by simp
  have C := Lib.hid (cloneTri a len cap ts _ (h.next B0) hl)
  have HT := Lib.hid h.len
  have HC := Lib.hid hc0
  have BB := Lib.hid B0
  clear h B0 hc0
  go_enter Try.func98, Try.ntmps98
  go_wp2_with fail
  refine C.out.mono ?_
  rintro e w1 ⟨v, rfl, o1, hb1⟩
  have hz : (w.alloc (.cells #[.func (.func 99) #[] #[]] 141)).heap.size = w.heap.size + 1 := by simp
  rw [hz] at o1
  have hc1 : w1.cell? ⟨w.heap.size, 0, none⟩ = some (.func (.func 99) #[] #[]) := by rw [hb1.cell (p := ⟨w.heap.size, 0, none⟩) (by simp)]; exact HC.out
  have hne := fun j hj => (World.ownsRow.lt o1 j hj).1
  have S := Lib.hid (sortPos (w.heap.size + 1) w.heap.size v ts w1 o1 (by have := HT.out; omega) hc1 (Nat.lt_succ_self _))
  have B1 := Lib.hid (BB.out.trans (hb1.mono BB.out.size))
  clear hb1 o1 hc1 hz C
  go_wp2_with fail
  refine S.out.mono ?_
  rintro e w2 ⟨rfl, o2, hg2⟩
  have O2 := Lib.hid o2
  have B2 := Lib.hid (B1.out.grown hg2 B1.out.size (fun j hj => by have := hne j hj; omega))
  clear o2 hg2 S
  go_wp2_with fail
  go_ret
  exact ⟨v, rfl, own_base O2.out (Nat.le_succ _), B2.out⟩
set_option maxRecDepth 100000 in
set_option maxHeartbeats 1600000 in
theorem implSortedOsp (a : Option Addr) (len cap : Nat) (ts : List Tri3) (w : World) (h : IsTris w a len cap ts) (hl : len ≤ 1048576) :
    Calls Try.prog 98 #[.slice a len cap, .func (.func 100) #[] #[]] w (CopyPost (sortH 2 ts) w) := by
  have B0 := (Below.refl w.heap.size w).alloc (Nat.le_refl _) (.cells #[.func (.func 100) #[] #[]] 141)
  have hc0 : (w.alloc (.cells #[.func (.func 100) #[] #[]] 141)).cell? ⟨w.heap.size, 0, none⟩ = some (.func (.func 100) #[] #[]) := by simp
  have C := Lib.hid (cloneTri a len cap ts _ (h.next B0) hl)
  have HT := Lib.hid h.len
  have HC := Lib.hid hc0
  have BB := Lib.hid B0
  clear h B0 hc0
  go_enter Try.func98, Try.ntmps98
  go_wp2_with fail
  refine C.out.mono ?_
  rintro e w1 ⟨v, rfl, o1, hb1⟩
  have hz : (w.alloc (.cells #[.func (.func 100) #[] #[]] 141)).heap.size = w.heap.size + 1 := by simp
  rw [hz] at o1
  have hc1 : w1.cell? ⟨w.heap.size, 0, none⟩ = some (.func (.func 100) #[] #[]) := by rw [hb1.cell (p := ⟨w.heap.size, 0, none⟩) (by simp)]; exact HC.out
  have hne := fun j hj => (World.ownsRow.lt o1 j hj).1
  have S := Lib.hid (sortOsp (w.heap.size + 1) w.heap.size v ts w1 o1 (by have := HT.out; omega) hc1 (Nat.lt_succ_self _))
  have B1 := Lib.hid (BB.out.trans (hb1.mono BB.out.size))
  clear hb1 o1 hc1 hz C
  go_wp2_with fail
  refine S.out.mono ?_
  rintro e w2 ⟨rfl, o2, hg2⟩
  have O2 := Lib.hid o2
  have B2 := Lib.hid (B1.out.grown hg2 B1.out.size (fun j hj => by have := hne j hj; omega))
  clear o2 hg2 S
  go_wp2_with fail
  go_ret
  exact ⟨v, rfl, own_base O2.out (Nat.le_succ _), B2.out⟩
end Go.Proofs.Ytapcbhpkbdlinaa
