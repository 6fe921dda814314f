/- A slice's cells, one by one: its front and its back. -/
import Derived.Test.YtiajdnhmjdfeeaaGreatG03
import Derived.Test.YtiajdnhmjdfeeaaGreatG01
import Derived.Test.YtiajdnhmjdfeeaaGreatG41
import Derived.Test.YtiajdnhmjdfeeaaGreatG08
import Derived.Test.YtiajdnhmjdfeeaaGreatG39
import Derived.Laws.AppendOwnNone
import Derived.Deep.RegionHeld3
import Derived.Test.YtiajdnhmjdfeeaaGreatG17
namespace Go.Proofs.YtiajdnhmjdfeeaaGreat
open Go.RowKit Go.WideShapes
theorem flat_append (a b : List Tri3) : flat (a ++ b) = flat a ++ flat b := by simp [flat]
theorem flat_one (a : List Tri3) : ∀ u ∈ flat a, u.oneCell' = true := by
  intro u hu
  unfold flat at hu
  obtain ⟨t, _, hu⟩ := List.mem_flatMap.1 hu
  simp only [List.mem_cons, List.not_mem_nil, or_false] at hu
  rcases hu with rfl | rfl | rfl <;> rfl
theorem flat_split (ts : List Tri3) (k : Nat) : flat ts = flat (ts.take k) ++ flat (ts.drop k) := by rw [← flat_append, List.take_append_drop]
/-- A slice's cells, one by one. -/
theorem IsTris.flatAt {w : World} {b off len cap : Nat} {ts : List Tri3} (h : IsTris w (some ⟨b, off, none⟩) len cap ts) (j : Nat) (u : Value) (hj : (flat ts)[j]? = some u) : w.cell? ⟨b, off + j, none⟩ = some u := by
  have hl := h.len
  have hjl : j < ts.length * 3 := by rw [← flat_len]; exact (List.getElem?_eq_some_iff.1 hj).1
  rcases h with ⟨h, _⟩ | ⟨x, hx, h1, h2, h3, h4⟩
  · cases h
  · cases hx
    obtain ⟨q, r, hr, rfl⟩ : ∃ q r, r < 3 ∧ j = q * 3 + r := ⟨j / 3, j % 3, by omega, by omega⟩
    have hq : q < ts.length := by omega
    have e := List.getElem?_eq_getElem hq
    obtain ⟨c0, c1, c2, _⟩ := h4 q _ e
    rw [add_plain] at c0 c1 c2
    obtain ⟨f0, f1, f2⟩ := flat_at ts q _ e
    have hm : r = 0 ∨ r = 1 ∨ r = 2 := by omega
    rcases hm with rfl | rfl | rfl
    · rw [Nat.add_zero, f0] at hj; rw [← hj, ← c0, Nat.mul_comm 3 q]; rfl
    · rw [f1] at hj; rw [← hj, ← c1, Nat.mul_comm 3 q]
    · rw [f2] at hj; rw [← hj, ← c2, Nat.mul_comm 3 q]
theorem IsTris.front {w : World} {b off len cap : Nat} {ts : List Tri3} (h : IsTris w (some ⟨b, off, none⟩) len cap ts) (k : Nat) : ∀ (j : Nat) (u : Value), (flat (ts.take k))[j]? = some u → w.cell? ((⟨b, off, none⟩ : Addr).add j) = some u := by
  intro j u hj
  rw [add_plain]
  refine h.flatAt j u ?_
  rw [flat_split ts k, List.getElem?_append_left (List.getElem?_eq_some_iff.1 hj).1]
  exact hj
theorem IsTris.back {w : World} {b off len cap : Nat} {ts : List Tri3} (h : IsTris w (some ⟨b, off, none⟩) len cap ts) (k : Nat) (hk : k ≤ ts.length) : ∀ (j : Nat) (u : Value), (flat (ts.drop k))[j]? = some u → w.cell? ((⟨b, off + k * 3, none⟩ : Addr).add j) = some u := by
  intro j u hj
  rw [add_plain, Nat.add_assoc]
  refine h.flatAt (k * 3 + j) u ?_
  have e : (flat (ts.take k)).length = k * 3 := by rw [flat_len, List.length_take, Nat.min_eq_left hk]
  rw [flat_split ts k, List.getElem?_append_right (by omega), e, Nat.add_sub_cancel_left]
  exact hj
theorem tris_news {w : World} {x : Addr} {ts : List Tri3} (h4 : ∀ (i : Nat) (t : Tri3), ts[i]? = some t → TriAt w x i t) (j : Nat) (u : Value) (hj : (flat ts)[j]? = some u) : w.cell? (x.add j) = some u := by
  have hjl : j < ts.length * 3 := by rw [← flat_len]; exact (List.getElem?_eq_some_iff.1 hj).1
  obtain ⟨q, r, hr, rfl⟩ : ∃ q r, r < 3 ∧ j = q * 3 + r := ⟨j / 3, j % 3, by omega, by omega⟩
  have e := List.getElem?_eq_getElem (show q < ts.length by omega)
  obtain ⟨c0, c1, c2, _⟩ := h4 q _ e
  obtain ⟨f0, f1, f2⟩ := flat_at ts q _ e
  have hm : r = 0 ∨ r = 1 ∨ r = 2 := by omega
  rcases hm with rfl | rfl | rfl
  · rw [Nat.add_zero, f0] at hj; rw [← hj, ← c0, Nat.mul_comm 3 q]; rfl
  · rw [f1] at hj; rw [← hj, ← c1, Nat.mul_comm 3 q]
  · rw [f2] at hj; rw [← hj, ← c2, Nat.mul_comm 3 q]
theorem own_some {B : Nat} {w : World} {v : Value} {ts : List Tri3} (h : OwnT B w v ts) (h0 : 0 < ts.length) : ∃ g c, v = .slice (some ⟨g, 0, none⟩) ts.length c := by
  rcases h.2 with ⟨_, e⟩ | ⟨g, c, cur, rfl, _⟩
  · omega
  · exact ⟨g, c, rfl⟩
end Go.Proofs.YtiajdnhmjdfeeaaGreat
/- The program's With, Without and Union. -/
namespace Go.Proofs.YtiajdnhmjdfeeaaGreat
open Go.RowKit Go.WideShapes Go.Maps
/-- A graph and true, or none and false. -/
def ResPost (r : Option (List Tri3)) (w : World) (e : Ending) (w' : World) : Prop :=
  ∃ v, e = .returned (.tuple #[v, .bool r.isSome]) ∧ OwnT w.heap.size w' v (r.getD []) ∧ Below w.heap.size w w'
theorem ResPost.no {w w' : World} (hb : Below w.heap.size w w') : ResPost none w (.returned (.tuple #[.slice none 0 0, .bool false])) w' := ⟨_, rfl, World.ownsRow_nil .., hb⟩
theorem ResPost.yes {w w' : World} {v : Value} {ts : List Tri3} (h : OwnT w.heap.size w' v ts) (hb : Below w.heap.size w w') : ResPost (some ts) w (.returned (.tuple #[v, .bool true])) w' := ⟨_, rfl, h, hb⟩
theorem ResPost.far {r : Option (List Tri3)} {w w0 w' : World} {e : Ending} (h : ResPost r w0 e w') (hb : Below w.heap.size w w0) : ResPost r w e w' := by
  obtain ⟨v, he, ho, hb'⟩ := h
  exact ⟨v, he, own_base ho hb.size, hb.trans (hb'.mono hb.size)⟩
def ofSet (ts : List Tri3) : Option (List Tri3) := if ts.length ≤ 80 then some (sortT ts) else none
theorem ofSet_with {ts us : List Tri3} {t : Tri3} (hg : graphOk ts = true) (ht : okT t = true) (hn : us.Nodup) (hm : ∀ u, u ∈ us ↔ u ∈ ts ∨ u = t) : ofSet us = withT ts t := by
  have e := sort_with hg hn hm
  have l : us.length = (putT ts t).length := by rw [← e, sortT_len]
  unfold ofSet withT
  by_cases c : us.length ≤ 80
  · rw [if_pos c, if_pos ⟨hg, ht, by omega⟩, e]
  · rw [if_neg c, if_neg (fun h => c (by omega))]
theorem ofSet_without {ts us : List Tri3} {t : Tri3} (hg : graphOk ts = true) (ht : t ∈ ts) (hn : us.Nodup) (hm : ∀ u, u ∈ us ↔ u ≠ t ∧ u ∈ ts) : ofSet us = withoutT ts t := by
  have e := sort_without hg hn hm
  have l : us.length = (lessT ts t).length := by rw [← e, sortT_len]
  have := lessT_len ts t
  have := graphOk_len hg
  unfold ofSet withoutT
  rw [if_pos (by omega), if_pos ⟨hg, ht⟩, e]
theorem ofSet_union {a b us : List Tri3} (ha : graphOk a = true) (hb : graphOk b = true) (hn : us.Nodup) (hm : ∀ u, u ∈ us ↔ u ∈ a ∨ u ∈ b) : ofSet us = unionO a b := by
  have e := sort_union ha hn hm
  have l : us.length = (unionT a b).length := by rw [← e, sortT_len]
  unfold ofSet unionO
  by_cases c : us.length ≤ 80
  · rw [if_pos c, if_pos ⟨ha, hb, by omega⟩, e]
  · rw [if_neg c, if_neg (fun h => c (by omega))]
theorem allT_one (a : Option Addr) (len cap : Nat) (ts : List Tri3) : allT [(a, len, cap, ts)] = ts := by simp [allT]
open Go.RowKit Go.WideShapes
/-- The place of a slice is a block's own. -/
def Plain (a : Option Addr) : Prop := a = none ∨ ∃ b off, a = some ⟨b, off, none⟩
open Go.RowKit Go.WideShapes
theorem atT_front {t : Tri3} {ts : List Tri3} {k : Nat} (h1 : ∀ i u, i < k → ts[i]? = some u → aheadT u t = true) (hk : k ≤ ts.length) (h2 : ∀ u, ts[k]? = some u → aheadT u t = false) : atT t ts = k := atT_is h1 hk h2
theorem put_same {ts : List Tri3} {t : Tri3} {k : Nat} (h : atT t ts = k) (hk : ts[k]? = some t) : putT ts t = ts.take k ++ ts.drop k := by rw [putT_here (by rw [h]; exact hk), List.take_append_drop]
theorem put_more {ts : List Tri3} {t : Tri3} {k : Nat} (h : atT t ts = k) (hk : ts[k]? ≠ some t) : putT ts t = (ts.take k ++ [t]) ++ ts.drop k := by rw [putT_new (by rw [h]; exact hk), h]; simp
set_option maxRecDepth 100000 in
set_option maxHeartbeats 1600000 in
theorem specPut (b off len cap : Nat) (ts : List Tri3) (s p o : ByteArray) (w : World) (h : IsTris w (some ⟨b, off, none⟩) len cap ts) (hl : len ≤ 1048576) :
    Calls Tryz.prog 133 #[.slice (some ⟨b, off, none⟩) len cap, .agg #[.string s, .string p, .string o]] w fun e w' => ∃ v, e = .returned v ∧ OwnT w.heap.size w' v (putT ts (s, p, o)) ∧ Below w.heap.size w w' := by
  have hts := h.len
  have hcap : len ≤ cap ∧ cap ≤ maxLen := by
    rcases h with ⟨h, _⟩ | ⟨x, _, h1, h2, _⟩
    · cases h
    · exact ⟨h1, h2⟩
  unfold maxLen at hcap
  obtain ⟨hc1, hc2⟩ := hcap
  obtain ⟨i0, hi, hz0, hz1, hz2⟩ := info_parts infoTri
  have H := Lib.hid h
  have HT := Lib.hid hts
  have B0 := (Below.refl w.heap.size w).alloc (Nat.le_refl _) (.cells #[.string s, .string p, .string o] 65)
  have X0 := Box.new w (.string s) (.string p) (.string o) 65
  clear h hts
  go_enter Tryz.func133, Tryz.ntmps133
  go_wp2_with fail
  go_loopw [5] (fun i wr => ∃ k : Nat, k ≤ len ∧ i = .int .i64 k ∧ Hid (∀ i u, i < k → ts[i]? = some u → aheadT u (s, p, o) = true) ∧ Hid (Box wr w.heap.size (.string s) (.string p) (.string o) 65) ∧ Below w.heap.size w wr) (fun i _ => len - (intOf i).toNat)
  case atStart => exact ⟨0, Nat.zero_le _, rfl, Lib.hid (fun i u hi => by omega), Lib.hid X0, B0⟩
  case round =>
    obtain ⟨k, hk, rfl, hah, hbox, hnx⟩ := hrel
    clear X0 B0
    have hk6 : (0 : Int) ≤ (k : Int) := by omega
    obtain ⟨c0, c1, c2⟩ := hbox.out.cells
    have hk8 : k ≤ 1048576 := by omega
    by_cases hlt : k < len
    · have hk7 : (k : Int) < (len : Int) := by omega
      obtain ⟨b', off', hbo, hb, hl', hm, hts, hcs⟩ := H.out.cells (by omega)
      cases hbo
      have ht : ts[k]? = some (ts[k]'(by omega)) := List.getElem?_eq_getElem (by omega)
      obtain ⟨d0, d1, d2, m0, m1, m2⟩ := hcs k _ ht
      have DW := Lib.hid (And.intro d0 (And.intro d1 d2))
      rw [← hnx.cell (p := ⟨b, _, none⟩) hb] at d0 d1 d2
      generalize ts[k]'(by omega) = u at ht d0 d1 d2 m0 m1 m2 DW
      have A1 := specAhead u.1 u.2.1 u.2.2 s p o
      change ∀ w, Calls _ _ _ w fun e w' => e = .returned (.bool (aheadT u (s, p, o))) ∧ Below w.heap.size w w' at A1
      cases hq : aheadT u (s, p, o)
      · rw [hq] at A1
        have C1 := Lib.hid A1
        have HA : Hid (atT (s, p, o) ts = k) := Lib.hid (atT_front hah.out (by have := HT.out; omega) (fun v hv => by rw [ht] at hv; obtain rfl := Option.some.inj hv; exact hq))
        have l0 : b < wr.heap.size := Nat.lt_of_lt_of_le hb hnx.size
        have l1 : w.heap.size < wr.heap.size := hbox.out.lt
        have HTK := Lib.hid ht
        clear A1 hq ht hts hcs hm m0 m1 m2 hah hl'
        rcases Nat.eq_zero_or_pos k with rfl | hk0
        · simp only [Nat.zero_mul, Nat.add_zero] at d0 d1 d2 DW
          go_wp2_with fail
          go_region_held3 (fun w' => w'.cell? ⟨w.heap.size, 0, none⟩ = some (.string s) ∧ w'.cell? ⟨w.heap.size, 1, none⟩ = some (.string p) ∧ w'.cell? ⟨w.heap.size, 2, none⟩ = some (.string o) ∧ w'.cell? ⟨b, off, none⟩ = some (.string u.1) ∧ w'.cell? ⟨b, off + 1, none⟩ = some (.string u.2.1) ∧ w'.cell? ⟨b, off + 2, none⟩ = some (.string u.2.2))
            (first | go_keep | (go_split_ands; refine ⟨?_, ?_, ?_, ?_, ?_, ?_⟩ <;> (rw [ha4.cell (by first | (simp; done) | exact World.block_lt_of_cell? _ _ (by assumption))]; assumption)))
            (first
              | (go_at_call 97; refine (C1.out _).mono ?_; rintro e wa ⟨rfl, ha4⟩))
          have BE : Below w.heap.size w wa := hnx.drew.trans (ha4.mono hnx.size)
          have XE : Box wa w.heap.size (.string s) (.string p) (.string o) 65 := hbox.out.drew.next ha4
          clear ha4 hnx hbox c0 c1 c2 C1 d0 d1 d2
          generalize wa = we at BE XE ⊢
          have hcl : w.heap.size < we.heap.size := XE.lt
          have O0 : OwnT we.heap.size (we.alloc (.cells #[] 65)) (.slice (some ⟨we.heap.size, 0, none⟩) 0 0) [] := World.ownsRow_lit (size := 3) (e := 65) we #[] 0 (Nat.le_refl _) (by decide) rfl
          have BA := BE.alloc BE.size (.cells #[] 65)
          have XA := XE.alloc (.cells #[] 65)
          have F1 := (H.out.grown (w' := we.alloc (.cells #[] 65)) ⟨BA.os, BA.tape, BA.output, BA.size, fun j hj _ => BA.block j hj⟩).front 0
          have HF1 := Lib.hid F1
          have HO := Lib.hid O0
          have hlk : (ts.take 0).length = 0 := by rw [List.length_take, HT.out]; omega
          obtain ⟨tk, htk⟩ : ∃ l, ts.take 0 = l := ⟨_, rfl⟩
          rw [htk] at hlk HF1
          have HTKE := Lib.hid htk
          clear htk
          have HLK := Lib.hid hlk
          clear O0 F1 hlk BE XE
          go_wp2_with (at_builtin; refine wpList_append_own _ rfl _ _ 31 rfl we.heap.size 65 i0 (.agg #[.string ⟨#[]⟩, .string ⟨#[]⟩, .string ⟨#[]⟩]) 3 48 Tryz.underlying31 hi hz0 hz1 hz2 rfl (by decide) _ _ _ rfl HO.out ⟨b, off, none⟩ 0 _ (flat tk) rfl (by rw [flat_len, HLK.out]) HF1.out (by first | exact flat_one _ | (intro x hx; simp at hx; rcases hx with rfl | rfl | rfl <;> rfl)) ?h63a ?h48a ?hbsa ?_)
          case h63a => rw [List.length_nil]; unfold maxLen; omega
          case h48a => rw [List.length_nil]; omega
          case hbsa => first | omega | (simp only [World.size_alloc]; omega)
          intro v1 w1 hown1 hg1 _
          have O1 : OwnT we.heap.size w1 v1 tk := by unfold OwnT; rw [HLK.out]; simpa [flat] using hown1
          have B1 : Below w.heap.size w w1 := BA.grown hg1 BA.size (fun j hj => by simp [Value.ownBlock] at hj; omega)
          have X1 := XA.grown hg1 (by simp [Value.ownBlock]; omega)
          have hs1 : we.heap.size + 1 ≤ w1.heap.size := by have := hg1.size; rw [World.size_alloc] at this; omega
          have HO1 := Lib.hid O1
          have hne1 := fun j hj => (World.ownsRow.lt O1 j hj).1
          obtain ⟨e0, e1, e2⟩ := X1.cells
          clear hown1 hg1 HO HF1 BA XA O1
          obtain ⟨f0, f1, f2⟩ := DW.out
          rw [← B1.cell (p := ⟨b, off, none⟩) hb] at f0
          rw [← B1.cell (p := ⟨b, off + 1, none⟩) hb] at f1
          rw [← B1.cell (p := ⟨b, off + 2, none⟩) hb] at f2
          clear DW
          by_cases he : u = (s, p, o)
          · subst he
            have HR : Hid (putT ts (s, p, o) = ts.take 0 ++ ts.drop 0) := Lib.hid (put_same HA.out HTK.out)
            have EQ := tri_is s p o
            simp only at f0 f1 f2
            clear HA HTK
            go_wp2_with fail
            go_quiet (fail)
            clear EQ f0 f1 f2
            have Bd : Below w.heap.size w (w1.drewN nq) := below_drewN B1 nq
            have Od : OwnT we.heap.size (w1.drewN nq) v1 tk := HO1.out
            have Xd : Box (w1.drewN nq) w.heap.size (.string s) (.string p) (.string o) 65 := X1
            have hsd : we.heap.size + 1 ≤ (w1.drewN nq).heap.size := hs1
            clear e0 e1 e2 B1 X1 HO1 hs1
            generalize w1.drewN nq = wd at Bd Od Xd hsd ⊢
            have HO1 := Lib.hid Od
            obtain ⟨e0, e1, e2⟩ := Xd.cells
            clear Od
            have HOX := HO1.out
            have F2 := (H.out.grown (w' := wd) ⟨Bd.os, Bd.tape, Bd.output, Bd.size, fun j hj _ => Bd.block j hj⟩).back 0 (by rw [HT.out]; omega)
            rw [Nat.zero_mul, Nat.add_zero] at F2
            have hld : (ts.drop 0).length = len := by rw [List.length_drop, HT.out, Nat.sub_zero]
            obtain ⟨td, htd⟩ : ∃ l, ts.drop 0 = l := ⟨_, rfl⟩
            rw [htd] at hld F2 HR
            have HF2 := Lib.hid F2
            have HLD := Lib.hid hld
            have hlp : (tk).length = 0 := by first | exact HLK.out | (rw [List.length_append, HLK.out]; rfl)
            obtain ⟨pf, hpf⟩ : ∃ l, tk = l := ⟨_, rfl⟩
            rw [HTKE.out, hpf] at HR
            rw [hpf] at hlp HOX
            have HLP := Lib.hid hlp
            have HOY := Lib.hid HOX
            clear F2 hld hlp htd hpf HOX
            go_wp2_with (at_builtin; refine wpList_append_own _ rfl _ _ 31 rfl we.heap.size 65 i0 (.agg #[.string ⟨#[]⟩, .string ⟨#[]⟩, .string ⟨#[]⟩]) 3 48 Tryz.underlying31 hi hz0 hz1 hz2 rfl (by decide) _ _ _ rfl HOY.out ⟨b, off, none⟩ len _ (flat td) rfl (by rw [flat_len, HLD.out]) HF2.out (by first | exact flat_one _ | (intro x hx; simp at hx; rcases hx with rfl | rfl | rfl <;> rfl)) ?h63c ?h48c ?hbsc ?_)
            case h63c => rw [HLP.out]; unfold maxLen; omega
            case h48c => rw [HLP.out]; omega
            case hbsc => first | omega | (simp only [World.size_alloc]; omega)
            intro v3 w3 hown3 hg3 _
            have O3 : OwnT we.heap.size w3 v3 (pf ++ td) := by unfold OwnT; rw [List.length_append, HLD.out, flat_append]; exact hown3
            have B3 : Below w.heap.size w w3 := Bd.grown hg3 Bd.size (fun j hj => by have := hne1 j hj; omega)
            have O4 := own_base O3 (Nat.le_of_lt hcl)
            have HO4 := Lib.hid O4
            clear hown3 hg3 O3 O4 HF2
            go_wp2_with fail
            go_ret
            exact ⟨v3, rfl, by rw [HR.out]; exact HO4.out, B3⟩
          · have HR : Hid (putT ts (s, p, o) = (ts.take 0 ++ [(s, p, o)]) ++ ts.drop 0) := Lib.hid (put_more HA.out (by rw [HTK.out]; exact fun h => he (Option.some.inj h)))
            have EQ := tri_isnt he
            simp only at EQ
            clear HA HTK he
            go_wp2_with fail
            go_quiet (fail)
            clear EQ f0 f1 f2
            have Bd : Below w.heap.size w (w1.drewN nq) := below_drewN B1 nq
            have Od : OwnT we.heap.size (w1.drewN nq) v1 tk := HO1.out
            have Xd : Box (w1.drewN nq) w.heap.size (.string s) (.string p) (.string o) 65 := X1
            have hsd : we.heap.size + 1 ≤ (w1.drewN nq).heap.size := hs1
            clear e0 e1 e2 B1 X1 HO1 hs1
            generalize w1.drewN nq = wd at Bd Od Xd hsd ⊢
            have HO1 := Lib.hid Od
            obtain ⟨e0, e1, e2⟩ := Xd.cells
            clear Od
            have HC : ∀ (j : Nat) (x : Value), [Value.string s, .string p, .string o][j]? = some x → (wd.alloc (.cells #[.string s, .string p, .string o] 65)).cell? ((⟨wd.heap.size, 0, none⟩ : Addr).add j) = some x := three_cell
            have HH := Lib.hid HC
            have B1a := Bd.alloc Bd.size (.cells #[.string s, .string p, .string o] 65)
            have O1a := Lib.hid (World.ownsRow.alloc HO1.out (.cells #[.string s, .string p, .string o] 65))
            clear HC
            go_wp2_with (at_builtin; refine wpList_append_own _ rfl _ _ 31 rfl we.heap.size 65 i0 (.agg #[.string ⟨#[]⟩, .string ⟨#[]⟩, .string ⟨#[]⟩]) 3 48 Tryz.underlying31 hi hz0 hz1 hz2 rfl (by decide) _ _ _ rfl O1a.out ⟨wd.heap.size, 0, none⟩ 1 _ [.string s, .string p, .string o] rfl rfl HH.out (by first | exact flat_one _ | (intro x hx; simp at hx; rcases hx with rfl | rfl | rfl <;> rfl)) ?h63b ?h48b ?hbsb ?_)
            case h63b => rw [HLK.out]; unfold maxLen; omega
            case h48b => rw [HLK.out]; omega
            case hbsb => first | omega | (simp only [World.size_alloc]; omega)
            intro v2 w2 hown2 hg2 _
            have O2 : OwnT we.heap.size w2 v2 (tk ++ [(s, p, o)]) := own3_snoc (t := (s, p, o)) hown2
            have B2 : Below w.heap.size w w2 := B1a.grown hg2 B1a.size (fun j hj => by have := hne1 j hj; omega)
            have hs2 : we.heap.size + 1 ≤ w2.heap.size := by have := hg2.size; rw [World.size_alloc] at this; omega
            have HO2 := Lib.hid O2
            have hne2 := fun j hj => (World.ownsRow.lt O2 j hj).1
            clear hown2 hg2 O1a HH B1a O2 HO1 Xd Bd
            have HOX := HO2.out
            have F2 := (H.out.grown (w' := w2) ⟨B2.os, B2.tape, B2.output, B2.size, fun j hj _ => B2.block j hj⟩).back 0 (by rw [HT.out]; omega)
            rw [Nat.zero_mul, Nat.add_zero] at F2
            have hld : (ts.drop 0).length = len := by rw [List.length_drop, HT.out, Nat.sub_zero]
            obtain ⟨td, htd⟩ : ∃ l, ts.drop 0 = l := ⟨_, rfl⟩
            rw [htd] at hld F2 HR
            have HF2 := Lib.hid F2
            have HLD := Lib.hid hld
            have hlp : (tk ++ [(s, p, o)]).length = 0 + 1 := by first | exact HLK.out | (rw [List.length_append, HLK.out]; rfl)
            obtain ⟨pf, hpf⟩ : ∃ l, tk ++ [(s, p, o)] = l := ⟨_, rfl⟩
            rw [HTKE.out, hpf] at HR
            rw [hpf] at hlp HOX
            have HLP := Lib.hid hlp
            have HOY := Lib.hid HOX
            clear F2 hld hlp htd hpf HOX
            go_wp2_with (at_builtin; refine wpList_append_own _ rfl _ _ 31 rfl we.heap.size 65 i0 (.agg #[.string ⟨#[]⟩, .string ⟨#[]⟩, .string ⟨#[]⟩]) 3 48 Tryz.underlying31 hi hz0 hz1 hz2 rfl (by decide) _ _ _ rfl HOY.out ⟨b, off, none⟩ len _ (flat td) rfl (by rw [flat_len, HLD.out]) HF2.out (by first | exact flat_one _ | (intro x hx; simp at hx; rcases hx with rfl | rfl | rfl <;> rfl)) ?h63c ?h48c ?hbsc ?_)
            case h63c => rw [HLP.out]; unfold maxLen; omega
            case h48c => rw [HLP.out]; omega
            case hbsc => first | omega | (simp only [World.size_alloc]; omega)
            intro v3 w3 hown3 hg3 _
            have O3 : OwnT we.heap.size w3 v3 (pf ++ td) := by unfold OwnT; rw [List.length_append, HLD.out, flat_append]; exact hown3
            have B3 : Below w.heap.size w w3 := B2.grown hg3 B2.size (fun j hj => by have := hne2 j hj; omega)
            have O4 := own_base O3 (Nat.le_of_lt hcl)
            have HO4 := Lib.hid O4
            clear hown3 hg3 O3 O4 HF2
            go_wp2_with fail
            go_ret
            exact ⟨v3, rfl, by rw [HR.out]; exact HO4.out, B3⟩
        · have hkc : ¬ k = 0 := by omega
          go_wp2_with fail
          go_region_held3 (fun w' => w'.cell? ⟨w.heap.size, 0, none⟩ = some (.string s) ∧ w'.cell? ⟨w.heap.size, 1, none⟩ = some (.string p) ∧ w'.cell? ⟨w.heap.size, 2, none⟩ = some (.string o) ∧ w'.cell? ⟨b, off + k * 3, none⟩ = some (.string u.1) ∧ w'.cell? ⟨b, off + k * 3 + 1, none⟩ = some (.string u.2.1) ∧ w'.cell? ⟨b, off + k * 3 + 2, none⟩ = some (.string u.2.2))
            (first | go_keep | (go_split_ands; refine ⟨?_, ?_, ?_, ?_, ?_, ?_⟩ <;> (rw [ha4.cell (by first | (simp; done) | exact World.block_lt_of_cell? _ _ (by assumption))]; assumption)))
            (first
              | (go_at_call 97; refine (C1.out _).mono ?_; rintro e wa ⟨rfl, ha4⟩))
          have BE : Below w.heap.size w wa := hnx.drew.trans (ha4.mono hnx.size)
          have XE : Box wa w.heap.size (.string s) (.string p) (.string o) 65 := hbox.out.drew.next ha4
          clear ha4 hnx hbox c0 c1 c2 C1 d0 d1 d2
          generalize wa = we at BE XE ⊢
          have hcl : w.heap.size < we.heap.size := XE.lt
          have O0 : OwnT we.heap.size (we.alloc (.cells #[] 65)) (.slice (some ⟨we.heap.size, 0, none⟩) 0 0) [] := World.ownsRow_lit (size := 3) (e := 65) we #[] 0 (Nat.le_refl _) (by decide) rfl
          have BA := BE.alloc BE.size (.cells #[] 65)
          have XA := XE.alloc (.cells #[] 65)
          have F1 := (H.out.grown (w' := we.alloc (.cells #[] 65)) ⟨BA.os, BA.tape, BA.output, BA.size, fun j hj _ => BA.block j hj⟩).front k
          have HF1 := Lib.hid F1
          have HO := Lib.hid O0
          have hlk : (ts.take k).length = k := by rw [List.length_take, HT.out]; omega
          obtain ⟨tk, htk⟩ : ∃ l, ts.take k = l := ⟨_, rfl⟩
          rw [htk] at hlk HF1
          have HTKE := Lib.hid htk
          clear htk
          have HLK := Lib.hid hlk
          clear O0 F1 hlk BE XE
          go_wp2_with (at_builtin; refine wpList_append_own _ rfl _ _ 31 rfl we.heap.size 65 i0 (.agg #[.string ⟨#[]⟩, .string ⟨#[]⟩, .string ⟨#[]⟩]) 3 48 Tryz.underlying31 hi hz0 hz1 hz2 rfl (by decide) _ _ _ rfl HO.out ⟨b, off, none⟩ k _ (flat tk) rfl (by rw [flat_len, HLK.out]) HF1.out (by first | exact flat_one _ | (intro x hx; simp at hx; rcases hx with rfl | rfl | rfl <;> rfl)) ?h63a ?h48a ?hbsa ?_)
          case h63a => rw [List.length_nil]; unfold maxLen; omega
          case h48a => rw [List.length_nil]; omega
          case hbsa => first | omega | (simp only [World.size_alloc]; omega)
          intro v1 w1 hown1 hg1 _
          have O1 : OwnT we.heap.size w1 v1 tk := by unfold OwnT; rw [HLK.out]; simpa [flat] using hown1
          have B1 : Below w.heap.size w w1 := BA.grown hg1 BA.size (fun j hj => by simp [Value.ownBlock] at hj; omega)
          have X1 := XA.grown hg1 (by simp [Value.ownBlock]; omega)
          have hs1 : we.heap.size + 1 ≤ w1.heap.size := by have := hg1.size; rw [World.size_alloc] at this; omega
          have HO1 := Lib.hid O1
          have hne1 := fun j hj => (World.ownsRow.lt O1 j hj).1
          obtain ⟨e0, e1, e2⟩ := X1.cells
          clear hown1 hg1 HO HF1 BA XA O1
          obtain ⟨f0, f1, f2⟩ := DW.out
          rw [← B1.cell (p := ⟨b, off + k * 3, none⟩) hb] at f0
          rw [← B1.cell (p := ⟨b, off + k * 3 + 1, none⟩) hb] at f1
          rw [← B1.cell (p := ⟨b, off + k * 3 + 2, none⟩) hb] at f2
          clear DW
          by_cases he : u = (s, p, o)
          · subst he
            have HR : Hid (putT ts (s, p, o) = ts.take k ++ ts.drop k) := Lib.hid (put_same HA.out HTK.out)
            have EQ := tri_is s p o
            simp only at f0 f1 f2
            clear HA HTK
            go_wp2_with fail
            go_quiet (fail)
            clear EQ f0 f1 f2
            have Bd : Below w.heap.size w (w1.drewN nq) := below_drewN B1 nq
            have Od : OwnT we.heap.size (w1.drewN nq) v1 tk := HO1.out
            have Xd : Box (w1.drewN nq) w.heap.size (.string s) (.string p) (.string o) 65 := X1
            have hsd : we.heap.size + 1 ≤ (w1.drewN nq).heap.size := hs1
            clear e0 e1 e2 B1 X1 HO1 hs1
            generalize w1.drewN nq = wd at Bd Od Xd hsd ⊢
            have HO1 := Lib.hid Od
            obtain ⟨e0, e1, e2⟩ := Xd.cells
            clear Od
            have HOX := HO1.out
            have F2 := (H.out.grown (w' := wd) ⟨Bd.os, Bd.tape, Bd.output, Bd.size, fun j hj _ => Bd.block j hj⟩).back k (by rw [HT.out]; omega)
            have hld : (ts.drop k).length = (len - k) := by rw [List.length_drop, HT.out]
            obtain ⟨td, htd⟩ : ∃ l, ts.drop k = l := ⟨_, rfl⟩
            rw [htd] at hld F2 HR
            have HF2 := Lib.hid F2
            have HLD := Lib.hid hld
            have hlp : (tk).length = k := by first | exact HLK.out | (rw [List.length_append, HLK.out]; rfl)
            obtain ⟨pf, hpf⟩ : ∃ l, tk = l := ⟨_, rfl⟩
            rw [HTKE.out, hpf] at HR
            rw [hpf] at hlp HOX
            have HLP := Lib.hid hlp
            have HOY := Lib.hid HOX
            clear F2 hld hlp htd hpf HOX
            go_wp2_with (at_builtin; refine wpList_append_own _ rfl _ _ 31 rfl we.heap.size 65 i0 (.agg #[.string ⟨#[]⟩, .string ⟨#[]⟩, .string ⟨#[]⟩]) 3 48 Tryz.underlying31 hi hz0 hz1 hz2 rfl (by decide) _ _ _ rfl HOY.out ⟨b, off + k * 3, none⟩ (len - k) _ (flat td) rfl (by rw [flat_len, HLD.out]) HF2.out (by first | exact flat_one _ | (intro x hx; simp at hx; rcases hx with rfl | rfl | rfl <;> rfl)) ?h63c ?h48c ?hbsc ?_)
            case h63c => rw [HLP.out]; unfold maxLen; omega
            case h48c => rw [HLP.out]; omega
            case hbsc => first | omega | (simp only [World.size_alloc]; omega)
            intro v3 w3 hown3 hg3 _
            have O3 : OwnT we.heap.size w3 v3 (pf ++ td) := by unfold OwnT; rw [List.length_append, HLD.out, flat_append]; exact hown3
            have B3 : Below w.heap.size w w3 := Bd.grown hg3 Bd.size (fun j hj => by have := hne1 j hj; omega)
            have O4 := own_base O3 (Nat.le_of_lt hcl)
            have HO4 := Lib.hid O4
            clear hown3 hg3 O3 O4 HF2
            go_wp2_with fail
            go_ret
            exact ⟨v3, rfl, by rw [HR.out]; exact HO4.out, B3⟩
          · have HR : Hid (putT ts (s, p, o) = (ts.take k ++ [(s, p, o)]) ++ ts.drop k) := Lib.hid (put_more HA.out (by rw [HTK.out]; exact fun h => he (Option.some.inj h)))
            have EQ := tri_isnt he
            simp only at EQ
            clear HA HTK he
            go_wp2_with fail
            go_quiet (fail)
            clear EQ f0 f1 f2
            have Bd : Below w.heap.size w (w1.drewN nq) := below_drewN B1 nq
            have Od : OwnT we.heap.size (w1.drewN nq) v1 tk := HO1.out
            have Xd : Box (w1.drewN nq) w.heap.size (.string s) (.string p) (.string o) 65 := X1
            have hsd : we.heap.size + 1 ≤ (w1.drewN nq).heap.size := hs1
            clear e0 e1 e2 B1 X1 HO1 hs1
            generalize w1.drewN nq = wd at Bd Od Xd hsd ⊢
            have HO1 := Lib.hid Od
            obtain ⟨e0, e1, e2⟩ := Xd.cells
            clear Od
            have HC : ∀ (j : Nat) (x : Value), [Value.string s, .string p, .string o][j]? = some x → (wd.alloc (.cells #[.string s, .string p, .string o] 65)).cell? ((⟨wd.heap.size, 0, none⟩ : Addr).add j) = some x := three_cell
            have HH := Lib.hid HC
            have B1a := Bd.alloc Bd.size (.cells #[.string s, .string p, .string o] 65)
            have O1a := Lib.hid (World.ownsRow.alloc HO1.out (.cells #[.string s, .string p, .string o] 65))
            clear HC
            go_wp2_with (at_builtin; refine wpList_append_own _ rfl _ _ 31 rfl we.heap.size 65 i0 (.agg #[.string ⟨#[]⟩, .string ⟨#[]⟩, .string ⟨#[]⟩]) 3 48 Tryz.underlying31 hi hz0 hz1 hz2 rfl (by decide) _ _ _ rfl O1a.out ⟨wd.heap.size, 0, none⟩ 1 _ [.string s, .string p, .string o] rfl rfl HH.out (by first | exact flat_one _ | (intro x hx; simp at hx; rcases hx with rfl | rfl | rfl <;> rfl)) ?h63b ?h48b ?hbsb ?_)
            case h63b => rw [HLK.out]; unfold maxLen; omega
            case h48b => rw [HLK.out]; omega
            case hbsb => first | omega | (simp only [World.size_alloc]; omega)
            intro v2 w2 hown2 hg2 _
            have O2 : OwnT we.heap.size w2 v2 (tk ++ [(s, p, o)]) := own3_snoc (t := (s, p, o)) hown2
            have B2 : Below w.heap.size w w2 := B1a.grown hg2 B1a.size (fun j hj => by have := hne1 j hj; omega)
            have hs2 : we.heap.size + 1 ≤ w2.heap.size := by have := hg2.size; rw [World.size_alloc] at this; omega
            have HO2 := Lib.hid O2
            have hne2 := fun j hj => (World.ownsRow.lt O2 j hj).1
            clear hown2 hg2 O1a HH B1a O2 HO1 Xd Bd
            have HOX := HO2.out
            have F2 := (H.out.grown (w' := w2) ⟨B2.os, B2.tape, B2.output, B2.size, fun j hj _ => B2.block j hj⟩).back k (by rw [HT.out]; omega)
            have hld : (ts.drop k).length = (len - k) := by rw [List.length_drop, HT.out]
            obtain ⟨td, htd⟩ : ∃ l, ts.drop k = l := ⟨_, rfl⟩
            rw [htd] at hld F2 HR
            have HF2 := Lib.hid F2
            have HLD := Lib.hid hld
            have hlp : (tk ++ [(s, p, o)]).length = k + 1 := by first | exact HLK.out | (rw [List.length_append, HLK.out]; rfl)
            obtain ⟨pf, hpf⟩ : ∃ l, tk ++ [(s, p, o)] = l := ⟨_, rfl⟩
            rw [HTKE.out, hpf] at HR
            rw [hpf] at hlp HOX
            have HLP := Lib.hid hlp
            have HOY := Lib.hid HOX
            clear F2 hld hlp htd hpf HOX
            go_wp2_with (at_builtin; refine wpList_append_own _ rfl _ _ 31 rfl we.heap.size 65 i0 (.agg #[.string ⟨#[]⟩, .string ⟨#[]⟩, .string ⟨#[]⟩]) 3 48 Tryz.underlying31 hi hz0 hz1 hz2 rfl (by decide) _ _ _ rfl HOY.out ⟨b, off + k * 3, none⟩ (len - k) _ (flat td) rfl (by rw [flat_len, HLD.out]) HF2.out (by first | exact flat_one _ | (intro x hx; simp at hx; rcases hx with rfl | rfl | rfl <;> rfl)) ?h63c ?h48c ?hbsc ?_)
            case h63c => rw [HLP.out]; unfold maxLen; omega
            case h48c => rw [HLP.out]; omega
            case hbsc => first | omega | (simp only [World.size_alloc]; omega)
            intro v3 w3 hown3 hg3 _
            have O3 : OwnT we.heap.size w3 v3 (pf ++ td) := by unfold OwnT; rw [List.length_append, HLD.out, flat_append]; exact hown3
            have B3 : Below w.heap.size w w3 := B2.grown hg3 B2.size (fun j hj => by have := hne2 j hj; omega)
            have O4 := own_base O3 (Nat.le_of_lt hcl)
            have HO4 := Lib.hid O4
            clear hown3 hg3 O3 O4 HF2
            go_wp2_with fail
            go_ret
            exact ⟨v3, rfl, by rw [HR.out]; exact HO4.out, B3⟩
      · rw [hq] at A1
        have HN : Hid (∀ i u, i < k + 1 → ts[i]? = some u → aheadT u (s, p, o) = true) := Lib.hid (fun i v hi hv => by
          rcases Nat.lt_or_ge i k with g | g
          · exact hah.out i v g hv
          · obtain rfl : i = k := by omega
            rw [ht] at hv; obtain rfl := Option.some.inj hv; exact hq)
        have C1 := Lib.hid A1
        have l0 : b < wr.heap.size := Nat.lt_of_lt_of_le hb hnx.size
        have l1 : w.heap.size < wr.heap.size := hbox.out.lt
        clear A1 hq ht hts hcs hm m0 m1 m2 hah hl'
        go_wp2_with fail
        go_region_held3 (fun w' => w'.cell? ⟨w.heap.size, 0, none⟩ = some (.string s) ∧ w'.cell? ⟨w.heap.size, 1, none⟩ = some (.string p) ∧ w'.cell? ⟨w.heap.size, 2, none⟩ = some (.string o) ∧ w'.cell? ⟨b, off + k * 3, none⟩ = some (.string u.1) ∧ w'.cell? ⟨b, off + k * 3 + 1, none⟩ = some (.string u.2.1) ∧ w'.cell? ⟨b, off + k * 3 + 2, none⟩ = some (.string u.2.2))
          (first | go_keep | (go_split_ands; refine ⟨?_, ?_, ?_, ?_, ?_, ?_⟩ <;> (rw [ha4.cell (by first | (simp; done) | exact World.block_lt_of_cell? _ _ (by assumption))]; assumption)))
          (first
            | (go_at_call 97; refine (C1.out _).mono ?_; rintro e wa ⟨rfl, ha4⟩))
        have B2 : Below w.heap.size w wa := hnx.drew.trans (ha4.mono hnx.size)
        have X2 : Box wa w.heap.size (.string s) (.string p) (.string o) 65 := hbox.out.drew.next ha4
        clear ha4 hnx hbox c0 c1 c2 C1
        go_wp2_with fail
        go_roundw
        case rel => exact ⟨k + 1, by omega, by go_num, HN, Lib.hid X2, B2⟩
        case measure => simp [intOf]; omega
    · obtain rfl : k = len := by omega
      have HA : Hid (atT (s, p, o) ts = k) := Lib.hid (atT_front hah.out (by have := HT.out; omega) (fun v hv => by have := (List.getElem?_eq_some_iff.1 hv).1; have := HT.out; omega))
      have HNK : Hid (ts[k]? = none) := Lib.hid (List.getElem?_eq_none (by rw [HT.out]; exact Nat.le_refl _))
      clear hah
      rcases Nat.eq_zero_or_pos k with rfl | hk0
      · have hk9 : ¬ ((0 : Nat) : Int) < ((0 : Nat) : Int) := by omega
        rcases Nat.lt_or_eq_of_le hc1 with hcc | rfl
        · have hcd : ¬ 0 = cap := by omega
          go_wp2_with fail
          go_quiet (fail)
          have BE : Below w.heap.size w (wr.drewN nq) := below_drewN hnx nq
          have XE : Box (wr.drewN nq) w.heap.size (.string s) (.string p) (.string o) 65 := hbox.out
          clear hnx hbox c0 c1 c2
          generalize wr.drewN nq = we at BE XE ⊢
          have hcl : w.heap.size < we.heap.size := XE.lt
          have O0 : OwnT we.heap.size (we.alloc (.cells #[] 65)) (.slice (some ⟨we.heap.size, 0, none⟩) 0 0) [] := World.ownsRow_lit (size := 3) (e := 65) we #[] 0 (Nat.le_refl _) (by decide) rfl
          have BA := BE.alloc BE.size (.cells #[] 65)
          have XA := XE.alloc (.cells #[] 65)
          have F1 := (H.out.grown (w' := we.alloc (.cells #[] 65)) ⟨BA.os, BA.tape, BA.output, BA.size, fun j hj _ => BA.block j hj⟩).front 0
          have HF1 := Lib.hid F1
          have HO := Lib.hid O0
          have hlk : (ts.take 0).length = 0 := by rw [List.length_take, HT.out]; omega
          obtain ⟨tk, htk⟩ : ∃ l, ts.take 0 = l := ⟨_, rfl⟩
          rw [htk] at hlk HF1
          have HTKE := Lib.hid htk
          clear htk
          have HLK := Lib.hid hlk
          clear O0 F1 hlk BE XE
          go_wp2_with (at_builtin; refine wpList_append_own _ rfl _ _ 31 rfl we.heap.size 65 i0 (.agg #[.string ⟨#[]⟩, .string ⟨#[]⟩, .string ⟨#[]⟩]) 3 48 Tryz.underlying31 hi hz0 hz1 hz2 rfl (by decide) _ _ _ rfl HO.out ⟨b, off, none⟩ 0 _ (flat tk) rfl (by rw [flat_len, HLK.out]) HF1.out (by first | exact flat_one _ | (intro x hx; simp at hx; rcases hx with rfl | rfl | rfl <;> rfl)) ?h63a ?h48a ?hbsa ?_)
          case h63a => rw [List.length_nil]; unfold maxLen; omega
          case h48a => rw [List.length_nil]; omega
          case hbsa => first | omega | (simp only [World.size_alloc]; omega)
          intro v1 w1 hown1 hg1 _
          have O1 : OwnT we.heap.size w1 v1 tk := by unfold OwnT; rw [HLK.out]; simpa [flat] using hown1
          have B1 : Below w.heap.size w w1 := BA.grown hg1 BA.size (fun j hj => by simp [Value.ownBlock] at hj; omega)
          have X1 := XA.grown hg1 (by simp [Value.ownBlock]; omega)
          have hs1 : we.heap.size + 1 ≤ w1.heap.size := by have := hg1.size; rw [World.size_alloc] at this; omega
          have HO1 := Lib.hid O1
          have hne1 := fun j hj => (World.ownsRow.lt O1 j hj).1
          obtain ⟨e0, e1, e2⟩ := X1.cells
          clear hown1 hg1 HO HF1 BA XA O1
          have HR : Hid (putT ts (s, p, o) = ts.take 0 ++ [(s, p, o)]) := Lib.hid (by
            rw [put_more HA.out (by rw [HNK.out]; simp), List.drop_eq_nil_of_le (by rw [HT.out]; exact Nat.le_refl _), List.append_nil])
          clear HA HNK
          go_wp2_with fail
          go_quiet (fail)
          have Bd : Below w.heap.size w (w1.drewN nq) := below_drewN B1 nq
          have Od : OwnT we.heap.size (w1.drewN nq) v1 tk := HO1.out
          have Xd : Box (w1.drewN nq) w.heap.size (.string s) (.string p) (.string o) 65 := X1
          have hsd : we.heap.size + 1 ≤ (w1.drewN nq).heap.size := hs1
          clear e0 e1 e2 B1 X1 HO1 hs1
          generalize w1.drewN nq = wd at Bd Od Xd hsd ⊢
          have HO1 := Lib.hid Od
          obtain ⟨e0, e1, e2⟩ := Xd.cells
          clear Od
          have HC : ∀ (j : Nat) (x : Value), [Value.string s, .string p, .string o][j]? = some x → (wd.alloc (.cells #[.string s, .string p, .string o] 65)).cell? ((⟨wd.heap.size, 0, none⟩ : Addr).add j) = some x := three_cell
          have HH := Lib.hid HC
          have B1a := Bd.alloc Bd.size (.cells #[.string s, .string p, .string o] 65)
          have O1a := Lib.hid (World.ownsRow.alloc HO1.out (.cells #[.string s, .string p, .string o] 65))
          clear HC
          go_wp2_with (at_builtin; refine wpList_append_own _ rfl _ _ 31 rfl we.heap.size 65 i0 (.agg #[.string ⟨#[]⟩, .string ⟨#[]⟩, .string ⟨#[]⟩]) 3 48 Tryz.underlying31 hi hz0 hz1 hz2 rfl (by decide) _ _ _ rfl O1a.out ⟨wd.heap.size, 0, none⟩ 1 _ [.string s, .string p, .string o] rfl rfl HH.out (by first | exact flat_one _ | (intro x hx; simp at hx; rcases hx with rfl | rfl | rfl <;> rfl)) ?h63b ?h48b ?hbsb ?_)
          case h63b => rw [HLK.out]; unfold maxLen; omega
          case h48b => rw [HLK.out]; omega
          case hbsb => first | omega | (simp only [World.size_alloc]; omega)
          intro v2 w2 hown2 hg2 _
          have O2 : OwnT we.heap.size w2 v2 (tk ++ [(s, p, o)]) := own3_snoc (t := (s, p, o)) hown2
          have B2 : Below w.heap.size w w2 := B1a.grown hg2 B1a.size (fun j hj => by have := hne1 j hj; omega)
          have hs2 : we.heap.size + 1 ≤ w2.heap.size := by have := hg2.size; rw [World.size_alloc] at this; omega
          have HO2 := Lib.hid O2
          have hne2 := fun j hj => (World.ownsRow.lt O2 j hj).1
          clear hown2 hg2 O1a HH B1a O2 HO1 Xd Bd
          have HOX := HO2.out
          have hlp : (tk ++ [(s, p, o)]).length = 0 + 1 := by rw [List.length_append, HLK.out]; rfl
          obtain ⟨pf, hpf⟩ : ∃ l, tk ++ [(s, p, o)] = l := ⟨_, rfl⟩
          rw [HTKE.out, hpf] at HR
          rw [hpf] at hlp HOX
          have HLP := Lib.hid hlp
          have HOY := Lib.hid HOX
          clear hlp hpf HOX
          go_wp2_with (at_builtin; refine wpList_append_own _ rfl _ _ 31 rfl we.heap.size 65 i0 (.agg #[.string ⟨#[]⟩, .string ⟨#[]⟩, .string ⟨#[]⟩]) 3 48 Tryz.underlying31 hi hz0 hz1 hz2 rfl (by decide) _ _ _ rfl HOY.out _ 0 _ [] rfl rfl (fun j x hx => by simp at hx) (fun x hx => by simp at hx) ?h63c ?h48c ?hbsc ?_)
          case h63c => rw [HLP.out]; unfold maxLen; omega
          case h48c => rw [HLP.out]; omega
          case hbsc => first | omega | (simp only [World.size_alloc]; omega)
          intro v3 w3 hown3 hg3 _
          have O3 : OwnT we.heap.size w3 v3 pf := by unfold OwnT; simpa using hown3
          have B3 : Below w.heap.size w w3 := B2.grown hg3 B2.size (fun j hj => by have := hne2 j hj; omega)
          have O4 := own_base O3 (Nat.le_of_lt hcl)
          have HO4 := Lib.hid O4
          clear hown3 hg3 O3 O4
          go_wp2_with fail
          go_ret
          exact ⟨v3, rfl, by rw [HR.out]; exact HO4.out, B3⟩
        · go_wp2_with fail
          go_quiet (fail)
          have BE : Below w.heap.size w (wr.drewN nq) := below_drewN hnx nq
          have XE : Box (wr.drewN nq) w.heap.size (.string s) (.string p) (.string o) 65 := hbox.out
          clear hnx hbox c0 c1 c2
          generalize wr.drewN nq = we at BE XE ⊢
          have hcl : w.heap.size < we.heap.size := XE.lt
          have O0 : OwnT we.heap.size (we.alloc (.cells #[] 65)) (.slice (some ⟨we.heap.size, 0, none⟩) 0 0) [] := World.ownsRow_lit (size := 3) (e := 65) we #[] 0 (Nat.le_refl _) (by decide) rfl
          have BA := BE.alloc BE.size (.cells #[] 65)
          have XA := XE.alloc (.cells #[] 65)
          have F1 := (H.out.grown (w' := we.alloc (.cells #[] 65)) ⟨BA.os, BA.tape, BA.output, BA.size, fun j hj _ => BA.block j hj⟩).front 0
          have HF1 := Lib.hid F1
          have HO := Lib.hid O0
          have hlk : (ts.take 0).length = 0 := by rw [List.length_take, HT.out]; omega
          obtain ⟨tk, htk⟩ : ∃ l, ts.take 0 = l := ⟨_, rfl⟩
          rw [htk] at hlk HF1
          have HTKE := Lib.hid htk
          clear htk
          have HLK := Lib.hid hlk
          clear O0 F1 hlk BE XE
          go_wp2_with (at_builtin; refine wpList_append_own _ rfl _ _ 31 rfl we.heap.size 65 i0 (.agg #[.string ⟨#[]⟩, .string ⟨#[]⟩, .string ⟨#[]⟩]) 3 48 Tryz.underlying31 hi hz0 hz1 hz2 rfl (by decide) _ _ _ rfl HO.out ⟨b, off, none⟩ 0 _ (flat tk) rfl (by rw [flat_len, HLK.out]) HF1.out (by first | exact flat_one _ | (intro x hx; simp at hx; rcases hx with rfl | rfl | rfl <;> rfl)) ?h63a ?h48a ?hbsa ?_)
          case h63a => rw [List.length_nil]; unfold maxLen; omega
          case h48a => rw [List.length_nil]; omega
          case hbsa => first | omega | (simp only [World.size_alloc]; omega)
          intro v1 w1 hown1 hg1 _
          have O1 : OwnT we.heap.size w1 v1 tk := by unfold OwnT; rw [HLK.out]; simpa [flat] using hown1
          have B1 : Below w.heap.size w w1 := BA.grown hg1 BA.size (fun j hj => by simp [Value.ownBlock] at hj; omega)
          have X1 := XA.grown hg1 (by simp [Value.ownBlock]; omega)
          have hs1 : we.heap.size + 1 ≤ w1.heap.size := by have := hg1.size; rw [World.size_alloc] at this; omega
          have HO1 := Lib.hid O1
          have hne1 := fun j hj => (World.ownsRow.lt O1 j hj).1
          obtain ⟨e0, e1, e2⟩ := X1.cells
          clear hown1 hg1 HO HF1 BA XA O1
          have HR : Hid (putT ts (s, p, o) = ts.take 0 ++ [(s, p, o)]) := Lib.hid (by
            rw [put_more HA.out (by rw [HNK.out]; simp), List.drop_eq_nil_of_le (by rw [HT.out]; exact Nat.le_refl _), List.append_nil])
          clear HA HNK
          go_wp2_with fail
          go_quiet (fail)
          have Bd : Below w.heap.size w (w1.drewN nq) := below_drewN B1 nq
          have Od : OwnT we.heap.size (w1.drewN nq) v1 tk := HO1.out
          have Xd : Box (w1.drewN nq) w.heap.size (.string s) (.string p) (.string o) 65 := X1
          have hsd : we.heap.size + 1 ≤ (w1.drewN nq).heap.size := hs1
          clear e0 e1 e2 B1 X1 HO1 hs1
          generalize w1.drewN nq = wd at Bd Od Xd hsd ⊢
          have HO1 := Lib.hid Od
          obtain ⟨e0, e1, e2⟩ := Xd.cells
          clear Od
          have HC : ∀ (j : Nat) (x : Value), [Value.string s, .string p, .string o][j]? = some x → (wd.alloc (.cells #[.string s, .string p, .string o] 65)).cell? ((⟨wd.heap.size, 0, none⟩ : Addr).add j) = some x := three_cell
          have HH := Lib.hid HC
          have B1a := Bd.alloc Bd.size (.cells #[.string s, .string p, .string o] 65)
          have O1a := Lib.hid (World.ownsRow.alloc HO1.out (.cells #[.string s, .string p, .string o] 65))
          clear HC
          go_wp2_with (at_builtin; refine wpList_append_own _ rfl _ _ 31 rfl we.heap.size 65 i0 (.agg #[.string ⟨#[]⟩, .string ⟨#[]⟩, .string ⟨#[]⟩]) 3 48 Tryz.underlying31 hi hz0 hz1 hz2 rfl (by decide) _ _ _ rfl O1a.out ⟨wd.heap.size, 0, none⟩ 1 _ [.string s, .string p, .string o] rfl rfl HH.out (by first | exact flat_one _ | (intro x hx; simp at hx; rcases hx with rfl | rfl | rfl <;> rfl)) ?h63b ?h48b ?hbsb ?_)
          case h63b => rw [HLK.out]; unfold maxLen; omega
          case h48b => rw [HLK.out]; omega
          case hbsb => first | omega | (simp only [World.size_alloc]; omega)
          intro v2 w2 hown2 hg2 _
          have O2 : OwnT we.heap.size w2 v2 (tk ++ [(s, p, o)]) := own3_snoc (t := (s, p, o)) hown2
          have B2 : Below w.heap.size w w2 := B1a.grown hg2 B1a.size (fun j hj => by have := hne1 j hj; omega)
          have hs2 : we.heap.size + 1 ≤ w2.heap.size := by have := hg2.size; rw [World.size_alloc] at this; omega
          have HO2 := Lib.hid O2
          have hne2 := fun j hj => (World.ownsRow.lt O2 j hj).1
          clear hown2 hg2 O1a HH B1a O2 HO1 Xd Bd
          have HOX := HO2.out
          have hlp : (tk ++ [(s, p, o)]).length = 0 + 1 := by rw [List.length_append, HLK.out]; rfl
          obtain ⟨pf, hpf⟩ : ∃ l, tk ++ [(s, p, o)] = l := ⟨_, rfl⟩
          rw [HTKE.out, hpf] at HR
          rw [hpf] at hlp HOX
          have HLP := Lib.hid hlp
          have HOY := Lib.hid HOX
          clear hlp hpf HOX
          go_wp2_with (at_builtin; refine wpList_append_own _ rfl _ _ 31 rfl we.heap.size 65 i0 (.agg #[.string ⟨#[]⟩, .string ⟨#[]⟩, .string ⟨#[]⟩]) 3 48 Tryz.underlying31 hi hz0 hz1 hz2 rfl (by decide) _ _ _ rfl HOY.out _ 0 _ [] rfl rfl (fun j x hx => by simp at hx) (fun x hx => by simp at hx) ?h63c ?h48c ?hbsc ?_)
          case h63c => rw [HLP.out]; unfold maxLen; omega
          case h48c => rw [HLP.out]; omega
          case hbsc => first | omega | (simp only [World.size_alloc]; omega)
          intro v3 w3 hown3 hg3 _
          have O3 : OwnT we.heap.size w3 v3 pf := by unfold OwnT; simpa using hown3
          have B3 : Below w.heap.size w w3 := B2.grown hg3 B2.size (fun j hj => by have := hne2 j hj; omega)
          have O4 := own_base O3 (Nat.le_of_lt hcl)
          have HO4 := Lib.hid O4
          clear hown3 hg3 O3 O4
          go_wp2_with fail
          go_ret
          exact ⟨v3, rfl, by rw [HR.out]; exact HO4.out, B3⟩
      · have hk9 : ¬ (k : Int) < (k : Int) := by omega
        have hd : decide ((k : Int) < (k : Int)) = false := by simp
        have hkz : ¬ k = 0 := by omega
        rcases Nat.lt_or_eq_of_le hc1 with hcc | rfl
        · have hcd : ¬ k = cap := by omega
          go_wp2_with fail
          go_quiet (fail)
          have BE : Below w.heap.size w (wr.drewN nq) := below_drewN hnx nq
          have XE : Box (wr.drewN nq) w.heap.size (.string s) (.string p) (.string o) 65 := hbox.out
          clear hnx hbox c0 c1 c2
          generalize wr.drewN nq = we at BE XE ⊢
          have hcl : w.heap.size < we.heap.size := XE.lt
          have O0 : OwnT we.heap.size (we.alloc (.cells #[] 65)) (.slice (some ⟨we.heap.size, 0, none⟩) 0 0) [] := World.ownsRow_lit (size := 3) (e := 65) we #[] 0 (Nat.le_refl _) (by decide) rfl
          have BA := BE.alloc BE.size (.cells #[] 65)
          have XA := XE.alloc (.cells #[] 65)
          have F1 := (H.out.grown (w' := we.alloc (.cells #[] 65)) ⟨BA.os, BA.tape, BA.output, BA.size, fun j hj _ => BA.block j hj⟩).front k
          have HF1 := Lib.hid F1
          have HO := Lib.hid O0
          have hlk : (ts.take k).length = k := by rw [List.length_take, HT.out]; omega
          obtain ⟨tk, htk⟩ : ∃ l, ts.take k = l := ⟨_, rfl⟩
          rw [htk] at hlk HF1
          have HTKE := Lib.hid htk
          clear htk
          have HLK := Lib.hid hlk
          clear O0 F1 hlk BE XE
          go_wp2_with (at_builtin; refine wpList_append_own _ rfl _ _ 31 rfl we.heap.size 65 i0 (.agg #[.string ⟨#[]⟩, .string ⟨#[]⟩, .string ⟨#[]⟩]) 3 48 Tryz.underlying31 hi hz0 hz1 hz2 rfl (by decide) _ _ _ rfl HO.out ⟨b, off, none⟩ k _ (flat tk) rfl (by rw [flat_len, HLK.out]) HF1.out (by first | exact flat_one _ | (intro x hx; simp at hx; rcases hx with rfl | rfl | rfl <;> rfl)) ?h63a ?h48a ?hbsa ?_)
          case h63a => rw [List.length_nil]; unfold maxLen; omega
          case h48a => rw [List.length_nil]; omega
          case hbsa => first | omega | (simp only [World.size_alloc]; omega)
          intro v1 w1 hown1 hg1 _
          have O1 : OwnT we.heap.size w1 v1 tk := by unfold OwnT; rw [HLK.out]; simpa [flat] using hown1
          have B1 : Below w.heap.size w w1 := BA.grown hg1 BA.size (fun j hj => by simp [Value.ownBlock] at hj; omega)
          have X1 := XA.grown hg1 (by simp [Value.ownBlock]; omega)
          have hs1 : we.heap.size + 1 ≤ w1.heap.size := by have := hg1.size; rw [World.size_alloc] at this; omega
          have HO1 := Lib.hid O1
          have hne1 := fun j hj => (World.ownsRow.lt O1 j hj).1
          obtain ⟨e0, e1, e2⟩ := X1.cells
          clear hown1 hg1 HO HF1 BA XA O1
          have HR : Hid (putT ts (s, p, o) = ts.take k ++ [(s, p, o)]) := Lib.hid (by
            rw [put_more HA.out (by rw [HNK.out]; simp), List.drop_eq_nil_of_le (by rw [HT.out]; exact Nat.le_refl _), List.append_nil])
          clear HA HNK
          go_wp2_with fail
          go_quiet (fail)
          have Bd : Below w.heap.size w (w1.drewN nq) := below_drewN B1 nq
          have Od : OwnT we.heap.size (w1.drewN nq) v1 tk := HO1.out
          have Xd : Box (w1.drewN nq) w.heap.size (.string s) (.string p) (.string o) 65 := X1
          have hsd : we.heap.size + 1 ≤ (w1.drewN nq).heap.size := hs1
          clear e0 e1 e2 B1 X1 HO1 hs1
          generalize w1.drewN nq = wd at Bd Od Xd hsd ⊢
          have HO1 := Lib.hid Od
          obtain ⟨e0, e1, e2⟩ := Xd.cells
          clear Od
          have HC : ∀ (j : Nat) (x : Value), [Value.string s, .string p, .string o][j]? = some x → (wd.alloc (.cells #[.string s, .string p, .string o] 65)).cell? ((⟨wd.heap.size, 0, none⟩ : Addr).add j) = some x := three_cell
          have HH := Lib.hid HC
          have B1a := Bd.alloc Bd.size (.cells #[.string s, .string p, .string o] 65)
          have O1a := Lib.hid (World.ownsRow.alloc HO1.out (.cells #[.string s, .string p, .string o] 65))
          clear HC
          go_wp2_with (at_builtin; refine wpList_append_own _ rfl _ _ 31 rfl we.heap.size 65 i0 (.agg #[.string ⟨#[]⟩, .string ⟨#[]⟩, .string ⟨#[]⟩]) 3 48 Tryz.underlying31 hi hz0 hz1 hz2 rfl (by decide) _ _ _ rfl O1a.out ⟨wd.heap.size, 0, none⟩ 1 _ [.string s, .string p, .string o] rfl rfl HH.out (by first | exact flat_one _ | (intro x hx; simp at hx; rcases hx with rfl | rfl | rfl <;> rfl)) ?h63b ?h48b ?hbsb ?_)
          case h63b => rw [HLK.out]; unfold maxLen; omega
          case h48b => rw [HLK.out]; omega
          case hbsb => first | omega | (simp only [World.size_alloc]; omega)
          intro v2 w2 hown2 hg2 _
          have O2 : OwnT we.heap.size w2 v2 (tk ++ [(s, p, o)]) := own3_snoc (t := (s, p, o)) hown2
          have B2 : Below w.heap.size w w2 := B1a.grown hg2 B1a.size (fun j hj => by have := hne1 j hj; omega)
          have hs2 : we.heap.size + 1 ≤ w2.heap.size := by have := hg2.size; rw [World.size_alloc] at this; omega
          have HO2 := Lib.hid O2
          have hne2 := fun j hj => (World.ownsRow.lt O2 j hj).1
          clear hown2 hg2 O1a HH B1a O2 HO1 Xd Bd
          have HOX := HO2.out
          have hlp : (tk ++ [(s, p, o)]).length = k + 1 := by rw [List.length_append, HLK.out]; rfl
          obtain ⟨pf, hpf⟩ : ∃ l, tk ++ [(s, p, o)] = l := ⟨_, rfl⟩
          rw [HTKE.out, hpf] at HR
          rw [hpf] at hlp HOX
          have HLP := Lib.hid hlp
          have HOY := Lib.hid HOX
          clear hlp hpf HOX
          go_wp2_with (at_builtin; refine wpList_append_own _ rfl _ _ 31 rfl we.heap.size 65 i0 (.agg #[.string ⟨#[]⟩, .string ⟨#[]⟩, .string ⟨#[]⟩]) 3 48 Tryz.underlying31 hi hz0 hz1 hz2 rfl (by decide) _ _ _ rfl HOY.out _ 0 _ [] rfl rfl (fun j x hx => by simp at hx) (fun x hx => by simp at hx) ?h63c ?h48c ?hbsc ?_)
          case h63c => rw [HLP.out]; unfold maxLen; omega
          case h48c => rw [HLP.out]; omega
          case hbsc => first | omega | (simp only [World.size_alloc]; omega)
          intro v3 w3 hown3 hg3 _
          have O3 : OwnT we.heap.size w3 v3 pf := by unfold OwnT; simpa using hown3
          have B3 : Below w.heap.size w w3 := B2.grown hg3 B2.size (fun j hj => by have := hne2 j hj; omega)
          have O4 := own_base O3 (Nat.le_of_lt hcl)
          have HO4 := Lib.hid O4
          clear hown3 hg3 O3 O4
          go_wp2_with fail
          go_ret
          exact ⟨v3, rfl, by rw [HR.out]; exact HO4.out, B3⟩
        · go_wp2_with fail
          go_quiet (fail)
          have BE : Below w.heap.size w (wr.drewN nq) := below_drewN hnx nq
          have XE : Box (wr.drewN nq) w.heap.size (.string s) (.string p) (.string o) 65 := hbox.out
          clear hnx hbox c0 c1 c2
          generalize wr.drewN nq = we at BE XE ⊢
          have hcl : w.heap.size < we.heap.size := XE.lt
          have O0 : OwnT we.heap.size (we.alloc (.cells #[] 65)) (.slice (some ⟨we.heap.size, 0, none⟩) 0 0) [] := World.ownsRow_lit (size := 3) (e := 65) we #[] 0 (Nat.le_refl _) (by decide) rfl
          have BA := BE.alloc BE.size (.cells #[] 65)
          have XA := XE.alloc (.cells #[] 65)
          have F1 := (H.out.grown (w' := we.alloc (.cells #[] 65)) ⟨BA.os, BA.tape, BA.output, BA.size, fun j hj _ => BA.block j hj⟩).front k
          have HF1 := Lib.hid F1
          have HO := Lib.hid O0
          have hlk : (ts.take k).length = k := by rw [List.length_take, HT.out]; omega
          obtain ⟨tk, htk⟩ : ∃ l, ts.take k = l := ⟨_, rfl⟩
          rw [htk] at hlk HF1
          have HTKE := Lib.hid htk
          clear htk
          have HLK := Lib.hid hlk
          clear O0 F1 hlk BE XE
          go_wp2_with (at_builtin; refine wpList_append_own _ rfl _ _ 31 rfl we.heap.size 65 i0 (.agg #[.string ⟨#[]⟩, .string ⟨#[]⟩, .string ⟨#[]⟩]) 3 48 Tryz.underlying31 hi hz0 hz1 hz2 rfl (by decide) _ _ _ rfl HO.out ⟨b, off, none⟩ k _ (flat tk) rfl (by rw [flat_len, HLK.out]) HF1.out (by first | exact flat_one _ | (intro x hx; simp at hx; rcases hx with rfl | rfl | rfl <;> rfl)) ?h63a ?h48a ?hbsa ?_)
          case h63a => rw [List.length_nil]; unfold maxLen; omega
          case h48a => rw [List.length_nil]; omega
          case hbsa => first | omega | (simp only [World.size_alloc]; omega)
          intro v1 w1 hown1 hg1 _
          have O1 : OwnT we.heap.size w1 v1 tk := by unfold OwnT; rw [HLK.out]; simpa [flat] using hown1
          have B1 : Below w.heap.size w w1 := BA.grown hg1 BA.size (fun j hj => by simp [Value.ownBlock] at hj; omega)
          have X1 := XA.grown hg1 (by simp [Value.ownBlock]; omega)
          have hs1 : we.heap.size + 1 ≤ w1.heap.size := by have := hg1.size; rw [World.size_alloc] at this; omega
          have HO1 := Lib.hid O1
          have hne1 := fun j hj => (World.ownsRow.lt O1 j hj).1
          obtain ⟨e0, e1, e2⟩ := X1.cells
          clear hown1 hg1 HO HF1 BA XA O1
          have HR : Hid (putT ts (s, p, o) = ts.take k ++ [(s, p, o)]) := Lib.hid (by
            rw [put_more HA.out (by rw [HNK.out]; simp), List.drop_eq_nil_of_le (by rw [HT.out]; exact Nat.le_refl _), List.append_nil])
          clear HA HNK
          go_wp2_with fail
          go_quiet (fail)
          have Bd : Below w.heap.size w (w1.drewN nq) := below_drewN B1 nq
          have Od : OwnT we.heap.size (w1.drewN nq) v1 tk := HO1.out
          have Xd : Box (w1.drewN nq) w.heap.size (.string s) (.string p) (.string o) 65 := X1
          have hsd : we.heap.size + 1 ≤ (w1.drewN nq).heap.size := hs1
          clear e0 e1 e2 B1 X1 HO1 hs1
          generalize w1.drewN nq = wd at Bd Od Xd hsd ⊢
          have HO1 := Lib.hid Od
          obtain ⟨e0, e1, e2⟩ := Xd.cells
          clear Od
          have HC : ∀ (j : Nat) (x : Value), [Value.string s, .string p, .string o][j]? = some x → (wd.alloc (.cells #[.string s, .string p, .string o] 65)).cell? ((⟨wd.heap.size, 0, none⟩ : Addr).add j) = some x := three_cell
          have HH := Lib.hid HC
          have B1a := Bd.alloc Bd.size (.cells #[.string s, .string p, .string o] 65)
          have O1a := Lib.hid (World.ownsRow.alloc HO1.out (.cells #[.string s, .string p, .string o] 65))
          clear HC
          go_wp2_with (at_builtin; refine wpList_append_own _ rfl _ _ 31 rfl we.heap.size 65 i0 (.agg #[.string ⟨#[]⟩, .string ⟨#[]⟩, .string ⟨#[]⟩]) 3 48 Tryz.underlying31 hi hz0 hz1 hz2 rfl (by decide) _ _ _ rfl O1a.out ⟨wd.heap.size, 0, none⟩ 1 _ [.string s, .string p, .string o] rfl rfl HH.out (by first | exact flat_one _ | (intro x hx; simp at hx; rcases hx with rfl | rfl | rfl <;> rfl)) ?h63b ?h48b ?hbsb ?_)
          case h63b => rw [HLK.out]; unfold maxLen; omega
          case h48b => rw [HLK.out]; omega
          case hbsb => first | omega | (simp only [World.size_alloc]; omega)
          intro v2 w2 hown2 hg2 _
          have O2 : OwnT we.heap.size w2 v2 (tk ++ [(s, p, o)]) := own3_snoc (t := (s, p, o)) hown2
          have B2 : Below w.heap.size w w2 := B1a.grown hg2 B1a.size (fun j hj => by have := hne1 j hj; omega)
          have hs2 : we.heap.size + 1 ≤ w2.heap.size := by have := hg2.size; rw [World.size_alloc] at this; omega
          have HO2 := Lib.hid O2
          have hne2 := fun j hj => (World.ownsRow.lt O2 j hj).1
          clear hown2 hg2 O1a HH B1a O2 HO1 Xd Bd
          have HOX := HO2.out
          have hlp : (tk ++ [(s, p, o)]).length = k + 1 := by rw [List.length_append, HLK.out]; rfl
          obtain ⟨pf, hpf⟩ : ∃ l, tk ++ [(s, p, o)] = l := ⟨_, rfl⟩
          rw [HTKE.out, hpf] at HR
          rw [hpf] at hlp HOX
          have HLP := Lib.hid hlp
          have HOY := Lib.hid HOX
          clear hlp hpf HOX
          go_wp2_with (at_builtin; refine wpList_append_own _ rfl _ _ 31 rfl we.heap.size 65 i0 (.agg #[.string ⟨#[]⟩, .string ⟨#[]⟩, .string ⟨#[]⟩]) 3 48 Tryz.underlying31 hi hz0 hz1 hz2 rfl (by decide) _ _ _ rfl HOY.out _ 0 _ [] rfl rfl (fun j x hx => by simp at hx) (fun x hx => by simp at hx) ?h63c ?h48c ?hbsc ?_)
          case h63c => rw [HLP.out]; unfold maxLen; omega
          case h48c => rw [HLP.out]; omega
          case hbsc => first | omega | (simp only [World.size_alloc]; omega)
          intro v3 w3 hown3 hg3 _
          have O3 : OwnT we.heap.size w3 v3 pf := by unfold OwnT; simpa using hown3
          have B3 : Below w.heap.size w w3 := B2.grown hg3 B2.size (fun j hj => by have := hne2 j hj; omega)
          have O4 := own_base O3 (Nat.le_of_lt hcl)
          have HO4 := Lib.hid O4
          clear hown3 hg3 O3 O4
          go_wp2_with fail
          go_ret
          exact ⟨v3, rfl, by rw [HR.out]; exact HO4.out, B3⟩
open Go.RowKit Go.WideShapes
set_option maxRecDepth 100000 in
set_option maxHeartbeats 1600000 in
theorem specPutNil (s p o : ByteArray) (w : World) :
    Calls Tryz.prog 133 #[.slice none 0 0, .agg #[.string s, .string p, .string o]] w fun e w' => ∃ v, e = .returned v ∧ OwnT w.heap.size w' v (putT [] (s, p, o)) ∧ Below w.heap.size w w' := by
  obtain ⟨i0, hi, hz0, hz1, hz2⟩ := info_parts infoTri
  have HR : Hid (putT [] (s, p, o) = [(s, p, o)]) := Lib.hid (by unfold putT; simp [atT])
  have B0 := (Below.refl w.heap.size w).alloc (Nat.le_refl _) (.cells #[.string s, .string p, .string o] 65)
  have X0 := Box.new w (.string s) (.string p) (.string o) 65
  go_enter Tryz.func133, Tryz.ntmps133
  go_wp2_with fail
  refine wp_loop_rounds 1 ?_
  rw [rounds_succ]
  go_wp2_with fail
  go_quiet (fail)
  have BE : Below w.heap.size w (World.drewN (w.alloc (.cells #[.string s, .string p, .string o] 65)) nq) := below_drewN B0 nq
  have XE : Box (World.drewN (w.alloc (.cells #[.string s, .string p, .string o] 65)) nq) w.heap.size (.string s) (.string p) (.string o) 65 := X0
  clear B0 X0
  generalize World.drewN (w.alloc (.cells #[.string s, .string p, .string o] 65)) nq = we at BE XE ⊢
  have hcl : w.heap.size < we.heap.size := XE.lt
  have O0 : OwnT we.heap.size (we.alloc (.cells #[] 65)) (.slice (some ⟨we.heap.size, 0, none⟩) 0 0) [] := World.ownsRow_lit (size := 3) (e := 65) we #[] 0 (Nat.le_refl _) (by decide) rfl
  have BA := BE.alloc BE.size (.cells #[] 65)
  have XA := XE.alloc (.cells #[] 65)
  have hsA : we.heap.size + 1 ≤ (we.alloc (.cells #[] 65)).heap.size := by rw [World.size_alloc]; omega
  have HO := Lib.hid O0
  clear O0 BE XE
  go_wp2_with (at_builtin; refine wpList_append_own_none rfl _ _ 31 rfl we.heap.size 65 i0 3 Tryz.underlying31 hi _ _ _ rfl HO.out rfl ?_)
  go_wp2_with fail
  go_quiet (fail)
  have B1 : Below w.heap.size w (World.drewN (we.alloc (.cells #[] 65)) nq) := below_drewN BA nq
  have X1 : Box (World.drewN (we.alloc (.cells #[] 65)) nq) w.heap.size (.string s) (.string p) (.string o) 65 := XA
  have O1 : OwnT we.heap.size (World.drewN (we.alloc (.cells #[] 65)) nq) (.slice (some ⟨we.heap.size, 0, none⟩) 0 0) [] := HO.out
  have hs1 : we.heap.size + 1 ≤ (World.drewN (we.alloc (.cells #[] 65)) nq).heap.size := hsA
  clear BA XA HO hsA
  generalize World.drewN (we.alloc (.cells #[] 65)) nq = w1 at B1 X1 O1 hs1 ⊢
  obtain ⟨e0, e1, e2⟩ := X1.cells
  have HC : ∀ (j : Nat) (x : Value), [Value.string s, .string p, .string o][j]? = some x → (w1.alloc (.cells #[.string s, .string p, .string o] 65)).cell? ((⟨w1.heap.size, 0, none⟩ : Addr).add j) = some x := three_cell
  have HH := Lib.hid HC
  have B1a := B1.alloc B1.size (.cells #[.string s, .string p, .string o] 65)
  have O1a := Lib.hid (World.ownsRow.alloc O1 (.cells #[.string s, .string p, .string o] 65))
  clear HC O1
  go_wp2_with (at_builtin; refine wpList_append_own _ rfl _ _ 31 rfl we.heap.size 65 i0 (.agg #[.string ⟨#[]⟩, .string ⟨#[]⟩, .string ⟨#[]⟩]) 3 48 Tryz.underlying31 hi hz0 hz1 hz2 rfl (by decide) _ _ _ rfl O1a.out ⟨w1.heap.size, 0, none⟩ 1 _ [.string s, .string p, .string o] rfl rfl HH.out (by first | exact flat_one _ | (intro x hx; simp at hx; rcases hx with rfl | rfl | rfl <;> rfl)) ?h63b ?h48b ?hbsb ?_)
  case h63b => rw [List.length_nil]; unfold maxLen; omega
  case h48b => rw [List.length_nil]; omega
  case hbsb => simp only [World.size_alloc]; omega
  intro v2 w2 hown2 hg2 _
  have O2 : OwnT we.heap.size w2 v2 [(s, p, o)] := own3_snoc (ts := []) (t := (s, p, o)) hown2
  have B2 : Below w.heap.size w w2 := B1a.grown hg2 B1a.size (fun j hj => by simp [Value.ownBlock] at hj; omega)
  have O4 := own_base O2 (Nat.le_of_lt hcl)
  have HO4 := Lib.hid O4
  have HO2 := Lib.hid O2
  clear hown2 hg2 O1a HH B1a O2 O4 e0 e1 e2 X1 B1
  go_wp2_with (at_builtin; refine wpList_append_own_none rfl _ _ 31 rfl we.heap.size 65 i0 3 Tryz.underlying31 hi _ _ _ rfl HO2.out rfl ?_)
  go_wp2_with fail
  go_ret
  exact ⟨v2, rfl, by rw [HR.out]; exact HO4.out, B2⟩
theorem specPutAny (a : Option Addr) (len cap : Nat) (ts : List Tri3) (s p o : ByteArray) (w : World) (h : IsTris w a len cap ts) (hp : Plain a) (hl : len ≤ 1048576) :
    Calls Tryz.prog 133 #[.slice a len cap, .agg #[.string s, .string p, .string o]] w fun e w' => ∃ v, e = .returned v ∧ OwnT w.heap.size w' v (putT ts (s, p, o)) ∧ Below w.heap.size w w' := by
  rcases hp with rfl | ⟨b, off, rfl⟩
  · rcases h with ⟨_, rfl, rfl, rfl⟩ | ⟨x, hx, _⟩
    · exact specPutNil s p o w
    · cases hx
  · exact specPut b off len cap ts s p o w h hl
end Go.Proofs.YtiajdnhmjdfeeaaGreat
/- The specification's look for a triple, and triples without one. -/
namespace Go.Proofs.YtiajdnhmjdfeeaaGreat
open Go.RowKit Go.WideShapes
theorem OwnT.plain {B : Nat} {w : World} {v : Value} {ts : List Tri3} (h : OwnT B w v ts) (hm : ∀ t ∈ ts, t.1.size ≤ maxLen ∧ t.2.1.size ≤ maxLen ∧ t.2.2.size ≤ maxLen) : ∃ a cap, v = .slice a ts.length cap ∧ IsTris w a ts.length cap ts ∧ Plain a := by
  obtain ⟨a, cap, hv, hi⟩ := h.is hm
  refine ⟨a, cap, hv, hi, ?_⟩
  rcases h.2 with ⟨e, _⟩ | ⟨g, c, cur, e, _⟩
  · rw [hv] at e
    simp only [Value.slice.injEq] at e
    exact .inl e.1
  · rw [hv] at e
    simp only [Value.slice.injEq] at e
    exact .inr ⟨g, 0, e.1⟩
set_option maxRecDepth 100000 in
set_option maxHeartbeats 1600000 in
theorem specWith (a : Option Addr) (len cap : Nat) (ts : List Tri3) (s p o : ByteArray) (w : World) (h : IsTris w a len cap ts) (hpl : Plain a) (hsm : Sm ts) (hs : s.size ≤ 2097152) (hp : p.size ≤ 2097152) (ho : o.size ≤ 2097152) :
    Calls Tryz.prog 110 #[.slice a len cap, .agg #[.string s, .string p, .string o]] w (ResPost (withT ts (s, p, o)) w) := by
  have A1 := specGraphOk a len cap ts (w.alloc (.cells #[.string s, .string p, .string o] 65)) (h.next ((Below.refl w.heap.size w).alloc (Nat.le_refl _) _)) hsm
  have B0 := (Below.refl w.heap.size w).alloc (Nat.le_refl _) (.cells #[.string s, .string p, .string o] 65)
  have X0 := Box.new w (.string s) (.string p) (.string o) 65
  have h0 := h.next B0
  cases hg : graphOk ts
  · rw [hg] at A1
    have HR : Hid (withT ts (s, p, o) = none) := Lib.hid (by unfold withT; rw [hg]; simp)
    have C1 := Lib.hid A1
    clear A1 hg h h0 hsm X0
    go_enter Tryz.func110, Tryz.ntmps110
    go_wp2_with fail
    refine C1.out.mono ?_
    rintro e w1 ⟨rfl, hb1⟩
    go_wp2_with fail
    go_ret2
    rw [HR.out]
    exact ResPost.no (B0.trans (hb1.mono B0.size))
  rw [hg] at A1
  have hl := h.len
  have hl80 := graphOk_len hg
  have hlen : len ≤ 1048576 := by omega
  have C1 := Lib.hid A1
  have A2 := specTripleOk s p o hs hp ho
  change ∀ w, Calls _ _ _ w fun e w' => e = .returned (.bool (okT (s, p, o))) ∧ Below w.heap.size w w' at A2
  cases ht : okT (s, p, o)
  · rw [ht] at A2
    have HR : Hid (withT ts (s, p, o) = none) := Lib.hid (by unfold withT; rw [ht]; simp)
    have C2 := Lib.hid A2
    clear A1 A2 hg ht h h0 hsm hl hl80
    go_enter Tryz.func110, Tryz.ntmps110
    go_wp2_with fail
    refine C1.out.mono ?_
    rintro e w1 ⟨rfl, hb1⟩
    have X1 := X0.next hb1
    obtain ⟨c0, c1, c2⟩ := X1.cells
    have B1 := B0.trans (hb1.mono B0.size)
    clear X0 hb1 B0
    go_wp2_with fail
    refine (C2.out _).mono ?_
    rintro e w2 ⟨rfl, hb2⟩
    go_wp2_with fail
    go_ret2
    rw [HR.out]
    exact ResPost.no (B1.trans (hb2.mono B1.size))
  rw [ht] at A2
  have C2 := Lib.hid A2
  have hlp := putT_len ts (s, p, o)
  have hlp2 : (putT ts (s, p, o)).length ≤ 81 := by omega
  have HY : Hid ((putT ts (s, p, o)).length ≤ 80 → withT ts (s, p, o) = some (putT ts (s, p, o))) := Lib.hid (fun c => by unfold withT; rw [if_pos ⟨hg, ht, c⟩])
  have HN : Hid (¬ (putT ts (s, p, o)).length ≤ 80 → withT ts (s, p, o) = none) := Lib.hid (fun c => by unfold withT; rw [if_neg (fun h => c h.2.2)])
  have HP := Lib.hid hpl
  clear A1 A2 hg ht h hsm hl hl80 hlp hpl
  go_enter Tryz.func110, Tryz.ntmps110
  go_wp2_with fail
  refine C1.out.mono ?_
  rintro e w1 ⟨rfl, hb1⟩
  have X1 := X0.next hb1
  have h1 := h0.next hb1
  obtain ⟨c0, c1, c2⟩ := X1.cells
  have B1 := B0.trans (hb1.mono B0.size)
  clear X0 hb1 B0 h0
  go_wp2_with fail
  refine (C2.out _).mono ?_
  rintro e w2 ⟨rfl, hb2⟩
  have X2 := X1.next hb2
  have h2 := h1.next hb2
  have B2 := B1.trans (hb2.mono B1.size)
  clear X1 hb2 B1 h1 c0 c1 c2
  obtain ⟨c0, c1, c2⟩ := X2.cells
  have U := Lib.hid (specPutAny a len cap ts s p o w2 h2 HP.out hlen)
  clear h2
  go_wp2_with fail
  refine U.out.mono ?_
  rintro e w3 ⟨v, rfl, ho3, hb3⟩
  have O3 := own_base ho3 B2.size
  have B3 := B2.trans (hb3.mono B2.size)
  obtain ⟨uu, huu⟩ : ∃ l, putT ts (s, p, o) = l := ⟨_, rfl⟩
  rw [huu] at O3 HY HN hlp2
  obtain ⟨x, y, rfl⟩ : ∃ x y, v = .slice x uu.length y := by
    rcases O3.2 with ⟨rfl, e⟩ | ⟨g, c, cur, rfl, _⟩
    · exact ⟨none, 0, by rw [e]⟩
    · exact ⟨_, _, rfl⟩
  have HO := Lib.hid O3
  clear ho3 hb3 O3 U huu c0 c1 c2 X2
  by_cases c : (80 : Int) < (uu.length : Int)
  · have HR := Lib.hid (HN.out (by omega))
    clear HY HN
    go_wp2_with fail
    go_ret2
    rw [HR.out]
    exact ResPost.no B3
  · have HR := Lib.hid (HY.out (by omega))
    clear HY HN
    go_wp2_with fail
    go_ret2
    rw [HR.out]
    exact ResPost.yes HO.out B3
end Go.Proofs.YtiajdnhmjdfeeaaGreat
