/- Slices of triples become one map of them; such a map becomes a graph. -/
import Derived.Test.YthnpchcfjkepaaaG16
import Derived.Test.YthnpchcfjkepaaaG15
import Derived.Test.YthnpchcfjkepaaaG01
import Derived.Laws.StructEq
import Derived.Test.YthnpchcfjkepaaaG07
import Derived.Test.YthnpchcfjkepaaaG00
import Derived.Test.YthnpchcfjkepaaaG08
import Derived.Test.YthnpchcfjkepaaaG12
import Derived.Laws.AppendOwnNone
import Derived.Deep.RegionHeld3
namespace Go.Proofs.Ythnpchcfjkepaaa
open Go.RowKit Go.WideShapes Go.Maps
/-- A slice as a value's parts, and the triples that its cells hold. -/
abbrev Sl := Option Addr × Nat × Nat × List Tri3
def allT (LS : List Sl) : List Tri3 := LS.flatMap fun x => x.2.2.2
theorem allT_snoc (LS : List Sl) (x : Sl) : allT (LS ++ [x]) = allT LS ++ x.2.2.2 := by simp [allT]
theorem allT_take_le (LS : List Sl) (j : Nat) : (allT (LS.take j)).length ≤ (allT LS).length := by
  have : allT LS = allT (LS.take j) ++ allT (LS.drop j) := by unfold allT; rw [← List.flatMap_append, List.take_append_drop]
  rw [this, List.length_append]; omega
set_option maxRecDepth 100000 in
set_option maxHeartbeats 1600000 in
theorem implTripleSet (B n : Nat) (LS : List Sl) (w : World) (hn : LS.length = n) (hB : B < w.heap.size) (hn2 : n ≤ 2) (hT : (allT LS).length ≤ 1000)
    (hLS : ∀ (i : Nat) (x : Sl), LS[i]? = some x → w.cell? ⟨B, i, none⟩ = some (.slice x.1 x.2.1 x.2.2.1) ∧ IsTris w x.1 x.2.1 x.2.2.1 x.2.2.2) :
    Calls Try.prog 30 #[.slice (some ⟨B, 0, none⟩) n n] w fun e w' => ∃ b m, e = .returned (.map (some b)) ∧ w.heap.size ≤ b ∧ m ≤ 1000 ∧ OwnSet w' b m (addAll [] (allT LS)) ∧ Below w.heap.size w w' := by
  have hmm := @run_makeMap Try.prog
  have O0 := OwnSet.made w
  have B0 : Below w.heap.size w (w.alloc (.map #[] 0)) := (Below.refl w.heap.size w).alloc (Nat.le_refl _) _
  have HLS := Lib.hid hLS
  have HN := Lib.hid hn
  have HT := Lib.hid hT
  clear hLS hn hT
  go_enter Try.func30, Try.ntmps30
  go_wp2_with fail
  clear hmm
  go_loopw [11] (fun i wr => ∃ j : Nat, j ≤ n ∧ i = .int .i64 j ∧ Hid (OwnSet wr w.heap.size (allT (LS.take j)).length (addAll [] (allT (LS.take j)))) ∧ Below w.heap.size w wr) (fun i _ => n - (intOf i).toNat)
  case atStart => exact ⟨0, Nat.zero_le _, rfl, Lib.hid (by simpa [allT, addAll] using O0), B0⟩
  case round =>
    obtain ⟨j, hj, rfl, hown, hnx⟩ := hrel
    clear O0 B0
    by_cases hlt : j < n
    · have hx : LS[j]? = some (LS[j]'(by rw [HN.out]; exact hlt)) := List.getElem?_eq_getElem (by rw [HN.out]; exact hlt)
      obtain ⟨hc, his⟩ := HLS.out j _ hx
      have HS : Hid (LS.take (j + 1) = LS.take j ++ [LS[j]'(by rw [HN.out]; exact hlt)]) := Lib.hid (List.take_succ_eq_append_getElem (by rw [HN.out]; exact hlt))
      generalize LS[j]'(by rw [HN.out]; exact hlt) = x at hx hc his HS
      obtain ⟨a, len, cap, ts⟩ := x
      simp only at hc his
      have HA : Hid (allT (LS.take (j + 1)) = allT (LS.take j) ++ ts) := Lib.hid (by rw [HS.out, allT_snoc])
      have hle := allT_take_le LS (j + 1)
      have hsum : (allT (LS.take j)).length + ts.length ≤ 1000 := by
        rw [HA.out, List.length_append] at hle; have := HT.out; omega
      obtain ⟨p, hp⟩ : ∃ p, allT (LS.take j) = p := ⟨_, rfl⟩
      rw [hp] at HA hown hsum
      have hlen := his.len
      have hl1000 : len ≤ 1000 := by omega
      have HI := Lib.hid his
      have HL := Lib.hid hlen
      rw [← hnx.cell (p := ⟨B, j, none⟩) hB] at hc
      clear hx his hlen hp hle HS
      have hj6 : (0 : Int) ≤ (j : Int) := by omega
      have hj7 : (j : Int) < (n : Int) := by omega
      go_wp2_with fail
      obtain ⟨wo, hwo⟩ : ∃ wo : World, wo = wr := ⟨_, rfl⟩
      go_loopw [17] (fun i w2 => ∃ k : Nat, k ≤ len ∧ i = .int .i64 k ∧ Hid (OwnSet w2 w.heap.size (p.length + k) (addAll [] (p ++ ts.take k))) ∧ Below w.heap.size w w2) (fun i _ => len - (intOf i).toNat)
      case atStart => exact ⟨0, Nat.zero_le _, rfl, Lib.hid (by simpa using hown.out), hnx⟩
      case round =>
        obtain ⟨k, hk, rfl, hown2, hnx2⟩ := hrel
        clear hown hnx hc hwo
        by_cases hlt2 : k < len
        · obtain ⟨b, off, rfl, hb, hl, hm, hts, hcs⟩ := HI.out.cells (by omega)
          have ht : ts[k]? = some (ts[k]'(by omega)) := List.getElem?_eq_getElem (by omega)
          have HS : Hid (ts.take (k + 1) = ts.take k ++ [ts[k]'(by omega)]) := Lib.hid (List.take_succ_eq_append_getElem (by omega))
          obtain ⟨c0, c1, c2, m0, m1, m2⟩ := hcs k _ ht
          generalize ts[k]'(by omega) = t at c0 c1 c2 m0 m1 m2 HS
          have hsk : SmK t := ⟨m0, m1, m2⟩
          have HX : Hid (addAll [] (p ++ ts.take (k + 1)) = addT (addAll [] (p ++ ts.take k)) t) := Lib.hid (by rw [HS.out, ← List.append_assoc, addAll_snoc])
          obtain ⟨acc, hacc⟩ : ∃ acc, addAll [] (p ++ ts.take k) = acc := ⟨_, rfl⟩
          rw [hacc] at HX hown2
          rw [← hnx2.cell (p := ⟨b, _, none⟩) hb] at c0 c1 c2
          obtain ⟨t0, t1, t2⟩ := t
          simp only at c0 c1 c2
          clear ht hts hcs m0 m1 m2 hacc HS
          have hk6 : (0 : Int) ≤ (k : Int) := by omega
          have hk7 : (k : Int) < (len : Int) := by omega
          have hml : p.length + k < maxLen := by unfold maxLen; omega
          have O1 := Lib.hid (hown2.out.alloc (.cells #[.string t0, .string t1, .string t2] 34))
          have B1 := hnx2.alloc hnx2.size (.cells #[.string t0, .string t1, .string t2] 34)
          clear hown2 hnx2
          go_wp2_with (at_mapUpdate; refine wpList_putG _ rfl _ _ _ rfl w.heap.size (p.length + k) acc rfl O1.out hml (t0, t1, t2) hsk rfl rfl ?_)
          intro w4 hown4 hg4
          have B4 : Below w.heap.size w w4 := B1.grown hg4 B1.size (fun r e => by cases e; exact Nat.le_refl _)
          have H4 : Hid (OwnSet w4 w.heap.size (p.length + (k + 1)) (addAll [] (p ++ ts.take (k + 1)))) := Lib.hid (by rw [HX.out]; exact hown4)
          clear hown4 hg4 O1 B1 HX c0 c1 c2
          go_wp2_with fail
          go_roundw
          case rel => exact ⟨k + 1, by omega, by go_num, H4, B4⟩
          case measure => simp [intOf]; omega
        · obtain rfl : k = len := by omega
          have H4 : Hid (OwnSet wr w.heap.size (allT (LS.take (j + 1))).length (addAll [] (allT (LS.take (j + 1))))) := Lib.hid (by
            have := hown2.out
            rw [List.take_of_length_le (by rw [HL.out]; exact Nat.le_refl _)] at this
            rw [HA.out, List.length_append, HL.out]; exact this)
          clear hown2
          go_wp2_with fail
          go_roundw
          case rel => exact ⟨j + 1, by omega, by go_num, H4, hnx2⟩
          case measure => simp [intOf]; omega
    · obtain rfl : j = n := by omega
      have H4 : Hid (OwnSet wr w.heap.size (allT LS).length (addAll [] (allT LS))) := Lib.hid (by
        have := hown.out
        rwa [List.take_of_length_le (by rw [HN.out]; exact Nat.le_refl _)] at this)
      go_wp2_with fail
      go_ret
      exact ⟨_, _, rfl, Nat.le_refl _, HT.out, H4.out, hnx⟩
end Go.Proofs.Ythnpchcfjkepaaa
/- '==' and '!=' on triples. -/
namespace Go.Proofs.Ythnpchcfjkepaaa
open Go.RowKit
theorem tri_under : Try.prog.underlying 34 = some (.struct (Try.prog.fieldsOf 34)) := by kernel_rfl
theorem tri_stood : Try.prog.stoodInHeld 34 = false := by kernel_rfl
theorem tri_guard : Try.prog.eqGuardType Try.prog.depth 34 = false := by kernel_rfl
theorem tri_list : ((Try.prog.fieldsOf 34).toList.map fun f => (f.name, f.type, f.offset)) = [("S", 9, 0), ("P", 9, 1), ("O", 9, 2)] := by kernel_rfl
theorem part0 (a b c : ByteArray) (w : World) : (part 9 #[.string a, .string b, .string c] 0).run Try.prog w = .ok (.string a) w := by kernel_rfl
theorem part1 (a b c : ByteArray) (w : World) : (part 9 #[.string a, .string b, .string c] 1).run Try.prog w = .ok (.string b) w := by kernel_rfl
theorem part2 (a b c : ByteArray) (w : World) : (part 9 #[.string a, .string b, .string c] 2).run Try.prog w = .ok (.string c) w := by kernel_rfl
theorem str_eq (a b : ByteArray) (w : World) : (Op.equalIn 9999 9 (.string a) (.string b)).run Try.prog w = .ok (a.toList == b.toList) w := run_equalIn_string w 9998 9 a b Try.underlying9
theorem tri_eq (s p o s' p' o' : ByteArray) (w : World) : (Op.equalIn 10000 34 (.agg #[.string s, .string p, .string o]) (.agg #[.string s', .string p', .string o'])).run Try.prog w =
    .ok (s.toList == s'.toList && (p.toList == p'.toList && o.toList == o'.toList)) w := by
  rw [run_equalIn_agg w 9999 34 _ _ tri_under tri_stood]
  have h := tri_list
  generalize (Try.prog.fieldsOf 34).toList = fs at h ⊢
  rcases fs with _ | ⟨f0, _ | ⟨f1, _ | ⟨f2, _ | ⟨f3, r⟩⟩⟩⟩
  · simp at h
  · simp at h
  · simp at h
  · simp only [List.map_cons, List.map_nil, List.cons.injEq, Prod.mk.injEq, and_true] at h
    obtain ⟨⟨n0, t0, o0⟩, ⟨n1, t1, o1⟩, ⟨n2, t2, o2⟩⟩ := h
    simp only [Op.eqFields, n0, n1, n2, t0, t1, t2, o0, o1, o2]
    cases h1 : (s.toList == s'.toList) <;> cases h2 : (p.toList == p'.toList) <;> cases h3 : (o.toList == o'.toList) <;> simp [part0, part1, part2, str_eq, h1, h2, h3]
  · simp at h
theorem tri_ne (s p o s' p' o' : ByteArray) (w : World) : (binOp .neq 34 (.agg #[.string s, .string p, .string o]) (.agg #[.string s', .string p', .string o'])).run Try.prog w =
    .ok (.bool !(s.toList == s'.toList && (p.toList == p'.toList && o.toList == o'.toList))) w := by
  rw [run_neq_struct, tri_eq]; rfl
theorem tri_same (s p o : ByteArray) (w : World) : (binOp .neq 34 (.agg #[.string s, .string p, .string o]) (.agg #[.string s, .string p, .string o])).run Try.prog w = .ok (.bool false) w := by
  rw [tri_ne]; simp
open Go.RowKit Go.WideShapes
theorem tri_eql (s p o s' p' o' : ByteArray) (w : World) : (binOp .eql 34 (.agg #[.string s, .string p, .string o]) (.agg #[.string s', .string p', .string o'])).run Try.prog w =
    .ok (.bool (s.toList == s'.toList && (p.toList == p'.toList && o.toList == o'.toList))) w := by
  rw [run_eql_struct, tri_eq]; rfl
theorem tri_is (s p o : ByteArray) (w : World) : (binOp .eql 34 (.agg #[.string s, .string p, .string o]) (.agg #[.string s, .string p, .string o])).run Try.prog w = .ok (.bool true) w := by
  rw [tri_eql]; simp
theorem tri_not {t u : Tri3} (h : t ≠ u) : (t.1.toList == u.1.toList && (t.2.1.toList == u.2.1.toList && t.2.2.toList == u.2.2.toList)) = false := by
  cases e : (t.1.toList == u.1.toList && (t.2.1.toList == u.2.1.toList && t.2.2.toList == u.2.2.toList))
  · rfl
  · exfalso
    simp only [Bool.and_eq_true, beq_iff_eq, ByteArray.toList_eq] at e
    obtain ⟨t1, t2, t3⟩ := t
    obtain ⟨u1, u2, u3⟩ := u
    have e1 := data_inj e.1
    have e2 := data_inj e.2.1
    have e3 := data_inj e.2.2
    simp only at e1 e2 e3
    exact h (by rw [e1, e2, e3])
theorem tri_isnt {t u : Tri3} (h : t ≠ u) (w : World) : (binOp .eql 34 (.agg #[.string t.1, .string t.2.1, .string t.2.2]) (.agg #[.string u.1, .string u.2.1, .string u.2.2])).run Try.prog w = .ok (.bool false) w := by
  rw [tri_eql, tri_not h]
end Go.Proofs.Ythnpchcfjkepaaa
/- The program's With, Without and Union. -/
namespace Go.Proofs.Ythnpchcfjkepaaa
open Go.RowKit Go.WideShapes Go.Maps
/-- A graph and true, or none and false. -/
def ResPost (r : Option (List Tri3)) (w : World) (e : Ending) (w' : World) : Prop :=
  ∃ v, e = .returned (.tuple #[v, .bool r.isSome]) ∧ OwnT w.heap.size w' v (r.getD []) ∧ Below w.heap.size w w'
theorem ResPost.no {w w' : World} (hb : Below w.heap.size w w') : ResPost none w (.returned (.tuple #[.slice none 0 0, .bool false])) w' := ⟨_, rfl, World.ownsRow_nil .., hb⟩
theorem ResPost.yes {w w' : World} {v : Value} {ts : List Tri3} (h : OwnT w.heap.size w' v ts) (hb : Below w.heap.size w w') : ResPost (some ts) w (.returned (.tuple #[v, .bool true])) w' := ⟨_, rfl, h, hb⟩
theorem ResPost.far {r : Option (List Tri3)} {w w0 w' : World} {e : Ending} (h : ResPost r w0 e w') (hb : Below w.heap.size w w0) : ResPost r w e w' := by
  obtain ⟨v, he, ho, hb'⟩ := h
  exact ⟨v, he, own_base ho hb.size, hb.trans (hb'.mono hb.size)⟩
def ofSet (ts : List Tri3) : Option (List Tri3) := if ts.length ≤ 80 then some (sortT ts) else none
theorem ofSet_with {ts us : List Tri3} {t : Tri3} (hg : graphOk ts = true) (ht : okT t = true) (hn : us.Nodup) (hm : ∀ u, u ∈ us ↔ u ∈ ts ∨ u = t) : ofSet us = withT ts t := by
  have e := sort_with hg hn hm
  have l : us.length = (putT ts t).length := by rw [← e, sortT_len]
  unfold ofSet withT
  by_cases c : us.length ≤ 80
  · rw [if_pos c, if_pos ⟨hg, ht, by omega⟩, e]
  · rw [if_neg c, if_neg (fun h => c (by omega))]
theorem ofSet_without {ts us : List Tri3} {t : Tri3} (hg : graphOk ts = true) (ht : t ∈ ts) (hn : us.Nodup) (hm : ∀ u, u ∈ us ↔ u ≠ t ∧ u ∈ ts) : ofSet us = withoutT ts t := by
  have e := sort_without hg hn hm
  have l : us.length = (lessT ts t).length := by rw [← e, sortT_len]
  have := lessT_len ts t
  have := graphOk_len hg
  unfold ofSet withoutT
  rw [if_pos (by omega), if_pos ⟨hg, ht⟩, e]
theorem ofSet_union {a b us : List Tri3} (ha : graphOk a = true) (hb : graphOk b = true) (hn : us.Nodup) (hm : ∀ u, u ∈ us ↔ u ∈ a ∨ u ∈ b) : ofSet us = unionO a b := by
  have e := sort_union ha hn hm
  have l : us.length = (unionT a b).length := by rw [← e, sortT_len]
  unfold ofSet unionO
  by_cases c : us.length ≤ 80
  · rw [if_pos c, if_pos ⟨ha, hb, by omega⟩, e]
  · rw [if_neg c, if_neg (fun h => c (by omega))]
theorem allT_one (a : Option Addr) (len cap : Nat) (ts : List Tri3) : allT [(a, len, cap, ts)] = ts := by simp [allT]
open Go.RowKit Go.WideShapes
/-- The place of a slice is a block's own. -/
def Plain (a : Option Addr) : Prop := a = none ∨ ∃ b off, a = some ⟨b, off, none⟩
open Go.RowKit Go.WideShapes
theorem atT_front {t : Tri3} {ts : List Tri3} {k : Nat} (h1 : ∀ i u, i < k → ts[i]? = some u → aheadT u t = true) (hk : k ≤ ts.length) (h2 : ∀ u, ts[k]? = some u → aheadT u t = false) : atT t ts = k := atT_is h1 hk h2
theorem put_same {ts : List Tri3} {t : Tri3} {k : Nat} (h : atT t ts = k) (hk : ts[k]? = some t) : putT ts t = ts.take k ++ ts.drop k := by rw [putT_here (by rw [h]; exact hk), List.take_append_drop]
theorem put_more {ts : List Tri3} {t : Tri3} {k : Nat} (h : atT t ts = k) (hk : ts[k]? ≠ some t) : putT ts t = (ts.take k ++ [t]) ++ ts.drop k := by rw [putT_new (by rw [h]; exact hk), h]; simp
set_option maxRecDepth 100000 in
set_option maxHeartbeats 1600000 in
theorem specPut (b off len cap : Nat) (ts : List Tri3) (s p o : ByteArray) (w : World) (h : IsTris w (some ⟨b, off, none⟩) len cap ts) (hl : len ≤ 1048576) :
    Calls Try.prog 69 #[.slice (some ⟨b, off, none⟩) len cap, .agg #[.string s, .string p, .string o]] w fun e w' => ∃ v, e = .returned v ∧ OwnT w.heap.size w' v (putT ts (s, p, o)) ∧ Below w.heap.size w w' := by
  have hts := h.len
  have hcap : len ≤ cap ∧ cap ≤ maxLen := by
    rcases h with ⟨h, _⟩ | ⟨x, _, h1, h2, _⟩
    · cases h
    · exact ⟨h1, h2⟩
  unfold maxLen at hcap
  obtain ⟨hc1, hc2⟩ := hcap
  obtain ⟨i0, hi, hz0, hz1, hz2⟩ := info_parts infoTri
  have H := Lib.hid h
  have HT := Lib.hid hts
  have B0 := (Below.refl w.heap.size w).alloc (Nat.le_refl _) (.cells #[.string s, .string p, .string o] 34)
  have X0 := Box.new w (.string s) (.string p) (.string o) 34
  clear h hts
  go_enter Try.func69, Try.ntmps69
  go_wp2_with fail
  go_loopw [5] (fun i wr => ∃ k : Nat, k ≤ len ∧ i = .int .i64 k ∧ Hid (∀ i u, i < k → ts[i]? = some u → aheadT u (s, p, o) = true) ∧ Hid (Box wr w.heap.size (.string s) (.string p) (.string o) 34) ∧ Below w.heap.size w wr) (fun i _ => len - (intOf i).toNat)
  case atStart => exact ⟨0, Nat.zero_le _, rfl, Lib.hid (fun i u hi => by omega), Lib.hid X0, B0⟩
  case round =>
    obtain ⟨k, hk, rfl, hah, hbox, hnx⟩ := hrel
    clear X0 B0
    have hk6 : (0 : Int) ≤ (k : Int) := by omega
    obtain ⟨c0, c1, c2⟩ := hbox.out.cells
    have hk8 : k ≤ 1048576 := by omega
    by_cases hlt : k < len
    · have hk7 : (k : Int) < (len : Int) := by omega
      obtain ⟨b', off', hbo, hb, hl', hm, hts, hcs⟩ := H.out.cells (by omega)
      cases hbo
      have ht : ts[k]? = some (ts[k]'(by omega)) := List.getElem?_eq_getElem (by omega)
      obtain ⟨d0, d1, d2, m0, m1, m2⟩ := hcs k _ ht
      have DW := Lib.hid (And.intro d0 (And.intro d1 d2))
      rw [← hnx.cell (p := ⟨b, _, none⟩) hb] at d0 d1 d2
      generalize ts[k]'(by omega) = u at ht d0 d1 d2 m0 m1 m2 DW
      have A1 := specAhead u.1 u.2.1 u.2.2 s p o
      change ∀ w, Calls _ _ _ w fun e w' => e = .returned (.bool (aheadT u (s, p, o))) ∧ Below w.heap.size w w' at A1
      cases hq : aheadT u (s, p, o)
      · rw [hq] at A1
        have C1 := Lib.hid A1
        have HA : Hid (atT (s, p, o) ts = k) := Lib.hid (atT_front hah.out (by have := HT.out; omega) (fun v hv => by rw [ht] at hv; obtain rfl := Option.some.inj hv; exact hq))
        have l0 : b < wr.heap.size := Nat.lt_of_lt_of_le hb hnx.size
        have l1 : w.heap.size < wr.heap.size := hbox.out.lt
        have HTK := Lib.hid ht
        clear A1 hq ht hts hcs hm m0 m1 m2 hah hl'
        rcases Nat.eq_zero_or_pos k with rfl | hk0
        · simp only [Nat.zero_mul, Nat.add_zero] at d0 d1 d2 DW
          go_wp2_with fail
          go_region_held3 (fun w' => w'.cell? ⟨w.heap.size, 0, none⟩ = some (.string s) ∧ w'.cell? ⟨w.heap.size, 1, none⟩ = some (.string p) ∧ w'.cell? ⟨w.heap.size, 2, none⟩ = some (.string o) ∧ w'.cell? ⟨b, off, none⟩ = some (.string u.1) ∧ w'.cell? ⟨b, off + 1, none⟩ = some (.string u.2.1) ∧ w'.cell? ⟨b, off + 2, none⟩ = some (.string u.2.2))
            (first | go_keep | (go_split_ands; refine ⟨?_, ?_, ?_, ?_, ?_, ?_⟩ <;> (rw [ha4.cell (by first | (simp; done) | exact World.block_lt_of_cell? _ _ (by assumption))]; assumption)))
            (first
              | (go_at_call 103; refine (C1.out _).mono ?_; rintro e wa ⟨rfl, ha4⟩))
          have BE : Below w.heap.size w wa := hnx.drew.trans (ha4.mono hnx.size)
          have XE : Box wa w.heap.size (.string s) (.string p) (.string o) 34 := hbox.out.drew.next ha4
          clear ha4 hnx hbox c0 c1 c2 C1 d0 d1 d2
          generalize wa = we at BE XE ⊢
          have hcl : w.heap.size < we.heap.size := XE.lt
          have O0 : OwnT we.heap.size (we.alloc (.cells #[] 34)) (.slice (some ⟨we.heap.size, 0, none⟩) 0 0) [] := World.ownsRow_lit (size := 3) (e := 34) we #[] 0 (Nat.le_refl _) (by decide) rfl
          have BA := BE.alloc BE.size (.cells #[] 34)
          have XA := XE.alloc (.cells #[] 34)
          have F1 := (H.out.grown (w' := we.alloc (.cells #[] 34)) ⟨BA.os, BA.tape, BA.output, BA.size, fun j hj _ => BA.block j hj⟩).front 0
          have HF1 := Lib.hid F1
          have HO := Lib.hid O0
          have hlk : (ts.take 0).length = 0 := by rw [List.length_take, HT.out]; omega
          obtain ⟨tk, htk⟩ : ∃ l, ts.take 0 = l := ⟨_, rfl⟩
          rw [htk] at hlk HF1
          have HTKE := Lib.hid htk
          clear htk
          have HLK := Lib.hid hlk
          clear O0 F1 hlk BE XE
          go_wp2_with (at_builtin; refine wpList_append_own _ rfl _ _ 26 rfl we.heap.size 34 i0 (.agg #[.string ⟨#[]⟩, .string ⟨#[]⟩, .string ⟨#[]⟩]) 3 48 Try.underlying26 hi hz0 hz1 hz2 rfl (by decide) _ _ _ rfl HO.out ⟨b, off, none⟩ 0 _ (flat tk) rfl (by rw [flat_len, HLK.out]) HF1.out (by first | exact flat_one _ | (intro x hx; simp at hx; rcases hx with rfl | rfl | rfl <;> rfl)) ?h63a ?h48a ?hbsa ?_)
          case h63a => rw [List.length_nil]; unfold maxLen; omega
          case h48a => rw [List.length_nil]; omega
          case hbsa => first | omega | (simp only [World.size_alloc]; omega)
          intro v1 w1 hown1 hg1 _
          have O1 : OwnT we.heap.size w1 v1 tk := by unfold OwnT; rw [HLK.out]; simpa [flat] using hown1
          have B1 : Below w.heap.size w w1 := BA.grown hg1 BA.size (fun j hj => by simp [Value.ownBlock] at hj; omega)
          have X1 := XA.grown hg1 (by simp [Value.ownBlock]; omega)
          have hs1 : we.heap.size + 1 ≤ w1.heap.size := by have := hg1.size; rw [World.size_alloc] at this; omega
          have HO1 := Lib.hid O1
          have hne1 := fun j hj => (World.ownsRow.lt O1 j hj).1
          obtain ⟨e0, e1, e2⟩ := X1.cells
          clear hown1 hg1 HO HF1 BA XA O1
          obtain ⟨f0, f1, f2⟩ := DW.out
          rw [← B1.cell (p := ⟨b, off, none⟩) hb] at f0
          rw [← B1.cell (p := ⟨b, off + 1, none⟩) hb] at f1
          rw [← B1.cell (p := ⟨b, off + 2, none⟩) hb] at f2
          clear DW
          by_cases he : u = (s, p, o)
          · subst he
            have HR : Hid (putT ts (s, p, o) = ts.take 0 ++ ts.drop 0) := Lib.hid (put_same HA.out HTK.out)
            have EQ := tri_is s p o
            simp only at f0 f1 f2
            clear HA HTK
            go_wp2_with fail
            go_quiet (fail)
            clear EQ f0 f1 f2
            have Bd : Below w.heap.size w (w1.drewN nq) := below_drewN B1 nq
            have Od : OwnT we.heap.size (w1.drewN nq) v1 tk := HO1.out
            have Xd : Box (w1.drewN nq) w.heap.size (.string s) (.string p) (.string o) 34 := X1
            have hsd : we.heap.size + 1 ≤ (w1.drewN nq).heap.size := hs1
            clear e0 e1 e2 B1 X1 HO1 hs1
            generalize w1.drewN nq = wd at Bd Od Xd hsd ⊢
            have HO1 := Lib.hid Od
            obtain ⟨e0, e1, e2⟩ := Xd.cells
            clear Od
            have HOX := HO1.out
            have F2 := (H.out.grown (w' := wd) ⟨Bd.os, Bd.tape, Bd.output, Bd.size, fun j hj _ => Bd.block j hj⟩).back 0 (by rw [HT.out]; omega)
            rw [Nat.zero_mul, Nat.add_zero] at F2
            have hld : (ts.drop 0).length = len := by rw [List.length_drop, HT.out, Nat.sub_zero]
            obtain ⟨td, htd⟩ : ∃ l, ts.drop 0 = l := ⟨_, rfl⟩
            rw [htd] at hld F2 HR
            have HF2 := Lib.hid F2
            have HLD := Lib.hid hld
            have hlp : (tk).length = 0 := by first | exact HLK.out | (rw [List.length_append, HLK.out]; rfl)
            obtain ⟨pf, hpf⟩ : ∃ l, tk = l := ⟨_, rfl⟩
            rw [HTKE.out, hpf] at HR
            rw [hpf] at hlp HOX
            have HLP := Lib.hid hlp
            have HOY := Lib.hid HOX
            clear F2 hld hlp htd hpf HOX
            go_wp2_with (at_builtin; refine wpList_append_own _ rfl _ _ 26 rfl we.heap.size 34 i0 (.agg #[.string ⟨#[]⟩, .string ⟨#[]⟩, .string ⟨#[]⟩]) 3 48 Try.underlying26 hi hz0 hz1 hz2 rfl (by decide) _ _ _ rfl HOY.out ⟨b, off, none⟩ len _ (flat td) rfl (by rw [flat_len, HLD.out]) HF2.out (by first | exact flat_one _ | (intro x hx; simp at hx; rcases hx with rfl | rfl | rfl <;> rfl)) ?h63c ?h48c ?hbsc ?_)
            case h63c => rw [HLP.out]; unfold maxLen; omega
            case h48c => rw [HLP.out]; omega
            case hbsc => first | omega | (simp only [World.size_alloc]; omega)
            intro v3 w3 hown3 hg3 _
            have O3 : OwnT we.heap.size w3 v3 (pf ++ td) := by unfold OwnT; rw [List.length_append, HLD.out, flat_append]; exact hown3
            have B3 : Below w.heap.size w w3 := Bd.grown hg3 Bd.size (fun j hj => by have := hne1 j hj; omega)
            have O4 := own_base O3 (Nat.le_of_lt hcl)
            have HO4 := Lib.hid O4
            clear hown3 hg3 O3 O4 HF2
            go_wp2_with fail
            go_ret
            exact ⟨v3, rfl, by rw [HR.out]; exact HO4.out, B3⟩
          · have HR : Hid (putT ts (s, p, o) = (ts.take 0 ++ [(s, p, o)]) ++ ts.drop 0) := Lib.hid (put_more HA.out (by rw [HTK.out]; exact fun h => he (Option.some.inj h)))
            have EQ := tri_isnt he
            simp only at EQ
            clear HA HTK he
            go_wp2_with fail
            go_quiet (fail)
            clear EQ f0 f1 f2
            have Bd : Below w.heap.size w (w1.drewN nq) := below_drewN B1 nq
            have Od : OwnT we.heap.size (w1.drewN nq) v1 tk := HO1.out
            have Xd : Box (w1.drewN nq) w.heap.size (.string s) (.string p) (.string o) 34 := X1
            have hsd : we.heap.size + 1 ≤ (w1.drewN nq).heap.size := hs1
            clear e0 e1 e2 B1 X1 HO1 hs1
            generalize w1.drewN nq = wd at Bd Od Xd hsd ⊢
            have HO1 := Lib.hid Od
            obtain ⟨e0, e1, e2⟩ := Xd.cells
            clear Od
            have HC : ∀ (j : Nat) (x : Value), [Value.string s, .string p, .string o][j]? = some x → (wd.alloc (.cells #[.string s, .string p, .string o] 34)).cell? ((⟨wd.heap.size, 0, none⟩ : Addr).add j) = some x := three_cell
            have HH := Lib.hid HC
            have B1a := Bd.alloc Bd.size (.cells #[.string s, .string p, .string o] 34)
            have O1a := Lib.hid (World.ownsRow.alloc HO1.out (.cells #[.string s, .string p, .string o] 34))
            clear HC
            go_wp2_with (at_builtin; refine wpList_append_own _ rfl _ _ 26 rfl we.heap.size 34 i0 (.agg #[.string ⟨#[]⟩, .string ⟨#[]⟩, .string ⟨#[]⟩]) 3 48 Try.underlying26 hi hz0 hz1 hz2 rfl (by decide) _ _ _ rfl O1a.out ⟨wd.heap.size, 0, none⟩ 1 _ [.string s, .string p, .string o] rfl rfl HH.out (by first | exact flat_one _ | (intro x hx; simp at hx; rcases hx with rfl | rfl | rfl <;> rfl)) ?h63b ?h48b ?hbsb ?_)
            case h63b => rw [HLK.out]; unfold maxLen; omega
            case h48b => rw [HLK.out]; omega
            case hbsb => first | omega | (simp only [World.size_alloc]; omega)
            intro v2 w2 hown2 hg2 _
            have O2 : OwnT we.heap.size w2 v2 (tk ++ [(s, p, o)]) := own3_snoc (t := (s, p, o)) hown2
            have B2 : Below w.heap.size w w2 := B1a.grown hg2 B1a.size (fun j hj => by have := hne1 j hj; omega)
            have hs2 : we.heap.size + 1 ≤ w2.heap.size := by have := hg2.size; rw [World.size_alloc] at this; omega
            have HO2 := Lib.hid O2
            have hne2 := fun j hj => (World.ownsRow.lt O2 j hj).1
            clear hown2 hg2 O1a HH B1a O2 HO1 Xd Bd
            have HOX := HO2.out
            have F2 := (H.out.grown (w' := w2) ⟨B2.os, B2.tape, B2.output, B2.size, fun j hj _ => B2.block j hj⟩).back 0 (by rw [HT.out]; omega)
            rw [Nat.zero_mul, Nat.add_zero] at F2
            have hld : (ts.drop 0).length = len := by rw [List.length_drop, HT.out, Nat.sub_zero]
            obtain ⟨td, htd⟩ : ∃ l, ts.drop 0 = l := ⟨_, rfl⟩
            rw [htd] at hld F2 HR
            have HF2 := Lib.hid F2
            have HLD := Lib.hid hld
            have hlp : (tk ++ [(s, p, o)]).length = 0 + 1 := by first | exact HLK.out | (rw [List.length_append, HLK.out]; rfl)
            obtain ⟨pf, hpf⟩ : ∃ l, tk ++ [(s, p, o)] = l := ⟨_, rfl⟩
            rw [HTKE.out, hpf] at HR
            rw [hpf] at hlp HOX
            have HLP := Lib.hid hlp
            have HOY := Lib.hid HOX
            clear F2 hld hlp htd hpf HOX
            go_wp2_with (at_builtin; refine wpList_append_own _ rfl _ _ 26 rfl we.heap.size 34 i0 (.agg #[.string ⟨#[]⟩, .string ⟨#[]⟩, .string ⟨#[]⟩]) 3 48 Try.underlying26 hi hz0 hz1 hz2 rfl (by decide) _ _ _ rfl HOY.out ⟨b, off, none⟩ len _ (flat td) rfl (by rw [flat_len, HLD.out]) HF2.out (by first | exact flat_one _ | (intro x hx; simp at hx; rcases hx with rfl | rfl | rfl <;> rfl)) ?h63c ?h48c ?hbsc ?_)
            case h63c => rw [HLP.out]; unfold maxLen; omega
            case h48c => rw [HLP.out]; omega
            case hbsc => first | omega | (simp only [World.size_alloc]; omega)
            intro v3 w3 hown3 hg3 _
            have O3 : OwnT we.heap.size w3 v3 (pf ++ td) := by unfold OwnT; rw [List.length_append, HLD.out, flat_append]; exact hown3
            have B3 : Below w.heap.size w w3 := B2.grown hg3 B2.size (fun j hj => by have := hne2 j hj; omega)
            have O4 := own_base O3 (Nat.le_of_lt hcl)
            have HO4 := Lib.hid O4
            clear hown3 hg3 O3 O4 HF2
            go_wp2_with fail
            go_ret
            exact ⟨v3, rfl, by rw [HR.out]; exact HO4.out, B3⟩
        · have hkc : ¬ k = 0 := by omega
          go_wp2_with fail
          go_region_held3 (fun w' => w'.cell? ⟨w.heap.size, 0, none⟩ = some (.string s) ∧ w'.cell? ⟨w.heap.size, 1, none⟩ = some (.string p) ∧ w'.cell? ⟨w.heap.size, 2, none⟩ = some (.string o) ∧ w'.cell? ⟨b, off + k * 3, none⟩ = some (.string u.1) ∧ w'.cell? ⟨b, off + k * 3 + 1, none⟩ = some (.string u.2.1) ∧ w'.cell? ⟨b, off + k * 3 + 2, none⟩ = some (.string u.2.2))
            (first | go_keep | (go_split_ands; refine ⟨?_, ?_, ?_, ?_, ?_, ?_⟩ <;> (rw [ha4.cell (by first | (simp; done) | exact World.block_lt_of_cell? _ _ (by assumption))]; assumption)))
            (first
              | (go_at_call 103; refine (C1.out _).mono ?_; rintro e wa ⟨rfl, ha4⟩))
          have BE : Below w.heap.size w wa := hnx.drew.trans (ha4.mono hnx.size)
          have XE : Box wa w.heap.size (.string s) (.string p) (.string o) 34 := hbox.out.drew.next ha4
          clear ha4 hnx hbox c0 c1 c2 C1 d0 d1 d2
          generalize wa = we at BE XE ⊢
          have hcl : w.heap.size < we.heap.size := XE.lt
          have O0 : OwnT we.heap.size (we.alloc (.cells #[] 34)) (.slice (some ⟨we.heap.size, 0, none⟩) 0 0) [] := World.ownsRow_lit (size := 3) (e := 34) we #[] 0 (Nat.le_refl _) (by decide) rfl
          have BA := BE.alloc BE.size (.cells #[] 34)
          have XA := XE.alloc (.cells #[] 34)
          have F1 := (H.out.grown (w' := we.alloc (.cells #[] 34)) ⟨BA.os, BA.tape, BA.output, BA.size, fun j hj _ => BA.block j hj⟩).front k
          have HF1 := Lib.hid F1
          have HO := Lib.hid O0
          have hlk : (ts.take k).length = k := by rw [List.length_take, HT.out]; omega
          obtain ⟨tk, htk⟩ : ∃ l, ts.take k = l := ⟨_, rfl⟩
          rw [htk] at hlk HF1
          have HTKE := Lib.hid htk
          clear htk
          have HLK := Lib.hid hlk
          clear O0 F1 hlk BE XE
          go_wp2_with (at_builtin; refine wpList_append_own _ rfl _ _ 26 rfl we.heap.size 34 i0 (.agg #[.string ⟨#[]⟩, .string ⟨#[]⟩, .string ⟨#[]⟩]) 3 48 Try.underlying26 hi hz0 hz1 hz2 rfl (by decide) _ _ _ rfl HO.out ⟨b, off, none⟩ k _ (flat tk) rfl (by rw [flat_len, HLK.out]) HF1.out (by first | exact flat_one _ | (intro x hx; simp at hx; rcases hx with rfl | rfl | rfl <;> rfl)) ?h63a ?h48a ?hbsa ?_)
          case h63a => rw [List.length_nil]; unfold maxLen; omega
          case h48a => rw [List.length_nil]; omega
          case hbsa => first | omega | (simp only [World.size_alloc]; omega)
          intro v1 w1 hown1 hg1 _
          have O1 : OwnT we.heap.size w1 v1 tk := by unfold OwnT; rw [HLK.out]; simpa [flat] using hown1
          have B1 : Below w.heap.size w w1 := BA.grown hg1 BA.size (fun j hj => by simp [Value.ownBlock] at hj; omega)
          have X1 := XA.grown hg1 (by simp [Value.ownBlock]; omega)
          have hs1 : we.heap.size + 1 ≤ w1.heap.size := by have := hg1.size; rw [World.size_alloc] at this; omega
          have HO1 := Lib.hid O1
          have hne1 := fun j hj => (World.ownsRow.lt O1 j hj).1
          obtain ⟨e0, e1, e2⟩ := X1.cells
          clear hown1 hg1 HO HF1 BA XA O1
          obtain ⟨f0, f1, f2⟩ := DW.out
          rw [← B1.cell (p := ⟨b, off + k * 3, none⟩) hb] at f0
          rw [← B1.cell (p := ⟨b, off + k * 3 + 1, none⟩) hb] at f1
          rw [← B1.cell (p := ⟨b, off + k * 3 + 2, none⟩) hb] at f2
          clear DW
          by_cases he : u = (s, p, o)
          · subst he
            have HR : Hid (putT ts (s, p, o) = ts.take k ++ ts.drop k) := Lib.hid (put_same HA.out HTK.out)
            have EQ := tri_is s p o
            simp only at f0 f1 f2
            clear HA HTK
            go_wp2_with fail
            go_quiet (fail)
            clear EQ f0 f1 f2
            have Bd : Below w.heap.size w (w1.drewN nq) := below_drewN B1 nq
            have Od : OwnT we.heap.size (w1.drewN nq) v1 tk := HO1.out
            have Xd : Box (w1.drewN nq) w.heap.size (.string s) (.string p) (.string o) 34 := X1
            have hsd : we.heap.size + 1 ≤ (w1.drewN nq).heap.size := hs1
            clear e0 e1 e2 B1 X1 HO1 hs1
            generalize w1.drewN nq = wd at Bd Od Xd hsd ⊢
            have HO1 := Lib.hid Od
            obtain ⟨e0, e1, e2⟩ := Xd.cells
            clear Od
            have HOX := HO1.out
            have F2 := (H.out.grown (w' := wd) ⟨Bd.os, Bd.tape, Bd.output, Bd.size, fun j hj _ => Bd.block j hj⟩).back k (by rw [HT.out]; omega)
            have hld : (ts.drop k).length = (len - k) := by rw [List.length_drop, HT.out]
            obtain ⟨td, htd⟩ : ∃ l, ts.drop k = l := ⟨_, rfl⟩
            rw [htd] at hld F2 HR
            have HF2 := Lib.hid F2
            have HLD := Lib.hid hld
            have hlp : (tk).length = k := by first | exact HLK.out | (rw [List.length_append, HLK.out]; rfl)
            obtain ⟨pf, hpf⟩ : ∃ l, tk = l := ⟨_, rfl⟩
            rw [HTKE.out, hpf] at HR
            rw [hpf] at hlp HOX
            have HLP := Lib.hid hlp
            have HOY := Lib.hid HOX
            clear F2 hld hlp htd hpf HOX
            go_wp2_with (at_builtin; refine wpList_append_own _ rfl _ _ 26 rfl we.heap.size 34 i0 (.agg #[.string ⟨#[]⟩, .string ⟨#[]⟩, .string ⟨#[]⟩]) 3 48 Try.underlying26 hi hz0 hz1 hz2 rfl (by decide) _ _ _ rfl HOY.out ⟨b, off + k * 3, none⟩ (len - k) _ (flat td) rfl (by rw [flat_len, HLD.out]) HF2.out (by first | exact flat_one _ | (intro x hx; simp at hx; rcases hx with rfl | rfl | rfl <;> rfl)) ?h63c ?h48c ?hbsc ?_)
            case h63c => rw [HLP.out]; unfold maxLen; omega
            case h48c => rw [HLP.out]; omega
            case hbsc => first | omega | (simp only [World.size_alloc]; omega)
            intro v3 w3 hown3 hg3 _
            have O3 : OwnT we.heap.size w3 v3 (pf ++ td) := by unfold OwnT; rw [List.length_append, HLD.out, flat_append]; exact hown3
            have B3 : Below w.heap.size w w3 := Bd.grown hg3 Bd.size (fun j hj => by have := hne1 j hj; omega)
            have O4 := own_base O3 (Nat.le_of_lt hcl)
            have HO4 := Lib.hid O4
            clear hown3 hg3 O3 O4 HF2
            go_wp2_with fail
            go_ret
            exact ⟨v3, rfl, by rw [HR.out]; exact HO4.out, B3⟩
          · have HR : Hid (putT ts (s, p, o) = (ts.take k ++ [(s, p, o)]) ++ ts.drop k) := Lib.hid (put_more HA.out (by rw [HTK.out]; exact fun h => he (Option.some.inj h)))
            have EQ := tri_isnt he
            simp only at EQ
            clear HA HTK he
            go_wp2_with fail
            go_quiet (fail)
            clear EQ f0 f1 f2
            have Bd : Below w.heap.size w (w1.drewN nq) := below_drewN B1 nq
            have Od : OwnT we.heap.size (w1.drewN nq) v1 tk := HO1.out
            have Xd : Box (w1.drewN nq) w.heap.size (.string s) (.string p) (.string o) 34 := X1
            have hsd : we.heap.size + 1 ≤ (w1.drewN nq).heap.size := hs1
            clear e0 e1 e2 B1 X1 HO1 hs1
            generalize w1.drewN nq = wd at Bd Od Xd hsd ⊢
            have HO1 := Lib.hid Od
            obtain ⟨e0, e1, e2⟩ := Xd.cells
            clear Od
            have HC : ∀ (j : Nat) (x : Value), [Value.string s, .string p, .string o][j]? = some x → (wd.alloc (.cells #[.string s, .string p, .string o] 34)).cell? ((⟨wd.heap.size, 0, none⟩ : Addr).add j) = some x := three_cell
            have HH := Lib.hid HC
            have B1a := Bd.alloc Bd.size (.cells #[.string s, .string p, .string o] 34)
            have O1a := Lib.hid (World.ownsRow.alloc HO1.out (.cells #[.string s, .string p, .string o] 34))
            clear HC
            go_wp2_with (at_builtin; refine wpList_append_own _ rfl _ _ 26 rfl we.heap.size 34 i0 (.agg #[.string ⟨#[]⟩, .string ⟨#[]⟩, .string ⟨#[]⟩]) 3 48 Try.underlying26 hi hz0 hz1 hz2 rfl (by decide) _ _ _ rfl O1a.out ⟨wd.heap.size, 0, none⟩ 1 _ [.string s, .string p, .string o] rfl rfl HH.out (by first | exact flat_one _ | (intro x hx; simp at hx; rcases hx with rfl | rfl | rfl <;> rfl)) ?h63b ?h48b ?hbsb ?_)
            case h63b => rw [HLK.out]; unfold maxLen; omega
            case h48b => rw [HLK.out]; omega
            case hbsb => first | omega | (simp only [World.size_alloc]; omega)
            intro v2 w2 hown2 hg2 _
            have O2 : OwnT we.heap.size w2 v2 (tk ++ [(s, p, o)]) := own3_snoc (t := (s, p, o)) hown2
            have B2 : Below w.heap.size w w2 := B1a.grown hg2 B1a.size (fun j hj => by have := hne1 j hj; omega)
            have hs2 : we.heap.size + 1 ≤ w2.heap.size := by have := hg2.size; rw [World.size_alloc] at this; omega
            have HO2 := Lib.hid O2
            have hne2 := fun j hj => (World.ownsRow.lt O2 j hj).1
            clear hown2 hg2 O1a HH B1a O2 HO1 Xd Bd
            have HOX := HO2.out
            have F2 := (H.out.grown (w' := w2) ⟨B2.os, B2.tape, B2.output, B2.size, fun j hj _ => B2.block j hj⟩).back k (by rw [HT.out]; omega)
            have hld : (ts.drop k).length = (len - k) := by rw [List.length_drop, HT.out]
            obtain ⟨td, htd⟩ : ∃ l, ts.drop k = l := ⟨_, rfl⟩
            rw [htd] at hld F2 HR
            have HF2 := Lib.hid F2
            have HLD := Lib.hid hld
            have hlp : (tk ++ [(s, p, o)]).length = k + 1 := by first | exact HLK.out | (rw [List.length_append, HLK.out]; rfl)
            obtain ⟨pf, hpf⟩ : ∃ l, tk ++ [(s, p, o)] = l := ⟨_, rfl⟩
            rw [HTKE.out, hpf] at HR
            rw [hpf] at hlp HOX
            have HLP := Lib.hid hlp
            have HOY := Lib.hid HOX
            clear F2 hld hlp htd hpf HOX
            go_wp2_with (at_builtin; refine wpList_append_own _ rfl _ _ 26 rfl we.heap.size 34 i0 (.agg #[.string ⟨#[]⟩, .string ⟨#[]⟩, .string ⟨#[]⟩]) 3 48 Try.underlying26 hi hz0 hz1 hz2 rfl (by decide) _ _ _ rfl HOY.out ⟨b, off + k * 3, none⟩ (len - k) _ (flat td) rfl (by rw [flat_len, HLD.out]) HF2.out (by first | exact flat_one _ | (intro x hx; simp at hx; rcases hx with rfl | rfl | rfl <;> rfl)) ?h63c ?h48c ?hbsc ?_)
            case h63c => rw [HLP.out]; unfold maxLen; omega
            case h48c => rw [HLP.out]; omega
            case hbsc => first | omega | (simp only [World.size_alloc]; omega)
            intro v3 w3 hown3 hg3 _
            have O3 : OwnT we.heap.size w3 v3 (pf ++ td) := by unfold OwnT; rw [List.length_append, HLD.out, flat_append]; exact hown3
            have B3 : Below w.heap.size w w3 := B2.grown hg3 B2.size (fun j hj => by have := hne2 j hj; omega)
            have O4 := own_base O3 (Nat.le_of_lt hcl)
            have HO4 := Lib.hid O4
            clear hown3 hg3 O3 O4 HF2
            go_wp2_with fail
            go_ret
            exact ⟨v3, rfl, by rw [HR.out]; exact HO4.out, B3⟩
      · rw [hq] at A1
        have HN : Hid (∀ i u, i < k + 1 → ts[i]? = some u → aheadT u (s, p, o) = true) := Lib.hid (fun i v hi hv => by
          rcases Nat.lt_or_ge i k with g | g
          · exact hah.out i v g hv
          · obtain rfl : i = k := by omega
            rw [ht] at hv; obtain rfl := Option.some.inj hv; exact hq)
        have C1 := Lib.hid A1
        have l0 : b < wr.heap.size := Nat.lt_of_lt_of_le hb hnx.size
        have l1 : w.heap.size < wr.heap.size := hbox.out.lt
        clear A1 hq ht hts hcs hm m0 m1 m2 hah hl'
        go_wp2_with fail
        go_region_held3 (fun w' => w'.cell? ⟨w.heap.size, 0, none⟩ = some (.string s) ∧ w'.cell? ⟨w.heap.size, 1, none⟩ = some (.string p) ∧ w'.cell? ⟨w.heap.size, 2, none⟩ = some (.string o) ∧ w'.cell? ⟨b, off + k * 3, none⟩ = some (.string u.1) ∧ w'.cell? ⟨b, off + k * 3 + 1, none⟩ = some (.string u.2.1) ∧ w'.cell? ⟨b, off + k * 3 + 2, none⟩ = some (.string u.2.2))
          (first | go_keep | (go_split_ands; refine ⟨?_, ?_, ?_, ?_, ?_, ?_⟩ <;> (rw [ha4.cell (by first | (simp; done) | exact World.block_lt_of_cell? _ _ (by assumption))]; assumption)))
          (first
            | (go_at_call 103; refine (C1.out _).mono ?_; rintro e wa ⟨rfl, ha4⟩))
        have B2 : Below w.heap.size w wa := hnx.drew.trans (ha4.mono hnx.size)
        have X2 : Box wa w.heap.size (.string s) (.string p) (.string o) 34 := hbox.out.drew.next ha4
        clear ha4 hnx hbox c0 c1 c2 C1
        go_wp2_with fail
        go_roundw
        case rel => exact ⟨k + 1, by omega, by go_num, HN, Lib.hid X2, B2⟩
        case measure => simp [intOf]; omega
    · obtain rfl : k = len := by omega
      have HA : Hid (atT (s, p, o) ts = k) := Lib.hid (atT_front hah.out (by have := HT.out; omega) (fun v hv => by have := (List.getElem?_eq_some_iff.1 hv).1; have := HT.out; omega))
      have HNK : Hid (ts[k]? = none) := Lib.hid (List.getElem?_eq_none (by rw [HT.out]; exact Nat.le_refl _))
      clear hah
      rcases Nat.eq_zero_or_pos k with rfl | hk0
      · have hk9 : ¬ ((0 : Nat) : Int) < ((0 : Nat) : Int) := by omega
        rcases Nat.lt_or_eq_of_le hc1 with hcc | rfl
        · have hcd : ¬ 0 = cap := by omega
          go_wp2_with fail
          go_quiet (fail)
          have BE : Below w.heap.size w (wr.drewN nq) := below_drewN hnx nq
          have XE : Box (wr.drewN nq) w.heap.size (.string s) (.string p) (.string o) 34 := hbox.out
          clear hnx hbox c0 c1 c2
          generalize wr.drewN nq = we at BE XE ⊢
          have hcl : w.heap.size < we.heap.size := XE.lt
          have O0 : OwnT we.heap.size (we.alloc (.cells #[] 34)) (.slice (some ⟨we.heap.size, 0, none⟩) 0 0) [] := World.ownsRow_lit (size := 3) (e := 34) we #[] 0 (Nat.le_refl _) (by decide) rfl
          have BA := BE.alloc BE.size (.cells #[] 34)
          have XA := XE.alloc (.cells #[] 34)
          have F1 := (H.out.grown (w' := we.alloc (.cells #[] 34)) ⟨BA.os, BA.tape, BA.output, BA.size, fun j hj _ => BA.block j hj⟩).front 0
          have HF1 := Lib.hid F1
          have HO := Lib.hid O0
          have hlk : (ts.take 0).length = 0 := by rw [List.length_take, HT.out]; omega
          obtain ⟨tk, htk⟩ : ∃ l, ts.take 0 = l := ⟨_, rfl⟩
          rw [htk] at hlk HF1
          have HTKE := Lib.hid htk
          clear htk
          have HLK := Lib.hid hlk
          clear O0 F1 hlk BE XE
          go_wp2_with (at_builtin; refine wpList_append_own _ rfl _ _ 26 rfl we.heap.size 34 i0 (.agg #[.string ⟨#[]⟩, .string ⟨#[]⟩, .string ⟨#[]⟩]) 3 48 Try.underlying26 hi hz0 hz1 hz2 rfl (by decide) _ _ _ rfl HO.out ⟨b, off, none⟩ 0 _ (flat tk) rfl (by rw [flat_len, HLK.out]) HF1.out (by first | exact flat_one _ | (intro x hx; simp at hx; rcases hx with rfl | rfl | rfl <;> rfl)) ?h63a ?h48a ?hbsa ?_)
          case h63a => rw [List.length_nil]; unfold maxLen; omega
          case h48a => rw [List.length_nil]; omega
          case hbsa => first | omega | (simp only [World.size_alloc]; omega)
          intro v1 w1 hown1 hg1 _
          have O1 : OwnT we.heap.size w1 v1 tk := by unfold OwnT; rw [HLK.out]; simpa [flat] using hown1
          have B1 : Below w.heap.size w w1 := BA.grown hg1 BA.size (fun j hj => by simp [Value.ownBlock] at hj; omega)
          have X1 := XA.grown hg1 (by simp [Value.ownBlock]; omega)
          have hs1 : we.heap.size + 1 ≤ w1.heap.size := by have := hg1.size; rw [World.size_alloc] at this; omega
          have HO1 := Lib.hid O1
          have hne1 := fun j hj => (World.ownsRow.lt O1 j hj).1
          obtain ⟨e0, e1, e2⟩ := X1.cells
          clear hown1 hg1 HO HF1 BA XA O1
          have HR : Hid (putT ts (s, p, o) = ts.take 0 ++ [(s, p, o)]) := Lib.hid (by
            rw [put_more HA.out (by rw [HNK.out]; simp), List.drop_eq_nil_of_le (by rw [HT.out]; exact Nat.le_refl _), List.append_nil])
          clear HA HNK
          go_wp2_with fail
          go_quiet (fail)
          have Bd : Below w.heap.size w (w1.drewN nq) := below_drewN B1 nq
          have Od : OwnT we.heap.size (w1.drewN nq) v1 tk := HO1.out
          have Xd : Box (w1.drewN nq) w.heap.size (.string s) (.string p) (.string o) 34 := X1
          have hsd : we.heap.size + 1 ≤ (w1.drewN nq).heap.size := hs1
          clear e0 e1 e2 B1 X1 HO1 hs1
          generalize w1.drewN nq = wd at Bd Od Xd hsd ⊢
          have HO1 := Lib.hid Od
          obtain ⟨e0, e1, e2⟩ := Xd.cells
          clear Od
          have HC : ∀ (j : Nat) (x : Value), [Value.string s, .string p, .string o][j]? = some x → (wd.alloc (.cells #[.string s, .string p, .string o] 34)).cell? ((⟨wd.heap.size, 0, none⟩ : Addr).add j) = some x := three_cell
          have HH := Lib.hid HC
          have B1a := Bd.alloc Bd.size (.cells #[.string s, .string p, .string o] 34)
          have O1a := Lib.hid (World.ownsRow.alloc HO1.out (.cells #[.string s, .string p, .string o] 34))
          clear HC
          go_wp2_with (at_builtin; refine wpList_append_own _ rfl _ _ 26 rfl we.heap.size 34 i0 (.agg #[.string ⟨#[]⟩, .string ⟨#[]⟩, .string ⟨#[]⟩]) 3 48 Try.underlying26 hi hz0 hz1 hz2 rfl (by decide) _ _ _ rfl O1a.out ⟨wd.heap.size, 0, none⟩ 1 _ [.string s, .string p, .string o] rfl rfl HH.out (by first | exact flat_one _ | (intro x hx; simp at hx; rcases hx with rfl | rfl | rfl <;> rfl)) ?h63b ?h48b ?hbsb ?_)
          case h63b => rw [HLK.out]; unfold maxLen; omega
          case h48b => rw [HLK.out]; omega
          case hbsb => first | omega | (simp only [World.size_alloc]; omega)
          intro v2 w2 hown2 hg2 _
          have O2 : OwnT we.heap.size w2 v2 (tk ++ [(s, p, o)]) := own3_snoc (t := (s, p, o)) hown2
          have B2 : Below w.heap.size w w2 := B1a.grown hg2 B1a.size (fun j hj => by have := hne1 j hj; omega)
          have hs2 : we.heap.size + 1 ≤ w2.heap.size := by have := hg2.size; rw [World.size_alloc] at this; omega
          have HO2 := Lib.hid O2
          have hne2 := fun j hj => (World.ownsRow.lt O2 j hj).1
          clear hown2 hg2 O1a HH B1a O2 HO1 Xd Bd
          have HOX := HO2.out
          have hlp : (tk ++ [(s, p, o)]).length = 0 + 1 := by rw [List.length_append, HLK.out]; rfl
          obtain ⟨pf, hpf⟩ : ∃ l, tk ++ [(s, p, o)] = l := ⟨_, rfl⟩
          rw [HTKE.out, hpf] at HR
          rw [hpf] at hlp HOX
          have HLP := Lib.hid hlp
          have HOY := Lib.hid HOX
          clear hlp hpf HOX
          go_wp2_with (at_builtin; refine wpList_append_own _ rfl _ _ 26 rfl we.heap.size 34 i0 (.agg #[.string ⟨#[]⟩, .string ⟨#[]⟩, .string ⟨#[]⟩]) 3 48 Try.underlying26 hi hz0 hz1 hz2 rfl (by decide) _ _ _ rfl HOY.out _ 0 _ [] rfl rfl (fun j x hx => by simp at hx) (fun x hx => by simp at hx) ?h63c ?h48c ?hbsc ?_)
          case h63c => rw [HLP.out]; unfold maxLen; omega
          case h48c => rw [HLP.out]; omega
          case hbsc => first | omega | (simp only [World.size_alloc]; omega)
          intro v3 w3 hown3 hg3 _
          have O3 : OwnT we.heap.size w3 v3 pf := by unfold OwnT; simpa using hown3
          have B3 : Below w.heap.size w w3 := B2.grown hg3 B2.size (fun j hj => by have := hne2 j hj; omega)
          have O4 := own_base O3 (Nat.le_of_lt hcl)
          have HO4 := Lib.hid O4
          clear hown3 hg3 O3 O4
          go_wp2_with fail
          go_ret
          exact ⟨v3, rfl, by rw [HR.out]; exact HO4.out, B3⟩
        · go_wp2_with fail
          go_quiet (fail)
          have BE : Below w.heap.size w (wr.drewN nq) := below_drewN hnx nq
          have XE : Box (wr.drewN nq) w.heap.size (.string s) (.string p) (.string o) 34 := hbox.out
          clear hnx hbox c0 c1 c2
          generalize wr.drewN nq = we at BE XE ⊢
          have hcl : w.heap.size < we.heap.size := XE.lt
          have O0 : OwnT we.heap.size (we.alloc (.cells #[] 34)) (.slice (some ⟨we.heap.size, 0, none⟩) 0 0) [] := World.ownsRow_lit (size := 3) (e := 34) we #[] 0 (Nat.le_refl _) (by decide) rfl
          have BA := BE.alloc BE.size (.cells #[] 34)
          have XA := XE.alloc (.cells #[] 34)
          have F1 := (H.out.grown (w' := we.alloc (.cells #[] 34)) ⟨BA.os, BA.tape, BA.output, BA.size, fun j hj _ => BA.block j hj⟩).front 0
          have HF1 := Lib.hid F1
          have HO := Lib.hid O0
          have hlk : (ts.take 0).length = 0 := by rw [List.length_take, HT.out]; omega
          obtain ⟨tk, htk⟩ : ∃ l, ts.take 0 = l := ⟨_, rfl⟩
          rw [htk] at hlk HF1
          have HTKE := Lib.hid htk
          clear htk
          have HLK := Lib.hid hlk
          clear O0 F1 hlk BE XE
          go_wp2_with (at_builtin; refine wpList_append_own _ rfl _ _ 26 rfl we.heap.size 34 i0 (.agg #[.string ⟨#[]⟩, .string ⟨#[]⟩, .string ⟨#[]⟩]) 3 48 Try.underlying26 hi hz0 hz1 hz2 rfl (by decide) _ _ _ rfl HO.out ⟨b, off, none⟩ 0 _ (flat tk) rfl (by rw [flat_len, HLK.out]) HF1.out (by first | exact flat_one _ | (intro x hx; simp at hx; rcases hx with rfl | rfl | rfl <;> rfl)) ?h63a ?h48a ?hbsa ?_)
          case h63a => rw [List.length_nil]; unfold maxLen; omega
          case h48a => rw [List.length_nil]; omega
          case hbsa => first | omega | (simp only [World.size_alloc]; omega)
          intro v1 w1 hown1 hg1 _
          have O1 : OwnT we.heap.size w1 v1 tk := by unfold OwnT; rw [HLK.out]; simpa [flat] using hown1
          have B1 : Below w.heap.size w w1 := BA.grown hg1 BA.size (fun j hj => by simp [Value.ownBlock] at hj; omega)
          have X1 := XA.grown hg1 (by simp [Value.ownBlock]; omega)
          have hs1 : we.heap.size + 1 ≤ w1.heap.size := by have := hg1.size; rw [World.size_alloc] at this; omega
          have HO1 := Lib.hid O1
          have hne1 := fun j hj => (World.ownsRow.lt O1 j hj).1
          obtain ⟨e0, e1, e2⟩ := X1.cells
          clear hown1 hg1 HO HF1 BA XA O1
          have HR : Hid (putT ts (s, p, o) = ts.take 0 ++ [(s, p, o)]) := Lib.hid (by
            rw [put_more HA.out (by rw [HNK.out]; simp), List.drop_eq_nil_of_le (by rw [HT.out]; exact Nat.le_refl _), List.append_nil])
          clear HA HNK
          go_wp2_with fail
          go_quiet (fail)
          have Bd : Below w.heap.size w (w1.drewN nq) := below_drewN B1 nq
          have Od : OwnT we.heap.size (w1.drewN nq) v1 tk := HO1.out
          have Xd : Box (w1.drewN nq) w.heap.size (.string s) (.string p) (.string o) 34 := X1
          have hsd : we.heap.size + 1 ≤ (w1.drewN nq).heap.size := hs1
          clear e0 e1 e2 B1 X1 HO1 hs1
          generalize w1.drewN nq = wd at Bd Od Xd hsd ⊢
          have HO1 := Lib.hid Od
          obtain ⟨e0, e1, e2⟩ := Xd.cells
          clear Od
          have HC : ∀ (j : Nat) (x : Value), [Value.string s, .string p, .string o][j]? = some x → (wd.alloc (.cells #[.string s, .string p, .string o] 34)).cell? ((⟨wd.heap.size, 0, none⟩ : Addr).add j) = some x := three_cell
          have HH := Lib.hid HC
          have B1a := Bd.alloc Bd.size (.cells #[.string s, .string p, .string o] 34)
          have O1a := Lib.hid (World.ownsRow.alloc HO1.out (.cells #[.string s, .string p, .string o] 34))
          clear HC
          go_wp2_with (at_builtin; refine wpList_append_own _ rfl _ _ 26 rfl we.heap.size 34 i0 (.agg #[.string ⟨#[]⟩, .string ⟨#[]⟩, .string ⟨#[]⟩]) 3 48 Try.underlying26 hi hz0 hz1 hz2 rfl (by decide) _ _ _ rfl O1a.out ⟨wd.heap.size, 0, none⟩ 1 _ [.string s, .string p, .string o] rfl rfl HH.out (by first | exact flat_one _ | (intro x hx; simp at hx; rcases hx with rfl | rfl | rfl <;> rfl)) ?h63b ?h48b ?hbsb ?_)
          case h63b => rw [HLK.out]; unfold maxLen; omega
          case h48b => rw [HLK.out]; omega
          case hbsb => first | omega | (simp only [World.size_alloc]; omega)
          intro v2 w2 hown2 hg2 _
          have O2 : OwnT we.heap.size w2 v2 (tk ++ [(s, p, o)]) := own3_snoc (t := (s, p, o)) hown2
          have B2 : Below w.heap.size w w2 := B1a.grown hg2 B1a.size (fun j hj => by have := hne1 j hj; omega)
          have hs2 : we.heap.size + 1 ≤ w2.heap.size := by have := hg2.size; rw [World.size_alloc] at this; omega
          have HO2 := Lib.hid O2
          have hne2 := fun j hj => (World.ownsRow.lt O2 j hj).1
          clear hown2 hg2 O1a HH B1a O2 HO1 Xd Bd
          have HOX := HO2.out
          have hlp : (tk ++ [(s, p, o)]).length = 0 + 1 := by rw [List.length_append, HLK.out]; rfl
          obtain ⟨pf, hpf⟩ : ∃ l, tk ++ [(s, p, o)] = l := ⟨_, rfl⟩
          rw [HTKE.out, hpf] at HR
          rw [hpf] at hlp HOX
          have HLP := Lib.hid hlp
          have HOY := Lib.hid HOX
          clear hlp hpf HOX
          go_wp2_with (at_builtin; refine wpList_append_own _ rfl _ _ 26 rfl we.heap.size 34 i0 (.agg #[.string ⟨#[]⟩, .string ⟨#[]⟩, .string ⟨#[]⟩]) 3 48 Try.underlying26 hi hz0 hz1 hz2 rfl (by decide) _ _ _ rfl HOY.out _ 0 _ [] rfl rfl (fun j x hx => by simp at hx) (fun x hx => by simp at hx) ?h63c ?h48c ?hbsc ?_)
          case h63c => rw [HLP.out]; unfold maxLen; omega
          case h48c => rw [HLP.out]; omega
          case hbsc => first | omega | (simp only [World.size_alloc]; omega)
          intro v3 w3 hown3 hg3 _
          have O3 : OwnT we.heap.size w3 v3 pf := by unfold OwnT; simpa using hown3
          have B3 : Below w.heap.size w w3 := B2.grown hg3 B2.size (fun j hj => by have := hne2 j hj; omega)
          have O4 := own_base O3 (Nat.le_of_lt hcl)
          have HO4 := Lib.hid O4
          clear hown3 hg3 O3 O4
          go_wp2_with fail
          go_ret
          exact ⟨v3, rfl, by rw [HR.out]; exact HO4.out, B3⟩
      · have hk9 : ¬ (k : Int) < (k : Int) := by omega
        have hd : decide ((k : Int) < (k : Int)) = false := by simp
        have hkz : ¬ k = 0 := by omega
        rcases Nat.lt_or_eq_of_le hc1 with hcc | rfl
        · have hcd : ¬ k = cap := by omega
          go_wp2_with fail
          go_quiet (fail)
          have BE : Below w.heap.size w (wr.drewN nq) := below_drewN hnx nq
          have XE : Box (wr.drewN nq) w.heap.size (.string s) (.string p) (.string o) 34 := hbox.out
          clear hnx hbox c0 c1 c2
          generalize wr.drewN nq = we at BE XE ⊢
          have hcl : w.heap.size < we.heap.size := XE.lt
          have O0 : OwnT we.heap.size (we.alloc (.cells #[] 34)) (.slice (some ⟨we.heap.size, 0, none⟩) 0 0) [] := World.ownsRow_lit (size := 3) (e := 34) we #[] 0 (Nat.le_refl _) (by decide) rfl
          have BA := BE.alloc BE.size (.cells #[] 34)
          have XA := XE.alloc (.cells #[] 34)
          have F1 := (H.out.grown (w' := we.alloc (.cells #[] 34)) ⟨BA.os, BA.tape, BA.output, BA.size, fun j hj _ => BA.block j hj⟩).front k
          have HF1 := Lib.hid F1
          have HO := Lib.hid O0
          have hlk : (ts.take k).length = k := by rw [List.length_take, HT.out]; omega
          obtain ⟨tk, htk⟩ : ∃ l, ts.take k = l := ⟨_, rfl⟩
          rw [htk] at hlk HF1
          have HTKE := Lib.hid htk
          clear htk
          have HLK := Lib.hid hlk
          clear O0 F1 hlk BE XE
          go_wp2_with (at_builtin; refine wpList_append_own _ rfl _ _ 26 rfl we.heap.size 34 i0 (.agg #[.string ⟨#[]⟩, .string ⟨#[]⟩, .string ⟨#[]⟩]) 3 48 Try.underlying26 hi hz0 hz1 hz2 rfl (by decide) _ _ _ rfl HO.out ⟨b, off, none⟩ k _ (flat tk) rfl (by rw [flat_len, HLK.out]) HF1.out (by first | exact flat_one _ | (intro x hx; simp at hx; rcases hx with rfl | rfl | rfl <;> rfl)) ?h63a ?h48a ?hbsa ?_)
          case h63a => rw [List.length_nil]; unfold maxLen; omega
          case h48a => rw [List.length_nil]; omega
          case hbsa => first | omega | (simp only [World.size_alloc]; omega)
          intro v1 w1 hown1 hg1 _
          have O1 : OwnT we.heap.size w1 v1 tk := by unfold OwnT; rw [HLK.out]; simpa [flat] using hown1
          have B1 : Below w.heap.size w w1 := BA.grown hg1 BA.size (fun j hj => by simp [Value.ownBlock] at hj; omega)
          have X1 := XA.grown hg1 (by simp [Value.ownBlock]; omega)
          have hs1 : we.heap.size + 1 ≤ w1.heap.size := by have := hg1.size; rw [World.size_alloc] at this; omega
          have HO1 := Lib.hid O1
          have hne1 := fun j hj => (World.ownsRow.lt O1 j hj).1
          obtain ⟨e0, e1, e2⟩ := X1.cells
          clear hown1 hg1 HO HF1 BA XA O1
          have HR : Hid (putT ts (s, p, o) = ts.take k ++ [(s, p, o)]) := Lib.hid (by
            rw [put_more HA.out (by rw [HNK.out]; simp), List.drop_eq_nil_of_le (by rw [HT.out]; exact Nat.le_refl _), List.append_nil])
          clear HA HNK
          go_wp2_with fail
          go_quiet (fail)
          have Bd : Below w.heap.size w (w1.drewN nq) := below_drewN B1 nq
          have Od : OwnT we.heap.size (w1.drewN nq) v1 tk := HO1.out
          have Xd : Box (w1.drewN nq) w.heap.size (.string s) (.string p) (.string o) 34 := X1
          have hsd : we.heap.size + 1 ≤ (w1.drewN nq).heap.size := hs1
          clear e0 e1 e2 B1 X1 HO1 hs1
          generalize w1.drewN nq = wd at Bd Od Xd hsd ⊢
          have HO1 := Lib.hid Od
          obtain ⟨e0, e1, e2⟩ := Xd.cells
          clear Od
          have HC : ∀ (j : Nat) (x : Value), [Value.string s, .string p, .string o][j]? = some x → (wd.alloc (.cells #[.string s, .string p, .string o] 34)).cell? ((⟨wd.heap.size, 0, none⟩ : Addr).add j) = some x := three_cell
          have HH := Lib.hid HC
          have B1a := Bd.alloc Bd.size (.cells #[.string s, .string p, .string o] 34)
          have O1a := Lib.hid (World.ownsRow.alloc HO1.out (.cells #[.string s, .string p, .string o] 34))
          clear HC
          go_wp2_with (at_builtin; refine wpList_append_own _ rfl _ _ 26 rfl we.heap.size 34 i0 (.agg #[.string ⟨#[]⟩, .string ⟨#[]⟩, .string ⟨#[]⟩]) 3 48 Try.underlying26 hi hz0 hz1 hz2 rfl (by decide) _ _ _ rfl O1a.out ⟨wd.heap.size, 0, none⟩ 1 _ [.string s, .string p, .string o] rfl rfl HH.out (by first | exact flat_one _ | (intro x hx; simp at hx; rcases hx with rfl | rfl | rfl <;> rfl)) ?h63b ?h48b ?hbsb ?_)
          case h63b => rw [HLK.out]; unfold maxLen; omega
          case h48b => rw [HLK.out]; omega
          case hbsb => first | omega | (simp only [World.size_alloc]; omega)
          intro v2 w2 hown2 hg2 _
          have O2 : OwnT we.heap.size w2 v2 (tk ++ [(s, p, o)]) := own3_snoc (t := (s, p, o)) hown2
          have B2 : Below w.heap.size w w2 := B1a.grown hg2 B1a.size (fun j hj => by have := hne1 j hj; omega)
          have hs2 : we.heap.size + 1 ≤ w2.heap.size := by have := hg2.size; rw [World.size_alloc] at this; omega
          have HO2 := Lib.hid O2
          have hne2 := fun j hj => (World.ownsRow.lt O2 j hj).1
          clear hown2 hg2 O1a HH B1a O2 HO1 Xd Bd
          have HOX := HO2.out
          have hlp : (tk ++ [(s, p, o)]).length = k + 1 := by rw [List.length_append, HLK.out]; rfl
          obtain ⟨pf, hpf⟩ : ∃ l, tk ++ [(s, p, o)] = l := ⟨_, rfl⟩
          rw [HTKE.out, hpf] at HR
          rw [hpf] at hlp HOX
          have HLP := Lib.hid hlp
          have HOY := Lib.hid HOX
          clear hlp hpf HOX
          go_wp2_with (at_builtin; refine wpList_append_own _ rfl _ _ 26 rfl we.heap.size 34 i0 (.agg #[.string ⟨#[]⟩, .string ⟨#[]⟩, .string ⟨#[]⟩]) 3 48 Try.underlying26 hi hz0 hz1 hz2 rfl (by decide) _ _ _ rfl HOY.out _ 0 _ [] rfl rfl (fun j x hx => by simp at hx) (fun x hx => by simp at hx) ?h63c ?h48c ?hbsc ?_)
          case h63c => rw [HLP.out]; unfold maxLen; omega
          case h48c => rw [HLP.out]; omega
          case hbsc => first | omega | (simp only [World.size_alloc]; omega)
          intro v3 w3 hown3 hg3 _
          have O3 : OwnT we.heap.size w3 v3 pf := by unfold OwnT; simpa using hown3
          have B3 : Below w.heap.size w w3 := B2.grown hg3 B2.size (fun j hj => by have := hne2 j hj; omega)
          have O4 := own_base O3 (Nat.le_of_lt hcl)
          have HO4 := Lib.hid O4
          clear hown3 hg3 O3 O4
          go_wp2_with fail
          go_ret
          exact ⟨v3, rfl, by rw [HR.out]; exact HO4.out, B3⟩
        · go_wp2_with fail
          go_quiet (fail)
          have BE : Below w.heap.size w (wr.drewN nq) := below_drewN hnx nq
          have XE : Box (wr.drewN nq) w.heap.size (.string s) (.string p) (.string o) 34 := hbox.out
          clear hnx hbox c0 c1 c2
          generalize wr.drewN nq = we at BE XE ⊢
          have hcl : w.heap.size < we.heap.size := XE.lt
          have O0 : OwnT we.heap.size (we.alloc (.cells #[] 34)) (.slice (some ⟨we.heap.size, 0, none⟩) 0 0) [] := World.ownsRow_lit (size := 3) (e := 34) we #[] 0 (Nat.le_refl _) (by decide) rfl
          have BA := BE.alloc BE.size (.cells #[] 34)
          have XA := XE.alloc (.cells #[] 34)
          have F1 := (H.out.grown (w' := we.alloc (.cells #[] 34)) ⟨BA.os, BA.tape, BA.output, BA.size, fun j hj _ => BA.block j hj⟩).front k
          have HF1 := Lib.hid F1
          have HO := Lib.hid O0
          have hlk : (ts.take k).length = k := by rw [List.length_take, HT.out]; omega
          obtain ⟨tk, htk⟩ : ∃ l, ts.take k = l := ⟨_, rfl⟩
          rw [htk] at hlk HF1
          have HTKE := Lib.hid htk
          clear htk
          have HLK := Lib.hid hlk
          clear O0 F1 hlk BE XE
          go_wp2_with (at_builtin; refine wpList_append_own _ rfl _ _ 26 rfl we.heap.size 34 i0 (.agg #[.string ⟨#[]⟩, .string ⟨#[]⟩, .string ⟨#[]⟩]) 3 48 Try.underlying26 hi hz0 hz1 hz2 rfl (by decide) _ _ _ rfl HO.out ⟨b, off, none⟩ k _ (flat tk) rfl (by rw [flat_len, HLK.out]) HF1.out (by first | exact flat_one _ | (intro x hx; simp at hx; rcases hx with rfl | rfl | rfl <;> rfl)) ?h63a ?h48a ?hbsa ?_)
          case h63a => rw [List.length_nil]; unfold maxLen; omega
          case h48a => rw [List.length_nil]; omega
          case hbsa => first | omega | (simp only [World.size_alloc]; omega)
          intro v1 w1 hown1 hg1 _
          have O1 : OwnT we.heap.size w1 v1 tk := by unfold OwnT; rw [HLK.out]; simpa [flat] using hown1
          have B1 : Below w.heap.size w w1 := BA.grown hg1 BA.size (fun j hj => by simp [Value.ownBlock] at hj; omega)
          have X1 := XA.grown hg1 (by simp [Value.ownBlock]; omega)
          have hs1 : we.heap.size + 1 ≤ w1.heap.size := by have := hg1.size; rw [World.size_alloc] at this; omega
          have HO1 := Lib.hid O1
          have hne1 := fun j hj => (World.ownsRow.lt O1 j hj).1
          obtain ⟨e0, e1, e2⟩ := X1.cells
          clear hown1 hg1 HO HF1 BA XA O1
          have HR : Hid (putT ts (s, p, o) = ts.take k ++ [(s, p, o)]) := Lib.hid (by
            rw [put_more HA.out (by rw [HNK.out]; simp), List.drop_eq_nil_of_le (by rw [HT.out]; exact Nat.le_refl _), List.append_nil])
          clear HA HNK
          go_wp2_with fail
          go_quiet (fail)
          have Bd : Below w.heap.size w (w1.drewN nq) := below_drewN B1 nq
          have Od : OwnT we.heap.size (w1.drewN nq) v1 tk := HO1.out
          have Xd : Box (w1.drewN nq) w.heap.size (.string s) (.string p) (.string o) 34 := X1
          have hsd : we.heap.size + 1 ≤ (w1.drewN nq).heap.size := hs1
          clear e0 e1 e2 B1 X1 HO1 hs1
          generalize w1.drewN nq = wd at Bd Od Xd hsd ⊢
          have HO1 := Lib.hid Od
          obtain ⟨e0, e1, e2⟩ := Xd.cells
          clear Od
          have HC : ∀ (j : Nat) (x : Value), [Value.string s, .string p, .string o][j]? = some x → (wd.alloc (.cells #[.string s, .string p, .string o] 34)).cell? ((⟨wd.heap.size, 0, none⟩ : Addr).add j) = some x := three_cell
          have HH := Lib.hid HC
          have B1a := Bd.alloc Bd.size (.cells #[.string s, .string p, .string o] 34)
          have O1a := Lib.hid (World.ownsRow.alloc HO1.out (.cells #[.string s, .string p, .string o] 34))
          clear HC
          go_wp2_with (at_builtin; refine wpList_append_own _ rfl _ _ 26 rfl we.heap.size 34 i0 (.agg #[.string ⟨#[]⟩, .string ⟨#[]⟩, .string ⟨#[]⟩]) 3 48 Try.underlying26 hi hz0 hz1 hz2 rfl (by decide) _ _ _ rfl O1a.out ⟨wd.heap.size, 0, none⟩ 1 _ [.string s, .string p, .string o] rfl rfl HH.out (by first | exact flat_one _ | (intro x hx; simp at hx; rcases hx with rfl | rfl | rfl <;> rfl)) ?h63b ?h48b ?hbsb ?_)
          case h63b => rw [HLK.out]; unfold maxLen; omega
          case h48b => rw [HLK.out]; omega
          case hbsb => first | omega | (simp only [World.size_alloc]; omega)
          intro v2 w2 hown2 hg2 _
          have O2 : OwnT we.heap.size w2 v2 (tk ++ [(s, p, o)]) := own3_snoc (t := (s, p, o)) hown2
          have B2 : Below w.heap.size w w2 := B1a.grown hg2 B1a.size (fun j hj => by have := hne1 j hj; omega)
          have hs2 : we.heap.size + 1 ≤ w2.heap.size := by have := hg2.size; rw [World.size_alloc] at this; omega
          have HO2 := Lib.hid O2
          have hne2 := fun j hj => (World.ownsRow.lt O2 j hj).1
          clear hown2 hg2 O1a HH B1a O2 HO1 Xd Bd
          have HOX := HO2.out
          have hlp : (tk ++ [(s, p, o)]).length = k + 1 := by rw [List.length_append, HLK.out]; rfl
          obtain ⟨pf, hpf⟩ : ∃ l, tk ++ [(s, p, o)] = l := ⟨_, rfl⟩
          rw [HTKE.out, hpf] at HR
          rw [hpf] at hlp HOX
          have HLP := Lib.hid hlp
          have HOY := Lib.hid HOX
          clear hlp hpf HOX
          go_wp2_with (at_builtin; refine wpList_append_own _ rfl _ _ 26 rfl we.heap.size 34 i0 (.agg #[.string ⟨#[]⟩, .string ⟨#[]⟩, .string ⟨#[]⟩]) 3 48 Try.underlying26 hi hz0 hz1 hz2 rfl (by decide) _ _ _ rfl HOY.out _ 0 _ [] rfl rfl (fun j x hx => by simp at hx) (fun x hx => by simp at hx) ?h63c ?h48c ?hbsc ?_)
          case h63c => rw [HLP.out]; unfold maxLen; omega
          case h48c => rw [HLP.out]; omega
          case hbsc => first | omega | (simp only [World.size_alloc]; omega)
          intro v3 w3 hown3 hg3 _
          have O3 : OwnT we.heap.size w3 v3 pf := by unfold OwnT; simpa using hown3
          have B3 : Below w.heap.size w w3 := B2.grown hg3 B2.size (fun j hj => by have := hne2 j hj; omega)
          have O4 := own_base O3 (Nat.le_of_lt hcl)
          have HO4 := Lib.hid O4
          clear hown3 hg3 O3 O4
          go_wp2_with fail
          go_ret
          exact ⟨v3, rfl, by rw [HR.out]; exact HO4.out, B3⟩
open Go.RowKit Go.WideShapes
set_option maxRecDepth 100000 in
set_option maxHeartbeats 1600000 in
theorem specPutNil (s p o : ByteArray) (w : World) :
    Calls Try.prog 69 #[.slice none 0 0, .agg #[.string s, .string p, .string o]] w fun e w' => ∃ v, e = .returned v ∧ OwnT w.heap.size w' v (putT [] (s, p, o)) ∧ Below w.heap.size w w' := by
  obtain ⟨i0, hi, hz0, hz1, hz2⟩ := info_parts infoTri
  have HR : Hid (putT [] (s, p, o) = [(s, p, o)]) := Lib.hid (by unfold putT; simp [atT])
  have B0 := (Below.refl w.heap.size w).alloc (Nat.le_refl _) (.cells #[.string s, .string p, .string o] 34)
  have X0 := Box.new w (.string s) (.string p) (.string o) 34
  go_enter Try.func69, Try.ntmps69
  go_wp2_with fail
  refine wp_loop_rounds 1 ?_
  rw [rounds_succ]
  go_wp2_with fail
  go_quiet (fail)
  have BE : Below w.heap.size w (World.drewN (w.alloc (.cells #[.string s, .string p, .string o] 34)) nq) := below_drewN B0 nq
  have XE : Box (World.drewN (w.alloc (.cells #[.string s, .string p, .string o] 34)) nq) w.heap.size (.string s) (.string p) (.string o) 34 := X0
  clear B0 X0
  generalize World.drewN (w.alloc (.cells #[.string s, .string p, .string o] 34)) nq = we at BE XE ⊢
  have hcl : w.heap.size < we.heap.size := XE.lt
  have O0 : OwnT we.heap.size (we.alloc (.cells #[] 34)) (.slice (some ⟨we.heap.size, 0, none⟩) 0 0) [] := World.ownsRow_lit (size := 3) (e := 34) we #[] 0 (Nat.le_refl _) (by decide) rfl
  have BA := BE.alloc BE.size (.cells #[] 34)
  have XA := XE.alloc (.cells #[] 34)
  have hsA : we.heap.size + 1 ≤ (we.alloc (.cells #[] 34)).heap.size := by rw [World.size_alloc]; omega
  have HO := Lib.hid O0
  clear O0 BE XE
  go_wp2_with (at_builtin; refine wpList_append_own_none rfl _ _ 26 rfl we.heap.size 34 i0 3 Try.underlying26 hi _ _ _ rfl HO.out rfl ?_)
  go_wp2_with fail
  go_quiet (fail)
  have B1 : Below w.heap.size w (World.drewN (we.alloc (.cells #[] 34)) nq) := below_drewN BA nq
  have X1 : Box (World.drewN (we.alloc (.cells #[] 34)) nq) w.heap.size (.string s) (.string p) (.string o) 34 := XA
  have O1 : OwnT we.heap.size (World.drewN (we.alloc (.cells #[] 34)) nq) (.slice (some ⟨we.heap.size, 0, none⟩) 0 0) [] := HO.out
  have hs1 : we.heap.size + 1 ≤ (World.drewN (we.alloc (.cells #[] 34)) nq).heap.size := hsA
  clear BA XA HO hsA
  generalize World.drewN (we.alloc (.cells #[] 34)) nq = w1 at B1 X1 O1 hs1 ⊢
  obtain ⟨e0, e1, e2⟩ := X1.cells
  have HC : ∀ (j : Nat) (x : Value), [Value.string s, .string p, .string o][j]? = some x → (w1.alloc (.cells #[.string s, .string p, .string o] 34)).cell? ((⟨w1.heap.size, 0, none⟩ : Addr).add j) = some x := three_cell
  have HH := Lib.hid HC
  have B1a := B1.alloc B1.size (.cells #[.string s, .string p, .string o] 34)
  have O1a := Lib.hid (World.ownsRow.alloc O1 (.cells #[.string s, .string p, .string o] 34))
  clear HC O1
  go_wp2_with (at_builtin; refine wpList_append_own _ rfl _ _ 26 rfl we.heap.size 34 i0 (.agg #[.string ⟨#[]⟩, .string ⟨#[]⟩, .string ⟨#[]⟩]) 3 48 Try.underlying26 hi hz0 hz1 hz2 rfl (by decide) _ _ _ rfl O1a.out ⟨w1.heap.size, 0, none⟩ 1 _ [.string s, .string p, .string o] rfl rfl HH.out (by first | exact flat_one _ | (intro x hx; simp at hx; rcases hx with rfl | rfl | rfl <;> rfl)) ?h63b ?h48b ?hbsb ?_)
  case h63b => rw [List.length_nil]; unfold maxLen; omega
  case h48b => rw [List.length_nil]; omega
  case hbsb => simp only [World.size_alloc]; omega
  intro v2 w2 hown2 hg2 _
  have O2 : OwnT we.heap.size w2 v2 [(s, p, o)] := own3_snoc (ts := []) (t := (s, p, o)) hown2
  have B2 : Below w.heap.size w w2 := B1a.grown hg2 B1a.size (fun j hj => by simp [Value.ownBlock] at hj; omega)
  have O4 := own_base O2 (Nat.le_of_lt hcl)
  have HO4 := Lib.hid O4
  have HO2 := Lib.hid O2
  clear hown2 hg2 O1a HH B1a O2 O4 e0 e1 e2 X1 B1
  go_wp2_with (at_builtin; refine wpList_append_own_none rfl _ _ 26 rfl we.heap.size 34 i0 3 Try.underlying26 hi _ _ _ rfl HO2.out rfl ?_)
  go_wp2_with fail
  go_ret
  exact ⟨v2, rfl, by rw [HR.out]; exact HO4.out, B2⟩
theorem specPutAny (a : Option Addr) (len cap : Nat) (ts : List Tri3) (s p o : ByteArray) (w : World) (h : IsTris w a len cap ts) (hp : Plain a) (hl : len ≤ 1048576) :
    Calls Try.prog 69 #[.slice a len cap, .agg #[.string s, .string p, .string o]] w fun e w' => ∃ v, e = .returned v ∧ OwnT w.heap.size w' v (putT ts (s, p, o)) ∧ Below w.heap.size w w' := by
  rcases hp with rfl | ⟨b, off, rfl⟩
  · rcases h with ⟨_, rfl, rfl, rfl⟩ | ⟨x, hx, _⟩
    · exact specPutNil s p o w
    · cases hx
  · exact specPut b off len cap ts s p o w h hl
end Go.Proofs.Ythnpchcfjkepaaa
