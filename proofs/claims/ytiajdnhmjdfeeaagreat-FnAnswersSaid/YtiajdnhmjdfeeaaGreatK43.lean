/- Whether a text is in a list of texts: the laws' own.; '!=' on pairs; the laws' way to hold two rows against each other.; The laws' own ways to hold rows and texts against each other. -/
import Derived.Test.YtiajdnhmjdfeeaaGreatK14
import Derived.Test.YtiajdnhmjdfeeaaGreatK16
import Derived.Laws.StructEq
import Derived.Deep.QuietTactic
import Derived.BigQuiet
import Derived.Test.YtiajdnhmjdfeeaaGreatK18
namespace Go.Proofs.YtiajdnhmjdfeeaaGreat
open Go.RowKit Go.WideShapes
set_option maxRecDepth 100000 in
theorem lawHasTx (a : Option Addr) (n c : Nat) (ts : List ByteArray) (x : ByteArray) (w : World) (h : IsStrs w a n c ts) (hn : n ≤ 1048576) :
    Calls Tryz.prog 29 #[.slice a n c, .string x] w fun e w' => e = .returned (.bool (hasB ts x)) ∧ w' = w := by
  have H := Lib.hid h
  have HL := Lib.hid h.len
  clear h
  go_enter Tryz.func29, Tryz.ntmps29
  go_wp2_with fail
  go_loop [5] (fun i => ∃ k : Nat, k ≤ n ∧ i = .int .i64 k ∧ Hid (∀ (i : Nat) (u : ByteArray), i < k → ts[i]? = some u → (u.toList == x.toList) = false)) (fun i => n - (intOf i).toNat)
  case atStart => exact ⟨0, Nat.zero_le _, rfl, Lib.hid (fun i u hi => by omega)⟩
  case round =>
    obtain ⟨k, hk, rfl, hno⟩ := hrel
    by_cases hlt : k < n
    · obtain ⟨b, off, rfl, hb, _, _, hts, hcs⟩ := H.out.cells (by omega)
      have hu : ts[k]? = some (ts[k]'(by omega)) := List.getElem?_eq_getElem (by omega)
      have hc := hcs k _ hu
      generalize ts[k]'(by omega) = u at hu hc
      have hk6 : (0 : Int) ≤ (k : Int) := by omega
      have hk7 : (k : Int) < (n : Int) := by omega
      have HU := Lib.hid hu
      clear hts hcs hu
      cases he : (u.toList == x.toList)
      · have HN : Hid (∀ (i : Nat) (u : ByteArray), i < k + 1 → ts[i]? = some u → (u.toList == x.toList) = false) := Lib.hid (fun i v hi hv => by
          rcases Nat.lt_or_ge i k with g | g
          · exact hno.out i v g hv
          · obtain rfl : i = k := by omega
            rw [HU.out] at hv; obtain rfl := Option.some.inj hv; exact he)
        clear hno HU
        go_wp2_with fail
        go_round
        case rel => exact ⟨k + 1, by omega, by go_num, HN⟩
        case measure => simp [intOf]; omega
      · have HR : Hid (hasB ts x = true) := Lib.hid (hasB_yes HU.out he)
        clear hno HU
        go_wp2_with fail
        go_ret
        exact ⟨by rw [HR.out]; rfl, rfl⟩
    · have HR : Hid (hasB ts x = false) := Lib.hid (hasB_no (fun i u hi hu => hno.out i u (by have := HL.out; omega) hu))
      clear hno
      go_wp2_with fail
      go_ret
      exact ⟨by rw [HR.out]; rfl, rfl⟩
end Go.Proofs.YtiajdnhmjdfeeaaGreat
namespace Go.Proofs.YtiajdnhmjdfeeaaGreat
open Go.RowKit Go.WideShapes
theorem pr_under : Tryz.prog.underlying 55 = some (.struct (Tryz.prog.fieldsOf 55)) := by kernel_rfl
theorem pr_stood : Tryz.prog.stoodInHeld 55 = false := by kernel_rfl
theorem pr_list : ((Tryz.prog.fieldsOf 55).toList.map fun f => (f.name, f.type, f.offset)) = [("Var", 9, 0), ("Term", 9, 1)] := by kernel_rfl
theorem prt0 (a b : ByteArray) (w : World) : (part 9 #[.string a, .string b] 0).run Tryz.prog w = .ok (.string a) w := by kernel_rfl
theorem prt1 (a b : ByteArray) (w : World) : (part 9 #[.string a, .string b] 1).run Tryz.prog w = .ok (.string b) w := by kernel_rfl
theorem pst_eq (a b : ByteArray) (w : World) : (Op.equalIn 9999 9 (.string a) (.string b)).run Tryz.prog w = .ok (a.toList == b.toList) w := run_equalIn_string w 9998 9 a b Tryz.underlying9
theorem pr_eq (s p s' p' : ByteArray) (w : World) : (Op.equalIn 10000 55 (.agg #[.string s, .string p]) (.agg #[.string s', .string p'])).run Tryz.prog w =
    .ok (s.toList == s'.toList && p.toList == p'.toList) w := by
  rw [run_equalIn_agg w 9999 55 _ _ pr_under pr_stood]
  have h := pr_list
  generalize (Tryz.prog.fieldsOf 55).toList = fs at h ⊢
  rcases fs with _ | ⟨f0, _ | ⟨f1, _ | ⟨f2, r⟩⟩⟩
  · simp at h
  · simp at h
  · simp only [List.map_cons, List.map_nil, List.cons.injEq, Prod.mk.injEq, and_true] at h
    obtain ⟨⟨n0, t0, o0⟩, ⟨n1, t1, o1⟩⟩ := h
    simp only [Op.eqFields, n0, n1, t0, t1, o0, o1]
    cases h1 : (s.toList == s'.toList) <;> cases h2 : (p.toList == p'.toList) <;> simp [prt0, prt1, pst_eq, h1, h2]
  · simp at h
theorem pr_ne (s p s' p' : ByteArray) (w : World) : (binOp .neq 55 (.agg #[.string s, .string p]) (.agg #[.string s', .string p'])).run Tryz.prog w =
    .ok (.bool !(s.toList == s'.toList && p.toList == p'.toList)) w := by
  rw [run_neq_struct, pr_eq]; rfl
theorem pr_same (s p : ByteArray) (w : World) : (binOp .neq 55 (.agg #[.string s, .string p]) (.agg #[.string s, .string p])).run Tryz.prog w = .ok (.bool false) w := by
  rw [pr_ne]; simp
set_option maxRecDepth 100000 in
set_option maxHeartbeats 1600000 in
theorem lawSameRow (a b : Option Addr) (la ca lb cb : Nat) (ts : List Pre2) (w : World) (h : IsPres w a la ca ts) (k : IsPres w b lb cb ts) (hl : la ≤ 1048576) :
    Calls Tryz.prog 65 #[.slice a la ca, .slice b lb cb] w fun e w' => e = .returned (.bool true) ∧ Below w.heap.size w w' := by
  have hlb : lb = la := by rw [← h.len, ← k.len]
  subst hlb
  have H := Lib.hid h
  have K := Lib.hid k
  clear h k
  go_enter Tryz.func65, Tryz.ntmps65
  go_wp2_with fail
  go_loopw [5] (fun i wr => ∃ j : Nat, j ≤ lb ∧ i = .int .i64 j ∧ Below w.heap.size w wr) (fun i _ => lb - (intOf i).toNat)
  case atStart => exact ⟨0, Nat.zero_le _, rfl, Below.refl _ _⟩
  case round =>
    obtain ⟨j, hj, rfl, hnx⟩ := hrel
    have hj6 : (0 : Int) ≤ (j : Int) := by omega
    by_cases hlt : j < lb
    · have hj7 : (j : Int) < (lb : Int) := by omega
      obtain ⟨b1, off, rfl, hb, hl1, hm1, hts, hcs⟩ := H.out.cells (by omega)
      obtain ⟨b2, off2, rfl, hb2, hl2, hm2, hts2, hcs2⟩ := K.out.cells (by omega)
      have ht : ts[j]? = some (ts[j]'(by omega)) := List.getElem?_eq_getElem (by omega)
      obtain ⟨c0, c1, m0, m1⟩ := hcs j _ ht
      obtain ⟨d0, d1, n0, n1⟩ := hcs2 j _ ht
      rw [← hnx.cell (p := ⟨b1, _, none⟩) hb] at c0 c1
      rw [← hnx.cell (p := ⟨b2, _, none⟩) hb2] at d0 d1
      generalize ts[j]'(by omega) = t at ht c0 c1 d0 d1 m0 m1 n0 n1
      have HB : Hid (∀ n, Below w.heap.size w (wr.drewN n)) := Lib.hid (fun n => below_drewN hnx n)
      have EQ := pr_same t.1 t.2
      clear ht hts hts2 hcs hcs2 hm1 hm2 m0 m1 n0 n1 hl1 hl2 hnx
      go_wp2_with fail
      go_quiet (fail)
      clear EQ
      go_wp2_with fail
      go_roundw
      case rel => exact ⟨j + 1, by omega, by go_num, HB.out _⟩
      case measure => simp [intOf]; omega
    · obtain rfl : j = lb := by omega
      go_wp2_with fail
      go_ret
      exact ⟨rfl, hnx⟩
end Go.Proofs.YtiajdnhmjdfeeaaGreat
namespace Go.Proofs.YtiajdnhmjdfeeaaGreat
open Go.RowKit Go.WideShapes
instance rowEq (ts us : RowV) : Decidable (ts = us) := decidable_of_iff (ts.length = us.length ∧ ∀ i, i < ts.length → ts[i]? = us[i]?) ⟨fun ⟨h, g⟩ => List.ext_getElem? fun i => by
  rcases Nat.lt_or_ge i ts.length with c | c
  · exact g i c
  · rw [List.getElem?_eq_none c, List.getElem?_eq_none (by omega)], fun h => by subst h; exact ⟨rfl, fun _ _ => rfl⟩⟩
set_option maxRecDepth 100000 in
set_option maxHeartbeats 1600000 in
theorem lawRowsSame (a b : Option Addr) (la ca lb cb : Nat) (rs : List RowV) (w : World) (ha : IsRows w a la ca rs) (hb : IsRows w b lb cb rs) (hs : la ≤ 1048576 ∧ ∀ r ∈ rs, r.length ≤ 1048576) :
    Calls Tryz.prog 24 #[.slice a la ca, .slice b lb cb] w fun e w' => e = .returned (.bool true) ∧ Below w.heap.size w w' := by
  have hlb : lb = la := by rw [← ha.len, ← hb.len]
  subst hlb
  have HA := Lib.hid ha
  have HB := Lib.hid hb
  have HTOT : Hid (∀ r ∈ rs, r.length ≤ 1048576) := Lib.hid hs.2
  have HT := Lib.hid ha.len
  have hl := hs.1
  clear ha hb hs
  go_enter Tryz.func24, Tryz.ntmps24
  go_wp2_with fail
  go_loopw [5] (fun i wr => ∃ k : Nat, k ≤ lb ∧ i = .int .i64 k ∧ Below w.heap.size w wr) (fun i _ => lb - (intOf i).toNat)
  case atStart => exact ⟨0, Nat.zero_le _, rfl, Below.refl _ _⟩
  case round =>
    obtain ⟨k, hk, rfl, hnx⟩ := hrel
    have hk6 : (0 : Int) ≤ (k : Int) := by omega
    by_cases hlt : k < lb
    · obtain ⟨x, off, rfl, hx, _, _, hts, hc⟩ := (HA.out.next hnx).cells (by omega)
      obtain ⟨y, off', rfl, hy, _, _, _, hd⟩ := (HB.out.next hnx).cells (by omega)
      have ht : rs[k]? = some rs[k] := List.getElem?_eq_getElem (by omega)
      obtain ⟨a1, n1, k1, c0, hz1⟩ := hc k _ ht
      obtain ⟨a2, n2, k2, d0, hz2⟩ := hd k _ ht
      have hzt := HTOT.out _ (List.getElem_mem (by omega : k < rs.length))
      generalize rs[k] = r at hz1 hz2 hzt
      have hn : n1 ≤ 1048576 := by have := hz1.len; omega
      have E := Lib.hid (fun (W : World) (h : Below wr.heap.size wr W) => lawSameRow a1 a2 n1 k1 n2 k2 r W (hz1.next h) (hz2.next h) hn)
      have hlt2 : (k : Int) < (lb : Int) := by omega
      have l1 : x < wr.heap.size := hx
      have l2 : y < wr.heap.size := hy
      clear ht hts hc hd hz1 hz2
      go_wp2_with fail
      go_region_held3 (fun w' => w'.cell? ⟨x, off + k, none⟩ = some (.slice a1 n1 k1) ∧ w'.cell? ⟨y, off' + k, none⟩ = some (.slice a2 n2 k2))
        (first | go_keep | (go_split_ands; refine ⟨?_, ?_⟩ <;> (rw [ha4.cell (by first | (simp; done) | exact World.block_lt_of_cell? _ _ (by assumption))]; assumption)))
        (first | (go_at_call 65; refine (E.out _ (Below.drew (Below.refl _ _))).mono ?_; rintro e wa ⟨rfl, ha4⟩))
      have B : Below w.heap.size w wa := (Below.drew hnx).trans (ha4.mono hnx.size)
      clear ha4 hnx c0 d0 E
      go_wp2_with fail
      go_roundw
      case rel => exact ⟨k + 1, by omega, by go_num, B⟩
      case measure => simp [intOf]; omega
    · go_wp2_with fail
      go_ret
      exact ⟨rfl, hnx⟩
end Go.Proofs.YtiajdnhmjdfeeaaGreat
