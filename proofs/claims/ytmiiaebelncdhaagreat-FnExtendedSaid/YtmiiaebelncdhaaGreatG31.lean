/- All rows of patterns: the specification's own l5Solve. -/
import Derived.Test.YtmiiaebelncdhaaGreatG30
import Derived.Test.YtmiiaebelncdhaaGreatG00
import Derived.Test.YtmiiaebelncdhaaGreatG06
import Derived.Test.YtmiiaebelncdhaaGreatG29
import Derived.Shelf.SlIter.Collect
import Derived.RangeFuncBound
namespace Go.Proofs.YtmiiaebelncdhaaGreat
open Go.RowKit Go.WideShapes Go.Maps
theorem addR_more_len (rs : List RowV) (r : RowV) : rs.length ≤ (addR rs r).length := by
  unfold addR
  split
  · exact Nat.le_refl _
  · simp [List.length_take]; omega
theorem addAllR_grows : ∀ (l rs : List RowV), rs.length ≤ (addAllR rs l).length
  | [], _ => Nat.le_refl _
  | r :: l, rs => Nat.le_trans (addR_more_len rs r) (addAllR_grows l (addR rs r))
theorem addAllR_app (rs l m : List RowV) : addAllR rs (l ++ m) = addAllR (addAllR rs l) m := by unfold addAllR; rw [List.foldl_append]
/-- What the first k rows, and of the next one the first j triples, give. -/
def uptoM (g : List Tri3) (p : Tri3) (rows : List RowV) (k j : Nat) : List RowV := joinM g p (rows.take k) ++ (match rows[k]? with | some r => (g.take j).filterMap (fun t => matchM r p t) | none => [])
theorem uptoM_start (g : List Tri3) (p : Tri3) (rows : List RowV) (k : Nat) : uptoM g p rows k 0 = joinM g p (rows.take k) := by
  unfold uptoM
  cases rows[k]? <;> simp
theorem uptoM_next {g : List Tri3} {p : Tri3} {rows : List RowV} {k j : Nat} {r : RowV} {t : Tri3} (hr : rows[k]? = some r) (ht : g[j]? = some t) : uptoM g p rows k (j + 1) = uptoM g p rows k j ++ (matchM r p t).toList := by
  have hl := (List.getElem?_eq_some_iff.1 ht).1
  have e : g.take (j + 1) = g.take j ++ [t] := by
    rw [List.take_succ_eq_append_getElem hl]
    rw [List.getElem?_eq_getElem hl] at ht
    rw [Option.some.inj ht]
  unfold uptoM
  rw [hr]
  have e3 : [t].filterMap (fun t => matchM r p t) = (matchM r p t).toList := by cases h : matchM r p t <;> simp [h]
  simp only [e, List.filterMap_append, List.append_assoc, e3]
theorem uptoM_row {g : List Tri3} {p : Tri3} {rows : List RowV} {k : Nat} {r : RowV} (hr : rows[k]? = some r) : uptoM g p rows k g.length = joinM g p (rows.take (k + 1)) := by
  have hl := (List.getElem?_eq_some_iff.1 hr).1
  have e : rows.take (k + 1) = rows.take k ++ [r] := by
    rw [List.take_succ_eq_append_getElem hl]
    rw [List.getElem?_eq_getElem hl] at hr
    rw [Option.some.inj hr]
  unfold uptoM joinM
  rw [hr, e, List.flatMap_append]
  simp
theorem uptoM_part {g : List Tri3} {p : Tri3} {rows : List RowV} {k j : Nat} (hk : k < rows.length) : ∃ m, joinM g p rows = uptoM g p rows k j ++ m := by
  have hr : rows[k]? = some rows[k] := List.getElem?_eq_getElem hk
  refine ⟨(g.drop j).filterMap (fun t => matchM rows[k] p t) ++ joinM g p (rows.drop (k + 1)), ?_⟩
  have e : rows = rows.take k ++ (rows[k] :: rows.drop (k + 1)) := by rw [← List.drop_eq_getElem_cons hk, List.take_append_drop]
  unfold uptoM
  rw [hr]
  conv => lhs; rw [e]
  unfold joinM
  rw [List.flatMap_append, List.flatMap_cons]
  have e2 : g.filterMap (fun t => matchM rows[k] p t) = (g.take j).filterMap (fun t => matchM rows[k] p t) ++ (g.drop j).filterMap (fun t => matchM rows[k] p t) := by rw [← List.filterMap_append, List.take_append_drop]
  rw [e2]
  simp [List.append_assoc]
theorem uptoM_over {g : List Tri3} {p : Tri3} {rows : List RowV} {k j : Nat} (hk : k < rows.length) (h : 300 < (addAllR [] (uptoM g p rows k j)).length) : 300 < (addAllR [] (joinM g p rows)).length := by
  obtain ⟨m, e⟩ := uptoM_part (g := g) (p := p) (j := j) hk
  rw [e, addAllR_app]
  exact Nat.lt_of_lt_of_le h (addAllR_grows _ _)
/-- Rows of at most m pairs, all of them short. -/
def SmQ (m : Nat) (rows : List RowV) : Prop := ∀ r ∈ rows, r.length ≤ m ∧ SmP r
theorem matchM_small {r h : RowV} {p t : Tri3} (hr : SmP r) (hp : p.1.size ≤ 1048576 ∧ p.2.1.size ≤ 1048576 ∧ p.2.2.size ≤ 1048576) (ht : t.1.size ≤ 1048576 ∧ t.2.1.size ≤ 1048576 ∧ t.2.2.size ≤ 1048576) (e : matchM r p t = some h) : SmP h := by
  intro u hu
  rcases matchM_mem e hu with hu | ⟨_, rfl | rfl | rfl⟩
  · exact hr u hu
  · exact ⟨hp.1, ht.1⟩
  · exact ⟨hp.2.1, ht.2.1⟩
  · exact ⟨hp.2.2, ht.2.2⟩
def SmT (ts : List Tri3) : Prop := ∀ t ∈ ts, t.1.size ≤ 1048576 ∧ t.2.1.size ≤ 1048576 ∧ t.2.2.size ≤ 1048576
theorem SmQ.join {m : Nat} {g : List Tri3} {p : Tri3} {rows : List RowV} (h : SmQ m rows) (hg : SmT g) (hp : p.1.size ≤ 1048576 ∧ p.2.1.size ≤ 1048576 ∧ p.2.2.size ≤ 1048576) : SmQ (m + 3) (joinM g p rows) := by
  intro r hr
  obtain ⟨q, hq, t, ht, e⟩ := joinM_mem.1 hr
  obtain ⟨h1, h2⟩ := h q hq
  exact ⟨by have := matchM_len e; omega, matchM_small h2 hp (hg t ht) e⟩
theorem SmQ.add {m : Nat} {L : List RowV} (h : SmQ m L) : SmQ m (addAllR [] L) := fun r hr => by
  rcases addAllR_mem hr with hr | hr
  · simp at hr
  · exact h r hr
theorem SmQ.long {m : Nat} {L : List RowV} (h : SmQ m L) (hm : m ≤ 1000) : LongR L := fun r hr => by
  obtain ⟨h1, h2⟩ := h r hr
  have := rowText_len h2
  omega
theorem OutI.at {B g n c : Nat} {w : World} {R : List RowV} {us : List Value} (h : OutI B w (.slice (some ⟨g, 0, none⟩) n c) R us) (hn : R.length = n) {k : Nat} (hk : k < n) : ∃ a1 n1 c1 r, R[k]? = some r ∧ w.cell? ⟨g, k, none⟩ = some (.slice a1 n1 c1) ∧ IsPres w a1 n1 c1 r := by
  have hu : us[k]? = some (us[k]'(by have := h.2.1; omega)) := List.getElem?_eq_getElem _
  have hr : R[k]? = some (R[k]'(by omega)) := List.getElem?_eq_getElem _
  obtain ⟨a1, n1, c1, e, hz⟩ := h.2.2 k _ _ hu hr
  have h1 := h.1
  rw [hn] at h1
  exact ⟨a1, n1, c1, _, hr, by rw [World.ownsRow.cellAt h1 k (by omega), hu, e], hz⟩
theorem solveM_over {g : List Tri3} {ls : List Tri3} {p : Tri3} {R : List RowV} {k j i : Nat} (hp : ls[i]? = some p) (hk : k < R.length) (h : 300 < (addAllR [] (uptoM g p R k j)).length) : solveM g (ls.drop i) R = none := by
  have hl := (List.getElem?_eq_some_iff.1 hp).1
  rw [List.drop_eq_getElem_cons hl]
  rw [List.getElem?_eq_getElem hl] at hp
  rw [Option.some.inj hp]
  unfold solveM
  rw [if_neg (by have := uptoM_over hk h; omega)]
theorem solveM_next {g : List Tri3} {ls : List Tri3} {p : Tri3} {R : List RowV} {i : Nat} (hp : ls[i]? = some p) (h : (addAllR [] (joinM g p R)).length ≤ 300) : solveM g (ls.drop i) R = solveM g (ls.drop (i + 1)) (addAllR [] (joinM g p R)) := by
  have hl := (List.getElem?_eq_some_iff.1 hp).1
  rw [List.drop_eq_getElem_cons hl]
  rw [List.getElem?_eq_getElem hl] at hp
  rw [Option.some.inj hp]
  conv => lhs; unfold solveM
  rw [if_pos h]
/-- Rows of a call's own, told by their handles, all from B on. -/
def OwnF (B : Nat) (w : World) (v : Value) (rs : List RowV) : Prop := ∃ us, OutI B w v rs us ∧ ∀ u ∈ us, FromB B u
theorem OwnF.is {B : Nat} {w : World} {v : Value} {rs : List RowV} (h : OwnF B w v rs) : ∃ a cap, v = .slice a rs.length cap ∧ IsRows w a rs.length cap rs := by
  obtain ⟨us, h, _⟩ := h
  exact h.is
theorem OwnF.isN {B : Nat} {w : World} {a : Option Addr} {n c : Nat} {rs : List RowV} (h : OwnF B w (.slice a n c) rs) : IsRows w a n c rs := by
  obtain ⟨a9, c9, e9, i9⟩ := h.is
  simp only [Value.slice.injEq] at e9
  obtain ⟨e1, e2, e3⟩ := e9
  rw [e1, e2, e3]
  exact i9
theorem OwnF.none (B : Nat) (w : World) : OwnF B w (.slice none 0 0) [] := ⟨[], ⟨World.ownsRow_nil .., rfl, fun i u r h => by simp at h⟩, fun u h => by simp at h⟩
theorem OwnF.base {B C : Nat} {w : World} {v : Value} {rs : List RowV} (h : OwnF B w v rs) (hc : C ≤ B) : OwnF C w v rs := by
  obtain ⟨us, h, hf⟩ := h
  exact ⟨us, h.base hc, fun u hu j hj => Nat.le_trans hc (hf u hu j hj)⟩
/-- What lies from B on stays where only one block ahead of B is written. -/
theorem OwnF.kept {B : Nat} {w w' : World} {v : Value} {rs : List RowV} {row : Option Nat} (h : OwnF B w v rs) (hg : w.grownBy w' row) (hr : ∀ j, row = some j → j < B) : OwnF B w' v rs := by
  obtain ⟨us, ⟨h1, h2, h3⟩, hf⟩ := h
  refine ⟨us, ⟨World.ownsRow.kept h1 hg ?_, h2, fun i u r hu hrr => (h3 i u r hu hrr).kept hg fun j hj e => ?_⟩, hf⟩
  · rcases hv : v.ownBlock with _ | q
    · exact .inl rfl
    · refine .inr fun e => ?_
      have := (World.ownsRow.lt h1 q hv).1
      have := hr q e.symm
      omega
  · have := hf u (List.mem_of_getElem? hu) j hj
    have := hr j e.symm
    omega
theorem OwnF.next {B : Nat} {w w' : World} {v : Value} {rs : List RowV} (h : OwnF B w v rs) (hb : Below w.heap.size w w') : OwnF B w' v rs := h.kept (grown_of_below hb) (fun j hj => by cases hj)
/-- The same, told to lie ahead of C, too. -/
def OwnFC (B C : Nat) (w : World) (v : Value) (rs : List RowV) : Prop := ∃ us, OutI B w v rs us ∧ (∀ u ∈ us, FromB B u) ∧ (∀ j, v.ownBlock = some j → j < C) ∧ ∀ (i : Nat) (u : Value) (r : RowV), us[i]? = some u → rs[i]? = some r → 0 < r.length → ∀ j, u.ownBlock = some j → j < C
theorem OwnF.upto {B : Nat} {w : World} {v : Value} {rs : List RowV} (h : OwnF B w v rs) : OwnFC B w.heap.size w v rs := by
  obtain ⟨us, h1, h2⟩ := h
  exact ⟨us, h1, h2, fun j hj => (World.ownsRow.lt h1.1 j hj).2, fun i u r hu hr h0 j hj => (h1.2.2 i u r hu hr).lt h0 j hj⟩
theorem OwnFC.f {B C : Nat} {w : World} {v : Value} {rs : List RowV} (h : OwnFC B C w v rs) : OwnF B w v rs := by
  obtain ⟨us, h1, h2, _⟩ := h
  exact ⟨us, h1, h2⟩
theorem OwnFC.kept {B C : Nat} {w w' : World} {v : Value} {rs : List RowV} {row : Option Nat} (h : OwnFC B C w v rs) (hg : w.grownBy w' row) (hr : ∀ j, row = some j → j < B ∨ C ≤ j) : OwnFC B C w' v rs := by
  obtain ⟨us, ⟨h1, h2, h3⟩, hf, hv, hu⟩ := h
  refine ⟨us, ⟨World.ownsRow.kept h1 hg ?_, h2, fun i u r hi hrr => ?_⟩, hf, hv, hu⟩
  · rcases hb : v.ownBlock with _ | q
    · exact .inl rfl
    · refine .inr fun e => ?_
      have := (World.ownsRow.lt h1 q hb).1
      have := hv q hb
      have := hr q e.symm
      omega
  · obtain ⟨a, n, c, rfl, hz⟩ := h3 i u r hi hrr
    refine ⟨a, n, c, rfl, hz.keptAt hg fun h0 x hx e => ?_⟩
    have hb : (Value.slice a n c).ownBlock = some x.block := by subst hx; rfl
    have := hf _ (List.mem_of_getElem? hi) _ hb
    have := hu i _ r hi hrr (by rw [hz.len]; exact h0) _ hb
    have := hr _ e.symm
    omega
theorem OutI.rows {B g n c : Nat} {w : World} {R : List RowV} {us : List Value} (h : OutI B w (.slice (some ⟨g, 0, none⟩) n c) R us) : IsRows w (some ⟨g, 0, none⟩) n c R := by
  obtain ⟨a9, c9, e9, i9⟩ := h.is
  simp only [Value.slice.injEq] at e9
  obtain ⟨e1, e2, e3⟩ := e9
  rw [e1, e2, e3]
  exact i9
theorem out_one {B : Nat} {w : World} {a : Option Addr} {n c : Nat} {r : RowV} (hB : B ≤ w.heap.size) (h : IsPres w a n c r) : OutI B (w.alloc (.cells #[.slice a n c] 36)) (.slice (some ⟨w.heap.size, 0, none⟩) 1 1) [r] [.slice a n c] :=
  ⟨World.ownsRow_lit (size := 1) (e := 36) w #[.slice a n c] 1 hB (by decide) rfl, rfl, fun i u s hu hs => by
    obtain rfl : i = 0 := by have := (List.getElem?_eq_some_iff.1 hu).1; simp at this; omega
    obtain rfl : Value.slice a n c = u := by simpa using hu
    obtain rfl : r = s := by simpa using hs
    exact ⟨a, n, c, rfl, h.next ((Below.refl w.heap.size w).alloc (Nat.le_refl _) _)⟩⟩
def SolvePostF (gs ls : List Tri3) (r0 : RowV) (w : World) (e : Ending) (w' : World) : Prop :=
  ∃ x n c, e = .returned (.tuple #[.slice x n c, .bool (solveM gs ls [r0]).isSome]) ∧ OwnF w.heap.size w' (.slice x n c) ((solveM gs ls [r0]).getD []) ∧ Below w.heap.size w w'
def SolvePost (gs ls : List Tri3) (r0 : RowV) (w : World) (e : Ending) (w' : World) : Prop :=
  ∃ x n c, e = .returned (.tuple #[.slice x n c, .bool (solveM gs ls [r0]).isSome]) ∧ IsRows w' x n c ((solveM gs ls [r0]).getD []) ∧ Below w.heap.size w w'
set_option maxRecDepth 100000 in
set_option maxHeartbeats 6400000 in
theorem specSolveF (a b s : Option Addr) (la ca lb cb sn sc : Nat) (gs ls : List Tri3) (r0 : RowV) (w : World) (ha : IsTris w a la ca gs) (hb : IsTris w b lb cb ls) (hs : IsPres w s sn sc r0) (hla : la ≤ 80) (hlb : lb ≤ 4) (hsn : sn ≤ 12) (hga : SmT gs) (hgb : SmT ls) (hr0 : SmP r0) :
    Calls Tryz.prog 52 #[.slice a la ca, .slice s sn sc, .slice b lb cb] w (SolvePostF gs ls r0 w) := by
  obtain ⟨j0, hj0, hy0, hy1, hy2⟩ := info_parts infoPair
  have HGA := Lib.hid hga
  have HGB := Lib.hid hgb
  have HLA := Lib.hid ha.len
  have HLB := Lib.hid hb.len
  have HA := Lib.hid ha
  have HB := Lib.hid hb
  have HR0 := Lib.hid hr0
  have HSL := Lib.hid hs.len
  have HSS := Lib.hid hs.small
  obtain ⟨RES, hRES⟩ : ∃ x, solveM gs ls [r0] = x := ⟨_, rfl⟩
  have HRES := Lib.hid hRES
  unfold SolvePostF
  rw [hRES]
  clear hRES hga hgb ha hb hr0
  have P0 : OwnP w.heap.size (w.alloc (.cells #[] 39)) (.slice (some ⟨w.heap.size, 0, none⟩) 0 0) [] := World.ownsRow_lit (size := 2) (e := 39) w #[] 0 (Nat.le_refl _) (by decide) rfl
  have HP := Lib.hid P0
  have BP := (Below.refl w.heap.size w).alloc (Nat.le_refl _) (.cells #[] 39)
  have hs5 := hs.next BP
  clear hs P0
  go_enter Tryz.func52, Tryz.ntmps52
  rcases hs5 with ⟨rfl, rfl, rfl, hr0⟩ | ⟨x, rfl, h1, h2, h3, h4⟩
  case' inl =>
    have ip : IsPres (w.alloc (.cells #[] 39)) (some ⟨w.heap.size, 0, none⟩) 0 0 r0 := .inr ⟨_, rfl, Nat.le_refl _, Nat.zero_le _, by rw [hr0]; rfl, by rw [hr0]; simp⟩
    have hO := Lib.hid (out_one BP.size ip)
    have BO := BP.alloc BP.size (.cells #[.slice (some ⟨w.heap.size, 0, none⟩) 0 0] 36)
    rw [World.size_alloc] at hO
    clear ip hr0 HP
    go_wp2_with fail
    generalize (w.alloc (.cells #[] 39)).alloc (.cells #[.slice (some ⟨w.heap.size, 0, none⟩) 0 0] 36) = w0 at hO BO ⊢
    have HO0 : Hid (∃ us, OutI w.heap.size w0 (.slice (some ⟨w.heap.size + 1, 0, none⟩) 1 1) [r0] us ∧ ∀ u ∈ us, FromB w.heap.size u) := Lib.hid ⟨_, hO.out, fun u hu j hj => by
      obtain rfl := List.mem_singleton.1 hu
      simp [Value.ownBlock] at hj
      omega⟩
    clear hO BP
    generalize w.heap.size + 1 = rb at HO0 ⊢
  case' inr =>
    have A := Lib.hid (fun j u hj => pres_news h4 j u hj)
    have H3 := Lib.hid h3
    have HF2 := Lib.hid (flatP_one r0)
    clear h4 h3
    go_wp2_with (at_builtin; refine wpList_append_own_at _ rfl _ _ 36 rfl w.heap.size 39 j0 (.agg #[.string ⟨#[]⟩, .string ⟨#[]⟩]) 2 32 Tryz.underlying36 hj0 hy0 hy1 hy2 rfl (by decide) _ _ _ rfl HP.out x sn sc (flatP r0) rfl (by rw [flatP_len, H3.out]) A.out HF2.out ?qc4 ?qc5 ?qc6 ?_)
    case qc4 => (try rw [List.length_nil]); unfold maxLen; omega
    case qc5 => (try rw [List.length_nil]); omega
    case qc6 => simp
    intro uz wz hown hgrow _ _
    have HU5 : OwnP w.heap.size wz uz r0 := by unfold OwnP; rw [H3.out]; simpa [flatP] using hown
    have B5 := BP.grown hgrow BP.size (fun j hj => by simp [Value.ownBlock] at hj; omega)
    obtain ⟨ga, ca', rfl, ip⟩ := HU5.is HSS.out
    have huf := fun j hj => (World.ownsRow.lt HU5 j hj).1
    have hO := Lib.hid (out_one B5.size ip)
    have BO := B5.alloc B5.size (.cells #[.slice ga r0.length ca'] 36)
    have HUF := Lib.hid huf
    clear hown hgrow HU5 A HP ip H3 HF2 h1 h2 huf
    go_wp2_with fail
    generalize wz.alloc (.cells #[.slice ga r0.length ca'] 36) = w0 at hO BO ⊢
    have HO0 : Hid (∃ us, OutI w.heap.size w0 (.slice (some ⟨wz.heap.size, 0, none⟩) 1 1) [r0] us ∧ ∀ u ∈ us, FromB w.heap.size u) := Lib.hid ⟨_, hO.out, fun u hu j hj => by
      obtain rfl := List.mem_singleton.1 hu
      exact HUF.out j hj⟩
    clear hO B5 BP HUF
    generalize wz.heap.size = rb at HO0 ⊢
  all_goals
    go_loopw [8, 9] (fun v i wr => ∃ k g n c : Nat, k ≤ lb ∧ i = .int .i64 k ∧ v = .slice (some ⟨g, 0, none⟩) n c ∧ n ≤ 300 ∧ (∃ R us, Hid (OutI w.heap.size wr (.slice (some ⟨g, 0, none⟩) n c) R us ∧ R.length = n ∧ (solveM gs (ls.drop k) R = RES ∧ SmQ (12 + 3 * k) R) ∧ ∀ u ∈ us, FromB w.heap.size u)) ∧ Below w.heap.size w wr) (fun _ i _ => lb - (intOf i).toNat)
    case atStart =>
      obtain ⟨us0, hus0⟩ := HO0.out
      exact ⟨0, rb, 1, 1, Nat.zero_le _, rfl, rfl, by omega, ⟨[r0], us0, Lib.hid ⟨hus0.1, rfl, ⟨by rw [List.drop_zero]; exact HRES.out, fun r hr => by
        obtain rfl : r = r0 := by simpa using hr
        exact ⟨by rw [HSL.out]; omega, HR0.out⟩⟩, hus0.2⟩⟩, BO⟩
    case round =>
      obtain ⟨i, g, n, c, hi, rfl, rfl, hn, ⟨R, us, HR⟩, hnx⟩ := hrel
      clear HO0 BO
      have hi6 : (0 : Int) ≤ (i : Int) := by omega
      have HRN := Lib.hid HR.out.2.1
      have HRS := Lib.hid HR.out.2.2.1
      have HRF := Lib.hid HR.out.2.2.2
      have HRO := Lib.hid HR.out.1
      clear HR
      by_cases hil : i < lb
      · obtain ⟨pb, po, rfl, hpb, _, _, hts, hcs⟩ := HB.out.cells (by omega)
        have ht : ls[i]? = some (ls[i]'(by omega)) := List.getElem?_eq_getElem (by omega)
        have hp0 := hcs i _ ht
        have hps := HGB.out _ (List.getElem_mem (by omega : i < ls.length))
        generalize ls[i]'(by omega) = p at ht hp0 hps
        have HPT := Lib.hid ht
        have HPS := Lib.hid hps
        have HPC := Lib.hid (And.intro hp0.1 (And.intro hp0.2.1 hp0.2.2.1))
        have hi7 : (i : Int) < (lb : Int) := by omega
        clear hts hcs ht hp0 hps
        obtain ⟨wo, rfl⟩ : ∃ x, x = wr := ⟨_, rfl⟩
        have O0 : OutI wo.heap.size (wo.alloc (.cells #[] 36)) (.slice (some ⟨wo.heap.size, 0, none⟩) 0 0) [] [] := ⟨World.ownsRow_lit (size := 1) (e := 36) wo #[] 0 (Nat.le_refl _) (by decide) rfl, rfl, by simp⟩
        have HO0 := Lib.hid O0
        have B2 := (Below.refl wo.heap.size wo).alloc (Nat.le_refl _) (.cells #[] 36)
        have HNX := Lib.hid hnx
        clear O0 hnx
        go_wp2_with fail
        go_loopw [10, 11] (fun v k' wr => ∃ k g' n' c' : Nat, k ≤ n ∧ k' = .int .i64 k ∧ v = .slice (some ⟨g', 0, none⟩) n' c' ∧ n' ≤ 300 ∧ (∃ us', Hid ((OutI wo.heap.size wr (.slice (some ⟨g', 0, none⟩) n' c') (addAllR [] (joinM gs p (R.take k))) us' ∧ (addAllR [] (joinM gs p (R.take k))).length = n') ∧ ∀ u ∈ us', FromB wo.heap.size u)) ∧ Below wo.heap.size wo wr) (fun _ k' _ => n - (intOf k').toNat)
        case atStart => exact ⟨0, _, 0, 0, Nat.zero_le _, rfl, rfl, by omega, ⟨[], Lib.hid ⟨⟨by simpa [joinM, addAllR] using HO0.out, by simp [joinM, addAllR]⟩, fun u hu => by simp at hu⟩⟩, B2⟩
        case round =>
          obtain ⟨k, g', n', c', hk, rfl, rfl, hn', ⟨us', HQ⟩, hbx⟩ := hrel
          clear HO0 B2
          have hk6 : (0 : Int) ≤ (k : Int) := by omega
          by_cases hkl : k < n
          · obtain ⟨a1, n1, c1, r, hr, hc0, hz⟩ := HRO.out.at HRN.out hkl
            have hrm := HRS.out.2 r (List.mem_of_getElem? hr)
            have HRK := Lib.hid hr
            have HC0 := Lib.hid hc0
            have HZ := Lib.hid hz
            have HRM := Lib.hid hrm
            have hn1 : n1 ≤ 1000 := by have := hz.len; omega
            have hglt : g < wo.heap.size := by have := World.block_lt_of_cell? _ _ hc0; simpa using this
            have HQ0 : Hid ((OutI wo.heap.size wr (.slice (some ⟨g', 0, none⟩) n' c') (addAllR [] (uptoM gs p R k 0)) us' ∧ (addAllR [] (uptoM gs p R k 0)).length = n') ∧ ∀ u ∈ us', FromB wo.heap.size u) := Lib.hid (by rw [uptoM_start]; exact HQ.out)
            have hk7 : (k : Int) < (n : Int) := by omega
            clear hr hc0 hz hrm HQ
            go_wp2_with fail
            go_loopw [10, 12] (fun v j' wr => ∃ j g' n' c' : Nat, j ≤ la ∧ j' = .int .i64 j ∧ v = .slice (some ⟨g', 0, none⟩) n' c' ∧ n' ≤ 300 ∧ (∃ us', Hid ((OutI wo.heap.size wr (.slice (some ⟨g', 0, none⟩) n' c') (addAllR [] (uptoM gs p R k j)) us' ∧ (addAllR [] (uptoM gs p R k j)).length = n') ∧ ∀ u ∈ us', FromB wo.heap.size u)) ∧ Below wo.heap.size wo wr) (fun _ j' _ => la - (intOf j').toNat)
            case atStart => exact ⟨0, g', n', c', Nat.zero_le _, rfl, rfl, hn', ⟨us', HQ0⟩, hbx⟩
            case round =>
              clear HQ0 hbx hn'
              obtain ⟨j, g', n', c', hj, rfl, rfl, hn', ⟨us', HQ⟩, hbx⟩ := hrel
              have hj6 : (0 : Int) ≤ (j : Int) := by omega
              by_cases hjl : j < la
              · obtain ⟨tb, to, rfl, htb, _, _, hts, hcs⟩ := HA.out.cells (by omega)
                have ht : gs[j]? = some (gs[j]'(by omega)) := List.getElem?_eq_getElem (by omega)
                have ht0 := hcs j _ ht
                generalize gs[j]'(by omega) = t at ht ht0
                have HTT := Lib.hid ht
                have hnx := HNX.out.trans (hbx.mono HNX.out.size)
                have hz := HZ.out.next hbx
                have CP' := specMatch a1 n1 c1 r p t wr.drew (hz.next (Below.drew (Below.refl _ _))) hn1 (by have := HPS.out; omega)
                have HUN := Lib.hid (uptoM_next (p := p) HRK.out ht)
                have q0 : wr.drew.cell? ⟨g, k, none⟩ = some (.slice a1 n1 c1) := (hbx.cell (p := ⟨g, k, none⟩) hglt).trans HC0.out
                have q1 : wr.drew.cell? ⟨pb, po + i * 3, none⟩ = some (.string p.1) := (hnx.cell (p := ⟨pb, _, none⟩) hpb).trans HPC.out.1
                have q2 : wr.drew.cell? ⟨pb, po + i * 3 + 1, none⟩ = some (.string p.2.1) := (hnx.cell (p := ⟨pb, _, none⟩) hpb).trans HPC.out.2.1
                have q3 : wr.drew.cell? ⟨pb, po + i * 3 + 2, none⟩ = some (.string p.2.2) := (hnx.cell (p := ⟨pb, _, none⟩) hpb).trans HPC.out.2.2
                have q4 : wr.drew.cell? ⟨tb, to + j * 3, none⟩ = some (.string t.1) := (hnx.cell (p := ⟨tb, _, none⟩) htb).trans ht0.1
                have q5 : wr.drew.cell? ⟨tb, to + j * 3 + 1, none⟩ = some (.string t.2.1) := (hnx.cell (p := ⟨tb, _, none⟩) htb).trans ht0.2.1
                have q6 : wr.drew.cell? ⟨tb, to + j * 3 + 2, none⟩ = some (.string t.2.2) := (hnx.cell (p := ⟨tb, _, none⟩) htb).trans ht0.2.2.1
                have hj7 : (j : Int) < (la : Int) := by omega
                have l0 : g < wr.drew.heap.size := Nat.lt_of_lt_of_le hglt hbx.size
                have lp : pb < wr.drew.heap.size := Nat.lt_of_lt_of_le hpb hnx.size
                have lt : tb < wr.drew.heap.size := Nat.lt_of_lt_of_le htb hnx.size
                have HTS := Lib.hid (HGA.out t (List.mem_of_getElem? ht))
                unfold MatchPost at CP'
                obtain ⟨mm, hmm⟩ : ∃ mm, matchM r p t = mm := ⟨_, rfl⟩
                rw [hmm] at CP' HUN
                have HMM := Lib.hid hmm
                have CP := Lib.hid CP'
                have HBX := Lib.hid hbx
                clear CP' hmm ht ht0 hts hcs hz hnx hbx
                go_wp2_with fail
                go_region_held3 (fun w' => w'.cell? ⟨g, k, none⟩ = some (.slice a1 n1 c1) ∧ w'.cell? ⟨pb, po + i * 3, none⟩ = some (.string p.1) ∧ w'.cell? ⟨pb, po + i * 3 + 1, none⟩ = some (.string p.2.1) ∧ w'.cell? ⟨pb, po + i * 3 + 2, none⟩ = some (.string p.2.2) ∧ w'.cell? ⟨tb, to + j * 3, none⟩ = some (.string t.1) ∧ w'.cell? ⟨tb, to + j * 3 + 1, none⟩ = some (.string t.2.1) ∧ w'.cell? ⟨tb, to + j * 3 + 2, none⟩ = some (.string t.2.2))
                  (first | go_keep | (have r0 := (hb5.cell (p := ⟨g, k, none⟩) l0).trans q0; have r1 := (hb5.cell (p := ⟨pb, po + i * 3, none⟩) lp).trans q1; have r2 := (hb5.cell (p := ⟨pb, po + i * 3 + 1, none⟩) lp).trans q2; have r3 := (hb5.cell (p := ⟨pb, po + i * 3 + 2, none⟩) lp).trans q3; have r4 := (hb5.cell (p := ⟨tb, to + j * 3, none⟩) lt).trans q4; have r5 := (hb5.cell (p := ⟨tb, to + j * 3 + 1, none⟩) lt).trans q5; have r6 := (hb5.cell (p := ⟨tb, to + j * 3 + 2, none⟩) lt).trans q6; with_reducible exact ⟨r0, r1, r2, r3, r4, r5, r6⟩))
                  (first | (go_at_call 97; refine CP.out.mono ?_; rintro e w5 ⟨v, rfl, ho5, hb5⟩))
                have hbr : Below wr.heap.size wr w5 := (Below.drew (Below.refl wr.heap.size wr)).trans hb5
                have B5 := HBX.out.trans (hbr.mono HBX.out.size)
                have HQ5 : Hid (OutI wo.heap.size w5 (.slice (some ⟨g', 0, none⟩) n' c') (addAllR [] (uptoM gs p R k j)) us') := Lib.hid (HQ.out.1.1.next hbr)
                have HQL := Lib.hid HQ.out.1.2
                have HQF := Lib.hid HQ.out.2
                have hwr : wo.heap.size ≤ w5.heap.size := B5.size
                clear CP hb5 hbr HBX HQ q0 q1 q2 q3 q4 q5 q6
                cases mm
                · have HQ6 : Hid ((OutI wo.heap.size w5 (.slice (some ⟨g', 0, none⟩) n' c') (addAllR [] (uptoM gs p R k (j + 1))) us' ∧ (addAllR [] (uptoM gs p R k (j + 1))).length = n') ∧ ∀ u ∈ us', FromB wo.heap.size u) := Lib.hid (by rw [HUN.out, Option.toList_none, List.append_nil]; exact ⟨⟨HQ5.out, HQL.out⟩, HQF.out⟩)
                  have hn8 : ¬ (300 : Int) < (n' : Int) := by omega
                  clear HQ5 HQL ho5
                  go_wp2_with fail
                  go_roundw
                  case rel => exact ⟨j + 1, g', n', c', by omega, by go_num, rfl, hn', ⟨us', HQ6⟩, B5⟩
                  case measure => simp [intOf]; omega
                · rename_i q
                  have hq1 := matchM_small HRM.out.2 HPS.out HTS.out HMM.out
                  have hq2 := matchM_len HMM.out
                  have hrl := HRM.out.1
                  have ho5' : OwnP wr.drew.heap.size w5 v q := ho5
                  obtain ⟨va, vc, hve, hv⟩ := ho5'.is (fun t ht => by have := hq1 t ht; unfold maxLen; omega)
                  subst hve
                  have HL2 : Hid (addAllR [] (uptoM gs p R k (j + 1)) = addR (addAllR [] (uptoM gs p R k j)) q) := Lib.hid (by rw [HUN.out, Option.toList_some, addAllR_snoc])
                  have HLG : Hid (LongR (addAllR [] (uptoM gs p R k j))) := Lib.hid (SmQ.long (m := 27) (SmQ.add (fun x hx => by
                    obtain ⟨m, em⟩ := uptoM_part (g := gs) (p := p) (j := j) (rows := R) (k := k) (by rw [HRN.out]; exact hkl)
                    have hx' : x ∈ joinM gs p R := by rw [em]; exact List.mem_append_left _ hx
                    have := HRS.out.2.join HGA.out HPS.out x hx'
                    exact ⟨by have := this.1; omega, this.2⟩)) (by omega))
                  have HQT : Hid ((rowTextL q).length ≤ 140737488355328) := Lib.hid (by have := rowText_len hq1; omega)
                  have hov : 300 < (addAllR [] (uptoM gs p R k (j + 1))).length → RES = none := fun h => by
                    rw [← HRS.out.1]
                    exact solveM_over HPT.out (by rw [HRN.out]; exact hkl) h
                  have HOV := Lib.hid hov
                  obtain ⟨L2, hL2⟩ : ∃ L2, addAllR [] (uptoM gs p R k (j + 1)) = L2 := ⟨_, rfl⟩
                  rw [hL2] at HL2 HOV
                  have HLE := Lib.hid hL2
                  clear hL2
                  generalize addAllR [] (uptoM gs p R k j) = L at HQ5 HQL HL2 HLG
                  generalize hkn : q.length = kn at hv hq2 ⊢
                  have hAL := HQL.out
                  have E := Lib.hid (fun W (h : Below w5.heap.size w5 W) => specAddF wo.heap.size g' n' c' L us' va kn vc q W (HQ5.out.next h) HQL.out (by omega) (by have := B5.size; have := h.size; omega) (hv.next h) (by omega) HLG.out HQT.out)
                  clear ho5 ho5' hv HQ5 HQT HLG hq1 hov
                  go_wp2_with fail
                  refine (E.out _ (by first | exact Below.refl _ _ | exact Below.drew (Below.refl _ _))).mono ?_
                  rintro e w6 ⟨g2, n2, c2, us2, rfl, ho6, hl6, hb6, hf6⟩
                  have HF6 : Hid (∀ u ∈ us2, FromB wo.heap.size u) := Lib.hid (fun u hu => by
                    rcases hf6 u hu with h | h
                    · exact HQF.out u h
                    · exact fun q hq => Nat.le_trans hwr (h q hq))
                  clear hf6
                  have B6 := B5.trans (hb6.mono B5.size)
                  rw [← HL2.out] at ho6 hl6
                  have HQ6 := Lib.hid (And.intro ho6 hl6)
                  clear ho6 hb6 E B5
                  by_cases h300 : n2 ≤ 300
                  · have hn8 : ¬ (300 : Int) < (n2 : Int) := by omega
                    clear hl6
                    go_wp2_with fail
                    go_roundw
                    case rel => exact ⟨j + 1, g2, n2, c2, by omega, by go_num, rfl, h300, ⟨us2, Lib.hid (by rw [HLE.out]; exact ⟨HQ6.out, HF6.out⟩)⟩, B6⟩
                    case measure => simp [intOf]; omega
                  · have hn8 : (300 : Int) < (n2 : Int) := by omega
                    have HRN2 : Hid (RES = none) := Lib.hid (HOV.out (by omega))
                    have BR := HNX.out.trans (B6.mono HNX.out.size)
                    clear hl6 HQ6
                    go_wp2_with fail
                    go_ret2
                    exact ⟨none, 0, 0, by rw [HRN2.out]; rfl, by rw [HRN2.out]; exact OwnF.none _ _, BR⟩
              · have HQ6 : Hid ((OutI wo.heap.size wr (.slice (some ⟨g', 0, none⟩) n' c') (addAllR [] (joinM gs p (R.take (k + 1)))) us' ∧ (addAllR [] (joinM gs p (R.take (k + 1)))).length = n') ∧ ∀ u ∈ us', FromB wo.heap.size u) := Lib.hid (by
                  rw [← uptoM_row HRK.out, HLA.out]
                  have h1 := HQ.out
                  have e : j = la := by omega
                  rw [e] at h1
                  exact h1)
                clear HQ
                go_wp2_with fail
                go_roundw
                case rel => exact ⟨k + 1, g', n', c', by omega, by go_num, rfl, hn', ⟨us', HQ6⟩, hbx⟩
                case measure => simp [intOf]; omega
          · have hkn : R.take k = R := List.take_of_length_le (by rw [HRN.out]; omega)
            have HQ6 : Hid (OutI w.heap.size wr (.slice (some ⟨g', 0, none⟩) n' c') (addAllR [] (joinM gs p R)) us' ∧ (addAllR [] (joinM gs p R)).length = n' ∧ (solveM gs (ls.drop (i + 1)) (addAllR [] (joinM gs p R)) = RES ∧ SmQ (12 + 3 * (i + 1)) (addAllR [] (joinM gs p R))) ∧ ∀ u ∈ us', FromB w.heap.size u) := Lib.hid (by
              have h1 := HQ.out
              rw [hkn] at h1
              refine ⟨h1.1.1.base HNX.out.size, h1.1.2, ⟨?_, ?_⟩, fun u hu q hq => Nat.le_trans HNX.out.size (h1.2 u hu q hq)⟩
              · rw [← HRS.out.1]
                exact (solveM_next HPT.out (by rw [h1.1.2]; exact hn')).symm
              · have := (HRS.out.2.join HGA.out HPS.out).add
                exact this)
            have BR := HNX.out.trans (hbx.mono HNX.out.size)
            clear HQ hkn
            go_wp2_with fail
            go_roundw
            case rel => exact ⟨i + 1, g', n', c', by omega, by go_num, rfl, hn', ⟨_, us', HQ6⟩, BR⟩
            case measure => simp [intOf]; omega
      · have HF : Hid (RES = some R ∧ OwnF w.heap.size wr (.slice (some ⟨g, 0, none⟩) n c) R) := Lib.hid (by
          have h1 := HRS.out.1
          rw [List.drop_of_length_le (by rw [HLB.out]; omega)] at h1
          exact ⟨h1.symm, us, HRO.out, HRF.out⟩)
        clear HRO
        go_wp2_with fail
        go_ret2
        exact ⟨some ⟨g, 0, none⟩, n, c, by rw [HF.out.1]; rfl, by rw [HF.out.1]; exact HF.out.2, hnx⟩
theorem specSolve (a b s : Option Addr) (la ca lb cb sn sc : Nat) (gs ls : List Tri3) (r0 : RowV) (w : World) (ha : IsTris w a la ca gs) (hb : IsTris w b lb cb ls) (hs : IsPres w s sn sc r0) (hla : la ≤ 80) (hlb : lb ≤ 4) (hsn : sn ≤ 12) (hga : SmT gs) (hgb : SmT ls) (hr0 : SmP r0) :
    Calls Tryz.prog 52 #[.slice a la ca, .slice s sn sc, .slice b lb cb] w (SolvePost gs ls r0 w) :=
  (specSolveF a b s la ca lb cb sn sc gs ls r0 w ha hb hs hla hlb hsn hga hgb hr0).mono fun _ _ ⟨x, n, c, h1, h2, h3⟩ => ⟨x, n, c, h1, h2.isN, h3⟩
end Go.Proofs.YtmiiaebelncdhaaGreat
/- What fits a pattern of a store: the program's own. -/
namespace Go.Proofs.YtmiiaebelncdhaaGreat
open Go.RowKit Go.WideShapes
def fitB (a b : ByteArray) : Bool := a.toList.isEmpty || (a.toList == b.toList)
def fitT (p t : Tri3) : Bool := fitB p.1 t.1 && (fitB p.2.1 t.2.1 && fitB p.2.2 t.2.2)
theorem fit_cases (a b : ByteArray) : (a.toList.isEmpty = true ∧ fitB a b = true) ∨ (a.toList.isEmpty = false ∧ (a.toList == b.toList) = true ∧ fitB a b = true) ∨ (a.toList.isEmpty = false ∧ (a.toList == b.toList) = false ∧ fitB a b = false) := by
  unfold fitB
  cases a.toList.isEmpty <;> cases (a.toList == b.toList) <;> simp
theorem implFits (a b : ByteArray) (w : World) : Calls Tryz.prog 143 #[.string a, .string b] w fun e w' => e = .returned (.bool (fitB a b)) ∧ w = w' := by
  rcases fit_cases a b with ⟨h1, h⟩ | ⟨h1, h2, h⟩ | ⟨h1, h2, h⟩
  all_goals
    rw [h]
    clear h
    go_enter Tryz.func143, Tryz.ntmps143
    go_wp2_with fail
    go_ret
    exact ⟨rfl, rfl⟩
set_option maxRecDepth 100000 in
theorem implFitsAll (p t : Tri3) (w : World) : Calls Tryz.prog 123 #[.agg #[.string p.1, .string p.2.1, .string p.2.2], .agg #[.string t.1, .string t.2.1, .string t.2.2]] w fun e w' => e = .returned (.bool (fitT p t)) ∧ Below w.heap.size w w' := by
  have C1 := implFits p.1 t.1
  have C2 := implFits p.2.1 t.2.1
  have C3 := implFits p.2.2 t.2.2
  unfold fitT
  generalize fitB p.1 t.1 = b1 at C1 ⊢
  generalize fitB p.2.1 t.2.1 = b2 at C2 ⊢
  generalize fitB p.2.2 t.2.2 = b3 at C3 ⊢
  have D1 := Lib.hid C1
  have D2 := Lib.hid C2
  have D3 := Lib.hid C3
  clear C1 C2 C3
  cases b1
  · go_enter Tryz.func123, Tryz.ntmps123
    go_wp2_with (go_at_call 143; refine (D1.out _).mono ?_; rintro e w1 ⟨rfl, rfl⟩)
    go_ret
    exact ⟨rfl, ((Below.refl _ _).alloc (Nat.le_refl _) _).alloc (by simp) _⟩
  cases b2
  · go_enter Tryz.func123, Tryz.ntmps123
    go_wp2_with fail
    refine (D1.out _).mono ?_
    rintro e w1 ⟨rfl, rfl⟩
    go_wp2_with fail
    refine (D2.out _).mono ?_
    rintro e w1 ⟨rfl, rfl⟩
    go_wp2_with fail
    go_ret
    exact ⟨rfl, ((Below.refl _ _).alloc (Nat.le_refl _) _).alloc (by simp) _⟩
  cases b3
  all_goals
    go_enter Tryz.func123, Tryz.ntmps123
    go_wp2_with fail
    refine (D1.out _).mono ?_
    rintro e w1 ⟨rfl, rfl⟩
    go_wp2_with fail
    refine (D2.out _).mono ?_
    rintro e w1 ⟨rfl, rfl⟩
    go_wp2_with fail
    refine (D3.out _).mono ?_
    rintro e w1 ⟨rfl, rfl⟩
    go_wp2_with fail
    go_ret
    exact ⟨rfl, ((Below.refl _ _).alloc (Nat.le_refl _) _).alloc (by simp) _⟩
end Go.Proofs.YtmiiaebelncdhaaGreat
/- The program's own way through rows and triples: the iterator 'joined'. -/
namespace Go.Proofs.YtmiiaebelncdhaaGreat
open Go.RowKit Go.WideShapes Go.Maps Go.Sort Go.Shelf
def testB (a t : Tri3) : Bool := fitT (blankT a) t && alikeB a t
theorem fitB_blank {x y : ByteArray} (hx : x.data.toList ≠ []) : fitB (blankV x) y = true ↔ (isVarK x.data.toList = true ∨ x = y) := by
  unfold fitB blankV
  by_cases hv : isVarK x.data.toList = true
  · rw [if_pos hv]
    simp [hv, ByteArray.toList_eq]
  · rw [if_neg hv]
    rw [Bool.or_eq_true, ByteArray.toList_eq, ByteArray.toList_eq, beq_iff_eq]
    constructor
    · rintro (h | h)
      · exact absurd (List.isEmpty_iff.1 h) hx
      · exact .inr (data_inj h)
    · rintro (h | h)
      · exact absurd h hv
      · exact .inr (by rw [h])
theorem imp_b {a b c d : ByteArray} : (!(a.toList == b.toList) || c.toList == d.toList) = true ↔ (a = b → c = d) := by
  rw [Bool.or_eq_true, Bool.not_eq_true', beq_eq_false_iff_ne, beq_iff_eq, ByteArray.toList_eq, ByteArray.toList_eq, ByteArray.toList_eq, ByteArray.toList_eq]
  constructor
  · rintro (h | h) e
    · exact absurd (by rw [e]) h
    · exact data_inj h
  · intro h
    by_cases e : a = b
    · exact .inr (by rw [h e])
    · exact .inl (fun e' => e (data_inj e'))
theorem test_is {a t : Tri3} (h : a.1.data.toList ≠ [] ∧ a.2.1.data.toList ≠ [] ∧ a.2.2.data.toList ≠ []) : testB a t = true ↔ fitsM a t ∧ alikeM a t := by
  unfold testB fitT blankT alikeB fitsM alikeM
  simp only [Bool.and_eq_true, fitB_blank h.1, fitB_blank h.2.1, fitB_blank h.2.2, imp_b]
/-- What a row must be like. -/
def GoodR (r : RowV) : Prop := Asc r ∧ PlainV r ∧ (∀ u ∈ r, u.2.data.toList ≠ []) ∧ r.length ≤ 1000 ∧ SmP r
theorem seen_full {r : RowV} {x : ByteArray} (hr : ∀ u ∈ r, u.2.data.toList ≠ []) (hx : x.data.toList ≠ []) : (seen r x).data.toList ≠ [] := by
  rcases seen_has (r := r) x with ⟨v, hv, hs⟩ | ⟨_, hs⟩
  · rw [hs]; exact hr _ hv
  · rw [hs]; exact hx
theorem seen_size {r : RowV} {x : ByteArray} (hr : SmP r) (hx : x.size ≤ 1048576) : (seen r x).size ≤ 1048576 := by
  rcases seen_has (r := r) x with ⟨v, hv, hs⟩ | ⟨_, hs⟩
  · rw [hs]; exact (hr _ hv).2
  · rw [hs]; exact hx
theorem match_test {r : RowV} {p t : Tri3} (hr : GoodR r) (hp : p.1.data.toList ≠ [] ∧ p.2.1.data.toList ≠ [] ∧ p.2.2.data.toList ≠ []) : matchM r p t = if testB (askM r p) t = true then some (boundM r (askM r p) t) else none := by
  have hne : (askM r p).1.data.toList ≠ [] ∧ (askM r p).2.1.data.toList ≠ [] ∧ (askM r p).2.2.data.toList ≠ [] := ⟨seen_full hr.2.2.1 hp.1, seen_full hr.2.2.1 hp.2.1, seen_full hr.2.2.1 hp.2.2⟩
  obtain ⟨h1, h2⟩ := matchM_is (p := p) (t := t) hr.2.1 hr.1
  by_cases h : testB (askM r p) t = true
  · rw [if_pos h]; exact h1 ((test_is hne).1 h)
  · rw [if_neg h]; exact h2 (fun g => h ((test_is hne).2 g))
/-- A row's cells lie below m. -/
def LowB (m : Nat) (a : Option Addr) (n : Nat) : Prop := 0 < n → ∀ x, a = some x → x.block < m
def LowP (m : Nat) (W : World) (a : Option Addr) (n c : Nat) (r : RowV) : Prop := IsPres W a n c r ∧ LowB m a n
theorem add_blockJ (x : Addr) (j : Nat) : (x.add j).block = x.block := by unfold Addr.add; split <;> rfl
theorem cell_low {A B : World} {q : Addr} (h : B.heap[q.block]? = A.heap[q.block]?) : B.cell? q = A.cell? q := by unfold World.cell?; rw [h]
theorem IsPres.lowB {W : World} {a : Option Addr} {n c : Nat} {r : RowV} (h : IsPres W a n c r) : LowB W.heap.size a n := by
  intro h0 x hx
  obtain ⟨b, off, e, hb, _⟩ := h.cells h0
  rw [hx] at e
  cases e
  exact hb
theorem LowP.same {m : Nat} {A B : World} {a : Option Addr} {n c : Nat} {r : RowV} (h : LowP m A a n c r) (hk : ∀ k, k < m → B.heap[k]? = A.heap[k]?) : LowP m B a n c r := by
  obtain ⟨h, hl⟩ := h
  refine ⟨?_, hl⟩
  rcases h with h | ⟨x, rfl, h1, h2, h3, h4⟩
  · exact .inl h
  · refine .inr ⟨x, rfl, h1, h2, h3, fun i t hi => ?_⟩
    have hx := hl (by have := (List.getElem?_eq_some_iff.1 hi).1; omega) x rfl
    obtain ⟨c0, c1, w0, w1⟩ := h4 i t hi
    exact ⟨(cell_low (by rw [add_blockJ]; exact hk _ hx)).trans c0, (cell_low (by rw [add_blockJ]; exact hk _ hx)).trans c1, w0, w1⟩
/-- Rows that lie below m. -/
def IsRowsQ (m : Nat) (w : World) (a : Option Addr) (len cap : Nat) (rs : List RowV) : Prop :=
  (a = none ∧ len = 0 ∧ cap = 0 ∧ rs = []) ∨
  ∃ x, a = some x ∧ len ≤ cap ∧ cap ≤ maxLen ∧ rs.length = len ∧ ∀ (i : Nat) (r : RowV), rs[i]? = some r → x.block < m ∧ ∃ a n c, w.cell? (x.add i) = some (.slice a n c) ∧ LowP m w a n c r
theorem IsRowsQ.len {m : Nat} {w : World} {a : Option Addr} {len cap : Nat} {rs : List RowV} (h : IsRowsQ m w a len cap rs) : rs.length = len := by
  rcases h with ⟨_, rfl, _, rfl⟩ | ⟨x, _, _, _, h, _⟩
  · rfl
  · exact h
theorem IsRows.q {W : World} {a : Option Addr} {len cap : Nat} {rs : List RowV} (h : IsRows W a len cap rs) : IsRowsQ W.heap.size W a len cap rs := by
  rcases h with h | ⟨x, rfl, h1, h2, h3, h4⟩
  · exact .inl h
  · refine .inr ⟨x, rfl, h1, h2, h3, fun i r hi => ?_⟩
    obtain ⟨a', n', c', c0, hp⟩ := h4 i r hi
    exact ⟨by have := World.block_lt_of_cell? _ _ c0; rwa [add_blockJ] at this, a', n', c', c0, hp, hp.lowB⟩
theorem IsRowsQ.same {m : Nat} {A B : World} {a : Option Addr} {len cap : Nat} {rs : List RowV} (h : IsRowsQ m A a len cap rs) (hk : ∀ k, k < m → B.heap[k]? = A.heap[k]?) : IsRowsQ m B a len cap rs := by
  rcases h with h | ⟨x, rfl, h1, h2, h3, h4⟩
  · exact .inl h
  · refine .inr ⟨x, rfl, h1, h2, h3, fun i r hi => ?_⟩
    obtain ⟨hx, a', n', c', c0, hp⟩ := h4 i r hi
    exact ⟨hx, a', n', c', (cell_low (by rw [add_blockJ]; exact hk _ hx)).trans c0, hp.same hk⟩
theorem IsRowsQ.cells {m : Nat} {w : World} {a : Option Addr} {len cap : Nat} {rs : List RowV} (h : IsRowsQ m w a len cap rs) (h0 : 0 < len) : ∃ b off, a = some ⟨b, off, none⟩ ∧ b < w.heap.size ∧ len ≤ cap ∧ cap ≤ maxLen ∧ rs.length = len ∧
    ∀ (i : Nat) (r : RowV), rs[i]? = some r → ∃ a n c, w.cell? ⟨b, off + i, none⟩ = some (.slice a n c) ∧ LowP m w a n c r := by
  rcases h with ⟨_, rfl, _⟩ | ⟨x, rfl, h1, h2, h3, h4⟩
  · omega
  · obtain ⟨b, off, spot⟩ := x
    have ht : rs[0]? = some rs[0] := List.getElem?_eq_getElem (by omega)
    obtain ⟨_, _, _, _, hc, _⟩ := h4 0 _ ht
    obtain rfl : spot = none := by simpa [Addr.add] using World.cell?_spot hc
    refine ⟨b, off, rfl, by have := World.block_lt_of_cell? _ _ hc; simpa [Addr.add] using this, h1, h2, h3, fun i r hi => ?_⟩
    obtain ⟨_, a', n, c, c0, hp⟩ := h4 i r hi
    rw [add_plain] at c0
    exact ⟨a', n, c, c0, hp⟩
/-- A row's handle; its cells lie in a block of pairs. -/
def RowT (W : World) (u : Value) (r : RowV) : Prop := ∃ a n c, u = .slice a n c ∧ IsPres W a n c r ∧ (0 < n → ∃ x cur, a = some x ∧ W.heap[x.block]? = some (.cells cur 39 (0, 0)))
theorem RowT.in {W : World} {u : Value} {r : RowV} (h : RowT W u r) : RowIn W u r := by
  obtain ⟨a, n, c, e, h, _⟩ := h
  exact ⟨a, n, c, e, h⟩
theorem RowT.same {A B : World} {u : Value} {r : RowV} (h : RowT A u r) (hk : ∀ (k : Nat) (cur : Array Value), A.heap[k]? = some (Obj.cells cur 39 (0, 0)) → B.heap[k]? = A.heap[k]?) : RowT B u r := by
  obtain ⟨a, n, c, rfl, h, ht⟩ := h
  rcases h with ⟨rfl, rfl, rfl, rfl⟩ | ⟨x, rfl, h1, h2, h3, h4⟩
  · exact ⟨none, 0, 0, rfl, .inl ⟨rfl, rfl, rfl, rfl⟩, fun h => by omega⟩
  · have hx : 0 < n → B.heap[x.block]? = A.heap[x.block]? := fun h0 => by
      obtain ⟨y, cur, e, hc⟩ := ht h0
      cases e
      exact hk _ _ hc
    refine ⟨_, n, c, rfl, .inr ⟨x, rfl, h1, h2, h3, fun i t hi => ?_⟩, fun h0 => ?_⟩
    · have h0 : 0 < n := by have := (List.getElem?_eq_some_iff.1 hi).1; omega
      obtain ⟨c0, c1, w0, w1⟩ := h4 i t hi
      exact ⟨(cell_low (by rw [add_blockJ]; exact hx h0)).trans c0, (cell_low (by rw [add_blockJ]; exact hx h0)).trans c1, w0, w1⟩
    · obtain ⟨y, cur, e, hc⟩ := ht h0
      cases e
      exact ⟨x, cur, rfl, (hx h0).trans hc⟩
theorem RowT.of {B : Nat} {W : World} {v : Value} {r : RowV} (h : OwnP B W v r) (hm : ∀ t ∈ r, t.1.size ≤ maxLen ∧ t.2.size ≤ maxLen) : RowT W v r := by
  obtain ⟨a, c, e, i⟩ := h.is hm
  refine ⟨a, _, c, e, i, fun h0 => ?_⟩
  rcases h.2 with ⟨_, hl⟩ | ⟨g, cap, cur, e2, _, hg, _⟩
  · omega
  · rw [e] at e2
    simp only [Value.slice.injEq] at e2
    exact ⟨_, cur, e2.1, hg⟩
/-- What the iterator reads. -/
def Stat (m bR bP bG : Nat) (ra : Option Addr) (rn rc : Nat) (R : List RowV) (p : Tri3) (a : Option Addr) (la ca : Nat) (gs : List Tri3) (W : World) : Prop :=
  (W.cell? ⟨bR, 0, none⟩ = some (.slice ra rn rc) ∧ bR < W.heap.size) ∧ IsRowsQ m W ra rn rc R ∧ Box W bP (.string p.1) (.string p.2.1) (.string p.2.2) 42 ∧ (W.cell? ⟨bG, 0, none⟩ = some (.slice a la ca) ∧ bG < W.heap.size) ∧ IsTris W a la ca gs
theorem Stat.next {m bR bP bG : Nat} {ra : Option Addr} {rn rc : Nat} {R : List RowV} {p : Tri3} {a : Option Addr} {la ca : Nat} {gs : List Tri3} {A B : World} (h : Stat m bR bP bG ra rn rc R p a la ca gs A) (hm : m ≤ A.heap.size) (hb : Below A.heap.size A B) : Stat m bR bP bG ra rn rc R p a la ca gs B := by
  obtain ⟨⟨h1, h1'⟩, h2, h3, ⟨h4, h4'⟩, h5⟩ := h
  exact ⟨⟨(hb.cell (p := ⟨bR, 0, none⟩) h1').trans h1, Nat.lt_of_lt_of_le h1' hb.size⟩, h2.same (fun k hk => hb.block k (Nat.lt_of_lt_of_le hk hm)), h3.next hb, ⟨(hb.cell (p := ⟨bG, 0, none⟩) h4').trans h4, Nat.lt_of_lt_of_le h4' hb.size⟩, h5.next hb⟩
set_option maxRecDepth 100000 in
set_option maxHeartbeats 6400000 in
theorem joinedRun (n : Nat) (hn : 3 ≤ n) (m l bR bP bG : Nat) (ra : Option Addr) (rn rc : Nat) (R : List RowV) (p : Tri3) (a : Option Addr) (la ca : Nat) (gs : List Tri3) (Kp : World → World → Prop) (J Jx : List RowV → World → Prop)
    (hR : ∀ r ∈ R, GoodR r) (hp : p.1.data.toList ≠ [] ∧ p.2.1.data.toList ≠ [] ∧ p.2.2.data.toList ≠ []) (hps : p.1.size ≤ 1048576 ∧ p.2.1.size ≤ 1048576 ∧ p.2.2.size ≤ 1048576) (hgs : SmT gs) (hla : la ≤ 1000) (hrn : rn ≤ 1000)
    (hKs : ∀ A B, Kp A B → Stat m bR bP bG ra rn rc R p a la ca gs A → Stat m bR bP bG ra rn rc R p a la ca gs B) (hKl : ∀ A B k, Kp A B → k < m → B.heap[k]? = A.heap[k]?) (hKb : ∀ A B k x y z, Kp A B → Box A k x y z 42 → Box B k x y z 42)
    (hJb : ∀ s A B, J s A → Below A.heap.size A B → J s B)
    (hY : ∀ pre u r A, J pre A → RowT A u r → YieldAt Fence.wide (n - 1) Tryz.prog l #[u] A fun e B => (e = .returned (.bool true) ∧ J (pre ++ [r]) B ∧ Kp A B) ∨ (e = .returned (.bool false) ∧ Jx (pre ++ [r]) B))
    (W : World) (hmW : m ≤ W.heap.size) (hS : Stat m bR bP bG ra rn rc R p a la ca gs W) (hJ : J [] W) (hKz : ∀ A B, Kp A B → A.heap.size ≤ B.heap.size) :
    CallsIn Fence.wide n Tryz.prog 121 #[.func (.yield l) #[] #[], .pointer (some ⟨bR, 0, none⟩), .pointer (some ⟨bP, 0, none⟩), .pointer (some ⟨bG, 0, none⟩)] W fun e W' => (∃ v, e = .returned v) ∧ (J (joinM gs p R) W' ∨ ∃ pre m, joinM gs p R = pre ++ m ∧ Jx pre W') := by
  obtain ⟨ST, hST⟩ : ∃ ST : World → Prop, ST = fun A => m ≤ A.heap.size ∧ Stat m bR bP bG ra rn rc R p a la ca gs A := ⟨_, rfl⟩
  have HST : Hid (∀ A, ST A → Stat m bR bP bG ra rn rc R p a la ca gs A) := Lib.hid (fun A h => by rw [hST] at h; exact h.2)
  have HSM : Hid (∀ A, ST A → m ≤ A.heap.size) := Lib.hid (fun A h => by rw [hST] at h; exact h.1)
  have HSN : Hid (∀ A B, ST A → RowKit.Below A.heap.size A B → ST B) := Lib.hid (fun A B h hb => by rw [hST] at h ⊢; exact ⟨Nat.le_trans h.1 hb.size, h.2.next h.1 hb⟩)
  have HSK : Hid (∀ A B, Kp A B → ST A → ST B) := Lib.hid (fun A B hk h => by rw [hST] at h ⊢; exact ⟨Nat.le_trans h.1 (hKz A B hk), hKs A B hk h.2⟩)
  have HS : Hid (ST W) := Lib.hid (by rw [hST]; exact ⟨hmW, hS⟩)
  have HJ := Lib.hid hJ
  obtain ⟨⟨cR, _⟩, _, _, ⟨cG, _⟩, _⟩ := hS
  clear hST hKs
  refine callsIn_of_wp Tryz.func121 rfl trivial ?_ rfl
  simp only [Tryz.ntmps121, List.size_toArray, List.length_cons, List.length_nil, Nat.reduceAdd, Nat.reduceSub, Array.replicate_succ, Array.replicate_zero, List.push_toArray, List.append_toArray, List.nil_append, List.cons_append]
  gi_wp2
  clear cR cG hJ
  gi_loopw [13] (fun i wr => ∃ k : Nat, k ≤ rn ∧ i = .int .i64 k ∧ Hid (ST wr) ∧ Hid (J (joinM gs p (R.take k)) wr)) (fun i _ => rn - (intOf i).toNat)
  case atStart => exact ⟨0, Nat.zero_le _, rfl, HS, by simpa [joinM] using HJ⟩
  case round =>
    obtain ⟨k, hk, rfl, HS, HJ⟩ := hrel
    obtain ⟨⟨cR, _⟩, hrows, hbp, ⟨cG, _⟩, htris⟩ := HST.out _ HS.out
    have hrl := hrows.len
    by_cases hlt : k < rn
    · obtain ⟨bb, off, rfl, hbb, _, _, hts, hc⟩ := hrows.cells (by omega)
      have ht : R[k]? = some (R[k]'(by omega)) := List.getElem?_eq_getElem (by omega)
      obtain ⟨a1, n1, c1, c0, hz⟩ := hc k _ ht
      have hgr := hR _ (List.getElem_mem (by omega : k < R.length))
      have HRK := Lib.hid ht
      generalize R[k]'(by omega) = r at ht hz hgr HRK
      have HZ := Lib.hid hz
      have HGR := Lib.hid hgr
      have hn1 : n1 ≤ 1048576 := by have := hgr.2.2.2.1; have := hz.1.len; omega
      obtain ⟨d0, d1, d2⟩ := hbp.cells
      have CF := Lib.hid (fun W' (h : RowKit.Below wr.heap.size wr W') => (callsIn_wide (n := n - 1)).2 (implFilledBy a1 n1 c1 r p.1 p.2.1 p.2.2 W' (hz.1.next h) hgr.1 hn1))
      clear ht hc hts hz hgr hrows hbp htris cR cG
      gi_wp2_with fail
      refine ⟨trivial, fun _ => by omega, (CF.out _ (by first | exact Below.refl _ _ | exact Below.drew (Below.refl _ _))).mono ?_⟩
      rintro e w1 ⟨rfl, hb1⟩
      have HS1 := Lib.hid (HSN.out _ _ HS.out hb1)
      have HJ1 := Lib.hid (hJb _ _ _ HJ.out hb1)
      have HZ1 := Lib.hid (HZ.out.same (fun k hk => hb1.block k (Nat.lt_of_lt_of_le hk (HSM.out _ HS.out))))
      have hq1 := seen_size HGR.out.2.2.2.2 hps.1
      have hq2 := seen_size HGR.out.2.2.2.2 hps.2.1
      have hq3 := seen_size HGR.out.2.2.2.2 hps.2.2
      have HMT : Hid (∀ t, matchM r p t = if testB (seen r p.1, seen r p.2.1, seen r p.2.2) t = true then some (boundM r (seen r p.1, seen r p.2.1, seen r p.2.2) t) else none) := Lib.hid (fun t => match_test HGR.out hp)
      generalize seen r p.1 = s1 at hq1 HMT ⊢
      generalize seen r p.2.1 = s2 at hq2 HMT ⊢
      generalize seen r p.2.2 = s3 at hq3 HMT ⊢
      have bA := (Below.refl w1.heap.size w1).alloc (Nat.le_refl _) (.cells #[.string s1, .string s2, .string s3] 42)
      have HSA := Lib.hid (HSN.out _ _ HS1.out bA)
      have HJA := Lib.hid (hJb _ _ _ HJ1.out bA)
      have HZA := Lib.hid (HZ1.out.same (fun k hk => bA.block k (Nat.lt_of_lt_of_le hk (HSM.out _ HS1.out))))
      have cA := Box.new w1 (.string s1) (.string s2) (.string s3) 42
      obtain ⟨a0, a1', a2⟩ := cA.cells
      have CW := Lib.hid (fun W' => (callsIn_wide (n := n - 1)).2 (implWithoutVars s1 s2 s3 W' (by omega)))
      clear hb1 CF c0 d0 d1 d2 HS HJ HZ HS1 HJ1 HZ1
      gi_wp2_with fail
      refine ⟨trivial, fun _ => by omega, (CW.out _).mono ?_⟩
      rintro e w2 ⟨rfl, hb2⟩
      have HS2 := Lib.hid (HSN.out _ _ HSA.out hb2)
      have HJ2 := Lib.hid (hJb _ _ _ HJA.out hb2)
      have HZ2 := Lib.hid (HZA.out.same (fun k hk => hb2.block k (Nat.lt_of_lt_of_le hk (HSM.out _ HSA.out))))
      have HC2 := Lib.hid (cA.next hb2)
      clear hb2 CW bA HSA HJA HZA a0 a1' a2 cA
      generalize w1.heap.size = ab at HC2 ⊢
      have HMT2 : Hid (∀ t, matchM r p t = if (fitT (blankV s1, blankV s2, blankV s3) t && alikeB (s1, s2, s3) t) = true then some (boundM r (s1, s2, s3) t) else none) := Lib.hid (fun t => HMT.out t)
      clear HMT
      generalize blankV s1 = b1 at HMT2 ⊢
      generalize blankV s2 = b2 at HMT2 ⊢
      generalize blankV s3 = b3 at HMT2 ⊢
      have bB := (Below.refl w2.heap.size w2).alloc (Nat.le_refl _) (.cells #[.string b1, .string b2, .string b3] 42)
      have HSB := Lib.hid (HSN.out _ _ HS2.out bB)
      have HJB := Lib.hid (hJb _ _ _ HJ2.out bB)
      have HZB := Lib.hid (HZ2.out.same (fun k hk => bB.block k (Nat.lt_of_lt_of_le hk (HSM.out _ HS2.out))))
      have HCB := Lib.hid (HC2.out.next bB)
      have HDB := Lib.hid (Box.new w2 (.string b1) (.string b2) (.string b3) 42)
      obtain ⟨_, _, _, ⟨cG, _⟩, _⟩ := HST.out _ HSB.out
      clear bB HS2 HJ2 HZ2 HC2
      gi_wp2
      clear cG
      generalize w2.alloc (.cells #[.string b1, .string b2, .string b3] 42) = w3 at HSB HJB HZB HCB HDB ⊢
      generalize w2.heap.size = bb' at HDB ⊢
      gi_loopw [24] (fun i wr => ∃ j : Nat, j ≤ la ∧ i = .int .i64 j ∧ Hid (ST wr) ∧ Hid (J (uptoM gs p R k j) wr) ∧ Hid (LowP m wr a1 n1 c1 r) ∧ Hid (Box wr ab (.string s1) (.string s2) (.string s3) 42) ∧ Hid (Box wr bb' (.string b1) (.string b2) (.string b3) 42)) (fun i _ => la - (intOf i).toNat)
      case atStart => exact ⟨0, Nat.zero_le _, rfl, HSB, by rw [uptoM_start]; exact HJB, HZB, HCB, HDB⟩
      case round =>
        obtain ⟨j, hj, rfl, HS, HJ, HZ, HC, HD⟩ := hrel
        clear HSB HJB HZB HCB HDB
        obtain ⟨_, _, _, _, htris⟩ := HST.out _ HS.out
        by_cases hjl : j < la
        · obtain ⟨tb, to, rfl, htb, _, _, hts, hcs⟩ := htris.cells (by omega)
          have ht : gs[j]? = some (gs[j]'(by omega)) := List.getElem?_eq_getElem (by omega)
          obtain ⟨t0, t1, t2, tm⟩ := hcs j _ ht
          clear tm
          have htsz := hgs _ (List.getElem_mem (by omega : j < gs.length))
          generalize gs[j]'(by omega) = t at ht t0 t1 t2 htsz
          obtain ⟨x, y, z⟩ := t
          dsimp only at t0 t1 t2 htsz
          have HUN := Lib.hid (uptoM_next (p := p) HRK.out ht)
          have HM := Lib.hid (HMT2.out (x, y, z))
          have bT := (Below.refl wr.heap.size wr).alloc (Nat.le_refl _) (.cells #[.string x, .string y, .string z] 42)
          have HS1 := Lib.hid (HSN.out _ _ HS.out bT)
          have HJ1 := Lib.hid (hJb _ _ _ HJ.out bT)
          have HZ1 := Lib.hid (HZ.out.same (fun k hk => bT.block k (Nat.lt_of_lt_of_le hk (HSM.out _ HS.out))))
          have HC1 := Lib.hid (HC.out.next bT)
          have HD1 := Lib.hid (HD.out.next bT)
          have HT1 := Lib.hid (Box.new wr (.string x) (.string y) (.string z) 42)
          obtain ⟨e0, e1, e2⟩ := HT1.out.cells
          obtain ⟨f0, f1, f2⟩ := HD1.out.cells
          have C1' := fun W' => (callsIn_wide (n := n - 1)).2 (implFitsAll (b1, b2, b3) (x, y, z) W')
          have C2' := fun W' => (callsIn_wide (n := n - 1)).2 (implAlike (s1, s2, s3) (x, y, z) W')
          dsimp only at C1' C2'
          obtain ⟨q1, hq1e⟩ : ∃ q, fitT (b1, b2, b3) (x, y, z) = q := ⟨_, rfl⟩
          obtain ⟨q2, hq2e⟩ : ∃ q, alikeB (s1, s2, s3) (x, y, z) = q := ⟨_, rfl⟩
          rw [hq1e] at C1' HM
          rw [hq2e] at C2' HM
          have C1 := Lib.hid C1'
          have C2 := Lib.hid C2'
          clear C1' C2' hq1e hq2e ht hcs hts htris HS HJ HZ HC HD
          gi_wp2_with fail
          refine ⟨trivial, fun _ => by omega, (C1.out _).mono ?_⟩
          rintro e w5 ⟨rfl, hb5⟩
          have HS5 := Lib.hid (HSN.out _ _ HS1.out hb5)
          have HJ5 := Lib.hid (hJb _ _ _ HJ1.out hb5)
          have HZ5 := Lib.hid (HZ1.out.same (fun k hk => hb5.block k (Nat.lt_of_lt_of_le hk (HSM.out _ HS1.out))))
          have HC5 := Lib.hid (HC1.out.next hb5)
          have HD5 := Lib.hid (HD1.out.next hb5)
          have HT5 := Lib.hid (HT1.out.next hb5)
          clear hb5 bT C1 t0 t1 t2 e0 e1 e2 f0 f1 f2 HS1 HJ1 HZ1 HC1 HD1 HT1
          generalize wr.heap.size = wb at HT5 ⊢
          cases q1
          · have HJ6 : Hid (J (uptoM gs p R k (j + 1)) w5) := Lib.hid (by rw [HUN.out, HM.out]; simpa using HJ5.out)
            clear C2
            gi_wp2
            refine ⟨trivial, ?_⟩
            gi_wp2
            refine ⟨trivial, ?_⟩
            gi_wp2
            refine ⟨fun _ h => (by cases h), ?_⟩
            gi_wp2
            go_roundw
            case rel => exact ⟨j + 1, by omega, by go_num, HS5, HJ6, HZ5, HC5, HD5⟩
            case measure => simp [intOf]; omega
          · obtain ⟨e0, e1, e2⟩ := HT5.out.cells
            obtain ⟨f0, f1, f2⟩ := HC5.out.cells
            gi_wp2_with fail
            refine ⟨trivial, fun _ => by omega, (C2.out _).mono ?_⟩
            rintro e w6 ⟨rfl, hb6⟩
            have HS6 := Lib.hid (HSN.out _ _ HS5.out hb6)
            have HJ6 := Lib.hid (hJb _ _ _ HJ5.out hb6)
            have HZ6 := Lib.hid (HZ5.out.same (fun k hk => hb6.block k (Nat.lt_of_lt_of_le hk (HSM.out _ HS5.out))))
            have HC6 := Lib.hid (HC5.out.next hb6)
            have HD6 := Lib.hid (HD5.out.next hb6)
            have HT6 := Lib.hid (HT5.out.next hb6)
            clear hb6 C2 e0 e1 e2 f0 f1 f2 HS5 HJ5 HZ5 HC5 HD5 HT5
            cases q2
            · have HJ7 : Hid (J (uptoM gs p R k (j + 1)) w6) := Lib.hid (by rw [HUN.out, HM.out]; simpa using HJ6.out)
              gi_wp2
              refine ⟨trivial, ?_⟩
              gi_wp2
              refine ⟨fun _ h => (by cases h), ?_⟩
              gi_wp2
              go_roundw
              case rel => exact ⟨j + 1, by omega, by go_num, HS6, HJ7, HZ6, HC6, HD6⟩
              case measure => simp [intOf]; omega
            · obtain ⟨e0, e1, e2⟩ := HT6.out.cells
              obtain ⟨f0, f1, f2⟩ := HC6.out.cells
              have C3 := Lib.hid (fun W' (h : RowKit.Below w6.heap.size w6 W') => (callsIn_wide (n := n - 1)).2 (implBound a1 n1 c1 r (s1, s2, s3) (x, y, z) W' (HZ6.out.1.next h) HGR.out.1 (by have := HGR.out.2.2.2.1; have := HZ6.out.1.len; omega) HGR.out.2.2.2.2 ⟨hq1, hq2, hq3⟩ htsz))
              have HBS : Hid (SmP (boundM r (s1, s2, s3) (x, y, z))) := Lib.hid (matchM_small HGR.out.2.2.2.2 hps htsz (by rw [HM.out]; rfl))
              have HMS : Hid (matchM r p (x, y, z) = some (boundM r (s1, s2, s3) (x, y, z))) := Lib.hid (by rw [HM.out]; rfl)
              gi_wp2_with fail
              refine ⟨trivial, fun _ => by omega, (C3.out _ (by first | exact Below.refl _ _ | exact Below.drew (Below.refl _ _))).mono ?_⟩
              rintro e w7 ⟨v, rfl, ov, hb7⟩
              obtain ⟨va, vc, hve, iv⟩ := ov.is (fun u hu => by have := HBS.out u hu; unfold maxLen; omega)
              have HS7 := Lib.hid (HSN.out _ _ HS6.out hb7)
              have HJ7 := Lib.hid (hJb _ _ _ HJ6.out hb7)
              have HZ7 := Lib.hid (HZ6.out.same (fun k hk => hb7.block k (Nat.lt_of_lt_of_le hk (HSM.out _ HS6.out))))
              have HC7 := Lib.hid (HC6.out.next hb7)
              have HD7 := Lib.hid (HD6.out.next hb7)
              obtain ⟨fn, tmps, assign, body, hy, hRR⟩ := hY _ v _ _ HJ7.out (RowT.of ov (fun u hu => by have := HBS.out u hu; unfold maxLen; omega))
              have HUJ : Hid (uptoM gs p R k (j + 1) = uptoM gs p R k j ++ [boundM r (s1, s2, s3) (x, y, z)]) := Lib.hid (by rw [HUN.out, HMS.out]; rfl)
              clear ov iv hb7 C3 e0 e1 e2 f0 f1 f2 HS6 HJ6 HZ6 HC6 HD6 HT6
              subst hve
              gi_wp2_with fail
              refine ⟨fun _ => by omega, hRR.mono ?_⟩
              rintro e w8 (⟨rfl, hJ8, hK8⟩ | ⟨rfl, hJ8⟩)
              · have HS8 := Lib.hid (HSK.out _ _ hK8 HS7.out)
                have HZ8 := Lib.hid (HZ7.out.same (fun k => hKl _ _ k hK8))
                have HC8 := Lib.hid (hKb _ _ _ _ _ _ hK8 HC7.out)
                have HD8 := Lib.hid (hKb _ _ _ _ _ _ hK8 HD7.out)
                have HJ9 : Hid (J (uptoM gs p R k (j + 1)) w8) := Lib.hid (by rw [HUJ.out]; exact hJ8)
                clear hJ8 hK8 hRR hy HS7 HJ7 HZ7 HC7 HD7
                gi_wp2
                go_roundw
                case rel => exact ⟨j + 1, by omega, by go_num, HS8, HJ9, HZ8, HC8, HD8⟩
                case measure => simp [intOf]; omega
              · obtain ⟨m, em⟩ := uptoM_part (g := gs) (p := p) (j := j + 1) (rows := R) (k := k) (List.getElem?_eq_some_iff.1 HRK.out).1
                have HEM : Hid (joinM gs p R = uptoM gs p R k j ++ [boundM r (s1, s2, s3) (x, y, z)] ++ m) := Lib.hid (by rw [em, HUJ.out])
                have HJX := Lib.hid hJ8
                clear hJ8 hRR hy em HS7 HJ7 HZ7 HC7 HD7
                gi_wp2
                exact bodyPost_ret (results_none rfl _ _ _) rfl ⟨⟨_, rfl⟩, .inr ⟨_, m, HEM.out, HJX.out⟩⟩
        · have HJ5 : Hid (J (joinM gs p (R.take (k + 1))) wr) := Lib.hid (by
            rw [← uptoM_row HRK.out]
            have h1 := HJ.out
            have e : j = gs.length := by have := htris.len; omega
            rw [e] at h1
            exact h1)
          clear htris
          gi_wp2
          go_roundw
          case rel => exact ⟨k + 1, by omega, by go_num, HS, HJ5⟩
          case measure => simp [intOf]; omega
    · have HF : Hid (J (joinM gs p R) wr) := Lib.hid (by
        have h1 := HJ.out
        rw [List.take_of_length_le (by omega)] at h1
        exact h1)
      clear hrows hbp htris cR cG
      gi_wp2
      go_end0
      exact ⟨⟨_, rfl⟩, .inl HF.out⟩
end Go.Proofs.YtmiiaebelncdhaaGreat
