/- A drawn store, right or with its second order turned. -/
import Derived.Test.YteejpceliodcfaaGotS
import Derived.RegionTactic
import Derived.Deep.RegionLaw
import Derived.Maps.AppendAt
namespace Go.Proofs.Yteejpceliodcfaa
open Go.RowKit Go.WideShapes
theorem own3_offS {B g : Nat} {w w' : World} {v1 v2 v3 : Value} {t1 t2 t3 : List Tri3} (h : Own3 B w v1 v2 v3 t1 t2 t3) (hg : w.grownBy w' (some g)) (hlt : g < B) : Own3 B w' v1 v2 v3 t1 t2 t3 :=
  Own3.kept (u := .slice (some ⟨g, 0, none⟩) 0 0) h hg (fun j hj => by simp [Value.ownBlock] at hj; omega)
theorem own3_far {B : Nat} {w w' : World} {v1 v2 v3 : Value} {t1 t2 t3 : List Tri3} {row : Option Nat} (h : Own3 B w v1 v2 v3 t1 t2 t3) (hg : w.grownBy w' row) (hne : ∀ j, v1.ownBlock = some j ∨ v2.ownBlock = some j ∨ v3.ownBlock = some j → row ≠ some j) : Own3 B w' v1 v2 v3 t1 t2 t3 := by
  obtain ⟨B1, B2, h1, h2, o1, o2, o3, r⟩ := h
  refine ⟨B1, B2, h1, h2, World.ownsRow.kept o1 hg ?_, World.ownsRow.kept o2 hg ?_, World.ownsRow.kept o3 hg ?_, r⟩
  · rcases hv : v1.ownBlock with _ | j
    · exact .inl rfl
    · exact .inr (fun e => hne j (.inl hv) e.symm)
  · rcases hv : v2.ownBlock with _ | j
    · exact .inl rfl
    · exact .inr (fun e => hne j (.inr (.inl hv)) e.symm)
  · rcases hv : v3.ownBlock with _ | j
    · exact .inl rfl
    · exact .inr (fun e => hne j (.inr (.inr hv)) e.symm)
/-- What stays, whatever of the call's own comes behind block C. -/
def Stay (B C b0 sb : Nat) (w : World) (v1 v2 v3 : Value) (t1 t2 t3 : List Tri3) (w' : World) : Prop :=
  Own3 B w' v1 v2 v3 t1 t2 t3 ∧ (∀ j, v1.ownBlock = some j ∨ v2.ownBlock = some j ∨ v3.ownBlock = some j → j < C) ∧ Box w' sb v1 v2 v3 39 ∧ Box w' b0 (.slice none 0 0) (.slice none 0 0) (.slice none 0 0) 39 ∧ b0 < C ∧ sb < C ∧ w.grownBy w' none ∧ C ≤ w'.heap.size ∧ w.heap.size ≤ C
theorem Stay.grown {B C b0 sb : Nat} {w : World} {v1 v2 v3 : Value} {t1 t2 t3 : List Tri3} {w' w'' : World} (h : Stay B C b0 sb w v1 v2 v3 t1 t2 t3 w') {row : Option Nat} (hg : w'.grownBy w'' row) (hr : ∀ j, row = some j → C ≤ j) : Stay B C b0 sb w v1 v2 v3 t1 t2 t3 w'' := by
  obtain ⟨h1, h2, h3, h4, h5, h6, h7, h8, h9⟩ := h
  exact ⟨own3_far h1 hg (fun j hj e => by have := h2 j hj; have := hr j e; omega), h2, h3.grown hg (fun e => by have := hr sb e.symm; omega), h4.grown hg (fun e => by have := hr b0 e.symm; omega), h5, h6, grown_off h7 hg (fun q e => by have := hr q e; omega), Nat.le_trans h8 hg.size, h9⟩
theorem Stay.alloc {B C b0 sb : Nat} {w : World} {v1 v2 v3 : Value} {t1 t2 t3 : List Tri3} {w' : World} (h : Stay B C b0 sb w v1 v2 v3 t1 t2 t3 w') (o : Obj) : Stay B C b0 sb w v1 v2 v3 t1 t2 t3 (w'.alloc o) := h.grown (World.grownBy_alloc w' o none) (by simp)
theorem own_lenS {B : Nat} {w : World} {g n c : Nat} {ts : List Tri3} (h : OwnT B w (.slice (some ⟨g, 0, none⟩) n c) ts) : ts.length = n := by
  rcases h.2 with ⟨e, _⟩ | ⟨g', cap, cur, e, _⟩
  · cases e
  · simp only [Value.slice.injEq] at e; exact e.2.1.symm
theorem Stay.drew {B C b0 sb : Nat} {w : World} {v1 v2 v3 : Value} {t1 t2 t3 : List Tri3} {w' : World} (h : Stay B C b0 sb w v1 v2 v3 t1 t2 t3 w') : Stay B C b0 sb w v1 v2 v3 t1 t2 t3 w'.drew := h.grown (row := none) ⟨rfl, rfl, rfl, Nat.le_refl _, fun _ _ _ => rfl⟩ (by simp)
/-- The cells that the turning reads. -/
theorem Stay.reads {B C b0 sb : Nat} {w : World} {v1 v3 : Value} {g2 n2 c2 : Nat} {u : Tri3} {t1 r t3 : List Tri3} {w' : World} (h : Stay B C b0 sb w v1 (.slice (some ⟨g2, 0, none⟩) n2 c2) v3 t1 (u :: r) t3 w') :
    w'.cell? ⟨sb, 1, none⟩ = some (.slice (some ⟨g2, 0, none⟩) n2 c2) ∧ w'.cell? ⟨g2, 0, none⟩ = some (.string u.1) ∧ w'.cell? ⟨g2, 1, none⟩ = some (.string u.2.1) ∧ w'.cell? ⟨g2, 2, none⟩ = some (.string u.2.2) ∧ Stay B C b0 sb w v1 (.slice (some ⟨g2, 0, none⟩) n2 c2) v3 t1 (u :: r) t3 w' := by
  obtain ⟨⟨B1, B2, _, _, _, o2, _⟩, _, h3, _⟩ := id h
  have o2' := o2
  have hlen := own_lenS o2
  unfold OwnT at o2'
  rw [hlen] at o2'
  refine ⟨h3.cells.2.1, ?_, ?_, ?_, h⟩
  · exact (World.ownsRow.cellAt o2' 0 (by simp at hlen; omega)).trans (by simp [flat])
  · exact (World.ownsRow.cellAt o2' 1 (by simp at hlen; omega)).trans (by simp [flat])
  · exact (World.ownsRow.cellAt o2' 2 (by simp at hlen; omega)).trans (by simp [flat])
/-- The cells behind the first triple. -/
theorem Stay.rest {B C b0 sb : Nat} {w : World} {v1 v3 : Value} {g2 n2 c2 : Nat} {u : Tri3} {t1 r t3 : List Tri3} {w' : World} (h : Stay B C b0 sb w v1 (.slice (some ⟨g2, 0, none⟩) n2 c2) v3 t1 (u :: r) t3 w') :
    ∀ (j : Nat) (x : Value), (flat r)[j]? = some x → w'.cell? ((⟨g2, 3, none⟩ : Addr).add j) = some x := by
  obtain ⟨⟨B1, B2, _, _, _, o2, _⟩, _⟩ := id h
  have o2' := o2
  have hlen := own_lenS o2
  unfold OwnT at o2'
  rw [hlen] at o2'
  intro j x hx
  have hl : j < (flat r).length := (List.getElem?_eq_some_iff.1 hx).1
  rw [flat_len] at hl
  rw [add_plain]
  have e : flat (u :: r) = .string u.1 :: .string u.2.1 :: .string u.2.2 :: flat r := by simp [flat]
  refine (World.ownsRow.cellAt o2' (3 + j) (by simp only [List.length_cons] at hlen; omega)).trans ?_
  rw [e, show 3 + j = j + 3 from by omega]
  exact hx
theorem turned {B C b0 sb : Nat} {w : World} {v1 v3 v6 : Value} {g2 n2 c2 : Nat} {u : Tri3} {t1 r t3 : List Tri3} {w6 : World} (h : Stay B C b0 sb w v1 (.slice (some ⟨g2, 0, none⟩) n2 c2) v3 t1 (u :: r) t3 w6)
    (hlt : ∀ j, v1.ownBlock = some j ∨ (Value.slice (some ⟨g2, 0, none⟩) n2 c2).ownBlock = some j ∨ v3.ownBlock = some j → j < sb) (hb0 : b0 < B) (hw0 : w.heap.size ≤ b0) (hws : w.heap.size ≤ sb)
    (ho : w6.ownsRow C 46 3 v6 (n2 - 1 + 1) (flat r ++ [.string u.1, .string u.2.1, .string u.2.2])) (hn : r.length = n2 - 1) (s1 : SmG t1) (s2 : SmG (r ++ [u])) (s3 : SmG t3) (x y z : Value) :
    Got3 ((((w6.setCell ⟨sb, 1, none⟩ v6).setCell ⟨b0, 0, none⟩ x).setCell ⟨b0, 1, none⟩ y).setCell ⟨b0, 2, none⟩ z) v1 v6 v3 t1 (r ++ [u]) t3 ∧ w.grownBy ((((w6.setCell ⟨sb, 1, none⟩ v6).setCell ⟨b0, 0, none⟩ x).setCell ⟨b0, 1, none⟩ y).setCell ⟨b0, 2, none⟩ z) none := by
  obtain ⟨h1, h2, h3, h4, h5, h6, h7, h8, h9⟩ := h
  have hne0 : ∀ j, v1.ownBlock = some j ∨ (Value.slice (some ⟨g2, 0, none⟩) n2 c2).ownBlock = some j ∨ v3.ownBlock = some j → B ≤ j := fun j hj => (h1.lt j hj).1
  have k1 := own3_far h1 (grown_set (World.grownBy.refl w6 (some sb)) 1 v6) (fun j hj e => by cases e; have := hlt sb hj; omega)
  have k2 := Own3.set3 k1 hb0 x y z
  obtain ⟨B1, B2, _, _, o1, _, o3, _⟩ := k2
  have oT : OwnT C w6 v6 (r ++ [u]) := by
    unfold OwnT
    rw [flat_snoc, List.length_append, List.length_singleton, hn]
    exact ho
  have o2 := own_set (own_set (own_set (own_set oT h6 1 v6) h5 0 x) h5 1 y) h5 2 z
  exact ⟨⟨got_of o1 s1, got_of o2 s2, got_of o3 s3⟩, grown_setNew (grown_setNew (grown_setNew (grown_setNew h7 hws _) hw0 _) hw0 _) hw0 _⟩
theorem flat_one' (ts : List Tri3) : ∀ v ∈ flat ts, v.oneCell' = true := by
  intro v hv
  unfold flat at hv
  obtain ⟨t, _, ht⟩ := List.mem_flatMap.1 hv
  simp at ht
  rcases ht with rfl | rfl | rfl <;> rfl
theorem upon_append_at {P : Program} {o : Oper} {a : Act} {w : World} {Q : Exit → Act → World → Prop} {K : Act → World → Prop} (_ : o.guard = none) (s x : Operand) (t : TypeId)
    (ho : o.op = .call { callee := .builtin .append, args := #[s, x], argTypes := #[t, t] })
    (base : Nat) (e : TypeId) (i : TypeInfo) (z : Value) (size bytes : Nat) (ht : P.underlying t = some (.slice e)) (hi : P.info? e = some i) (hz : i.zero = some z)
    (hsize : i.size = size) (hby : i.bytes = bytes) (hzs : z.cells.size = size) (hsz : 0 < size)
    (v : Value) (n : Nat) (xs : List Value) (hs : a.eval s = v) (hown : w.ownsRow base e size v n xs)
    (ad : Addr) (m c : Nat) (news : List Value) (hx : a.eval x = .slice (some ad) m c) (hl : news.length = m * size) (hnews : ∀ j u, news[j]? = some u → w.cell? (ad.add j) = some u) (h1 : ∀ u ∈ news, u.oneCell' = true)
    (h63 : n + m ≤ maxLen) (hbytes : (n + m) * bytes ≤ 140737488355328) (hbase : base ≤ w.heap.size)
    (h : ∀ v' w', w'.ownsRow base e size v' (n + m) (xs ++ news) → w.grownBy w' v.ownBlock → (v' = .slice none 0 0 ↔ v = .slice none 0 0 ∧ m = 0) → (v'.ownBlock = v.ownBlock ∨ v'.ownBlock = some w.heap.size) → K (a.put o.dst v') w') :
    Oper.wp P o a w K Q := by
  obtain ⟨v', w', hr, h2, h3, h4, h5⟩ := run_append_own_at (P := P) w base t o.type e i z size bytes ht hi hz hsize hby hzs hsz v n xs hown ad m c news hl hnews h1 h63 hbytes hbase
  unfold Oper.wp execOp
  simp only [ho, resolve, invoke, builtin, Sem.run_bind, Sem.run_pure, Result.andThen_ok, List.map_toArray, List.map_cons, List.map_nil, hs, hx, hr]
  exact h v' w' h2 h3 h4 h5
theorem step_append_at {P : Program} {ops : Array Oper} {o : Oper} {a : Act} {w : World} {Q : Exit → Act → World → Prop} {K : Act → World → Prop} {E : Prop} (hg : o.guard = none) (s x : Operand) (t : TypeId)
    (ho : o.op = .call { callee := .builtin .append, args := #[s, x], argTypes := #[t, t] })
    (base : Nat) (e : TypeId) (i : TypeInfo) (z : Value) (size bytes : Nat) (ht : P.underlying t = some (.slice e)) (hi : P.info? e = some i) (hz : i.zero = some z)
    (hsize : i.size = size) (hby : i.bytes = bytes) (hzs : z.cells.size = size) (hsz : 0 < size)
    (v : Value) (n : Nat) (xs : List Value) (hs : a.eval s = v) (hown : w.ownsRow base e size v n xs)
    (ad : Addr) (m c : Nat) (news : List Value) (hx : a.eval x = .slice (some ad) m c) (hl : news.length = m * size) (hnews : ∀ j u, news[j]? = some u → w.cell? (ad.add j) = some u) (h1 : ∀ u ∈ news, u.oneCell' = true)
    (h63 : n + m ≤ maxLen) (hbytes : (n + m) * bytes ≤ 140737488355328) (hbase : base ≤ w.heap.size)
    (h : ∀ a' c' w', w'.ownsRow base e size (.slice a' (n + m) c') (n + m) (xs ++ news) → w.grownBy w' v.ownBlock → K (a.put o.dst (.slice a' (n + m) c')) w') :
    if Region.wanted o (yielded ops a.tmps) = true then Oper.wp P o a w K Q else E := by
  have hw : Region.wanted o (yielded ops a.tmps) = true := by simp [Region.wanted, hg]
  rw [if_pos hw]
  refine upon_append_at hg s x t ho base e i z size bytes ht hi hz hsize hby hzs hsz v n xs hs hown ad m c news hx hl hnews h1 h63 hbytes hbase fun v' w' h2 h3 h4 h5 => ?_
  obtain ⟨a', c', rfl⟩ : ∃ a' c', v' = .slice a' (n + m) c' := by
    rcases h2.2 with ⟨rfl, e⟩ | ⟨g, c, cur, rfl, _⟩
    · rw [e]; exact ⟨_, _, rfl⟩
    · exact ⟨_, _, rfl⟩
  exact h a' c' w' h2 h3
theorem box_three {w : World} {g : Nat} {x y z : Value} {T : TypeId} (h : Box w g x y z T) : ∀ (j : Nat) (u : Value), [x, y, z][j]? = some u → w.cell? ((⟨g, 0, none⟩ : Addr).add j) = some u := by
  obtain ⟨c0, c1, c2⟩ := h.cells
  intro j u hj
  rw [add_plain, Nat.zero_add]
  match j, hj with
  | 0, hj => simp at hj; subst hj; exact c0
  | 1, hj => simp at hj; subst hj; exact c1
  | 2, hj => simp at hj; subst hj; exact c2
set_option maxRecDepth 100000 in
set_option maxHeartbeats 1600000 in
theorem drawStoreOk (w : World) (a : Option Addr) (len cap : Nat) (zs : List Int) (hrow : Frame.IsRow .u8 w a len cap zs) :
    Calls Try.prog 24 #[.slice a len cap] w fun e w' => ∃ (v1 v2 v3 : Value) (t1 t2 t3 : List Tri3), e = .returned (.agg #[v1, v2, v3]) ∧ Got3 w' v1 v2 v3 t1 t2 t3 ∧ w.grownBy w' none := by
  have X0 := Box.new w (.slice none 0 0) (.slice none 0 0) (.slice none 0 0) 39
  have G0 := World.grownBy_alloc w (.cells #[.slice none 0 0, .slice none 0 0, .slice none 0 0] 39) none
  have hz : (w.alloc (.cells #[.slice none 0 0, .slice none 0 0, .slice none 0 0] 39)).heap.size = w.heap.size + 1 := by simp
  generalize hW1 : w.alloc (.cells #[.slice none 0 0, .slice none 0 0, .slice none 0 0] 39) = W1 at X0 G0 hz
  go_enter Try.func24, Try.ntmps24
  obtain ⟨g, hg⟩ : ∃ g, W1.heap.size = g := ⟨_, rfl⟩
  rw [hg] at hz
  have hz1 : w.heap.size + 1 ≤ g := by omega
  clear hz
  have HGE := Lib.hid hg
  clear hg
  go_wp2_with fail
  clear hW1
  refine (rdOpen _ _ _ _ _ (isRow_grown hrow G0)).mono ?_
  rintro e w1 ⟨rfl, r1, g1⟩
  have X1 := X0.grown g1 (by simp)
  have G1 := G0.trans g1
  have hlt := r1.2.1
  clear g1 X0 G0 hrow
  rw [HGE.out] at r1 hlt ⊢
  clear HGE
  go_wp2_with fail
  refine (rdGraph _ _ _ r1 8 (by omega)).mono ?_
  rintro e w2 ⟨v, ts, rfl, s2, o2, r2, g2⟩
  have X2 := X1.grown g2 (by simp; omega)
  have G2 : w.grownBy w2 none := grown_off G1 g2 (fun q e => by cases e; omega)
  have hz2 := g2.size
  obtain ⟨x, y, rfl, i2, p2⟩ := OwnT.plain o2 s2.maxLen
  obtain ⟨L, hL⟩ : ∃ L, ts.length = L := ⟨_, rfl⟩
  rw [hL] at i2 o2 ⊢
  have hL81 : L ≤ 81 := by have := s2.1; omega
  have C := specStoreOf x L y ts w2 i2 s2.sm (by omega)
  have HL := Lib.hid hL
  have HS := Lib.hid s2
  have HC := Lib.hid C
  clear g2 s2 i2 p2 hL o2 C X1 G1 r1
  go_wp2_with fail
  refine HC.out.mono ?_
  rintro e w3 ⟨v1, v2, v3, rfl, o3, hb3⟩
  have X3 := X2.next hb3
  have G3 : w.grownBy w3 none := G2.trans (grown_of_below hb3)
  have r3 := rd_far r2 hb3
  have hz3 := hb3.size
  clear hb3 X2 G2 HC r2
  obtain ⟨⟨a1, n1, c1, rfl⟩, ⟨a2, n2, c2, rfl⟩, ⟨a3, n3, c3, rfl⟩⟩ := Own3.slices o3
  have HL3 : Hid (∀ j, (Value.slice a1 n1 c1).ownBlock = some j ∨ (Value.slice a2 n2 c2).ownBlock = some j ∨ (Value.slice a3 n3 c3).ownBlock = some j → j < w3.heap.size) := Lib.hid (fun j hj => (o3.lt j hj).2)
  obtain ⟨W6, hW6⟩ : ∃ W, w3.alloc (.cells #[.slice a1 n1 c1, .slice a2 n2 c2, .slice a3 n3 c3] 39) = W := ⟨_, rfl⟩
  have X6 := X3.alloc (.cells #[.slice a1 n1 c1, .slice a2 n2 c2, .slice a3 n3 c3] 39)
  have S6 := Box.new w3 (.slice a1 n1 c1) (.slice a2 n2 c2) (.slice a3 n3 c3) 39
  have G6 := G3.trans (World.grownBy_alloc w3 (.cells #[.slice a1 n1 c1, .slice a2 n2 c2, .slice a3 n3 c3] 39) none)
  have o6 := o3.alloc (.cells #[.slice a1 n1 c1, .slice a2 n2 c2, .slice a3 n3 c3] 39)
  have r6 := r3.alloc (.cells #[.slice a1 n1 c1, .slice a2 n2 c2, .slice a3 n3 c3] 39)
  have hz6 : (w3.alloc (.cells #[.slice a1 n1 c1, .slice a2 n2 c2, .slice a3 n3 c3] 39)).heap.size = w3.heap.size + 1 := by simp
  rw [hW6] at X6 S6 G6 o6 r6 hz6
  have hz7 : w3.heap.size < W6.heap.size := by omega
  clear hz6
  have HX := Lib.hid X6
  have HB := Lib.hid S6
  have HG := Lib.hid G6
  have Ho := Lib.hid o6
  clear X3 G3 o3 r3 X6 S6 G6 o6
  go_wp2_with fail
  clear hW6
  refine (rdOnce _ g _ r6 4 (by omega) (by omega)).mono ?_
  rintro e w7 ⟨b, rfl, r7, F⟩
  have S := HB.out.grown F (by simp; omega)
  have X := HX.out.grown F (by simp; omega)
  have G := grown_off HG.out F (fun q e => by cases e; omega)
  have o7 := own3_offS Ho.out F (by omega)
  clear HB HX HG Ho F r7 r6
  obtain ⟨q0, q1, q2⟩ := S.cells
  obtain ⟨k0, k1, k2⟩ := X.free
  obtain ⟨x0, x1, x2⟩ := X.cells
  have HX := Lib.hid X
  have HG := Lib.hid G
  have HSB := Lib.hid S
  have hlt7 : ∀ j, (Value.slice a1 n1 c1).ownBlock = some j ∨ (Value.slice a2 n2 c2).ownBlock = some j ∨ (Value.slice a3 n3 c3).ownBlock = some j → j < w7.heap.size := fun j hj => (o7.lt j hj).2
  cases b
  · have Q := got3_of (Own3.set3 o7 (g := w.heap.size) (by omega) (.slice a1 n1 c1) (.slice a2 n2 c2) (.slice a3 n3 c3)) HS.out.st0 HS.out.st1 HS.out.st2
    clear o7 S X G
    go_wp2_with fail
    refine bodyPost_ret (v := .agg #[.slice a1 n1 c1, .slice a2 n2 c2, .slice a3 n3 c3]) (by simp [results, Try.results24, go_sem, x0, x1, x2]) rfl ⟨_, _, _, st0 ts, st1 ts, st2 ts, rfl, Q, ?_⟩
    exact grown_setNew (grown_setNew (grown_setNew HG.out (by simp) _) (by simp) _) (by simp) _
  · by_cases h1 : 1 < n2
    · have h2 : (1 : Int) < (n2 : Int) := by omega
      obtain ⟨g2, rfl, hn2⟩ : ∃ g2, a2 = some ⟨g2, 0, none⟩ ∧ (st1 ts).length = n2 := by
        obtain ⟨B1, B2, _, _, _, o2, _⟩ := o7
        rcases o2.2 with ⟨e, _⟩ | ⟨g2, cap, cur, e, _⟩
        · simp only [Value.slice.injEq] at e; omega
        · simp only [Value.slice.injEq] at e; exact ⟨g2, e.1, e.2.1.symm⟩
      have hT2 := HS.out.st1
      have HT1 := Lib.hid HS.out.st0
      have HT3 := Lib.hid HS.out.st2
      obtain ⟨u, r, hur⟩ : ∃ u r, st1 ts = u :: r := by
        match h : st1 ts, hn2 with
        | [], e => simp at e; omega
        | u :: r, _ => exact ⟨u, r, rfl⟩
      rw [hur] at hn2 o7 hT2
      have hrl : r.length = n2 - 1 := by simp at hn2; omega
      have hn81 : n2 ≤ 81 := by have := hT2.1; omega
      have SX7 : Hid (Stay w2.heap.size w7.heap.size w.heap.size w3.heap.size w (.slice a1 n1 c1) (.slice (some ⟨g2, 0, none⟩) n2 c2) (.slice a3 n3 c3) (st0 ts) (u :: r) (st2 ts) w7) := Lib.hid ⟨o7, hlt7, S, X, X.lt, S.lt, G, Nat.le_refl _, G.size⟩
      have hcap : n2 ≤ c2 ∧ c2 ≤ maxLen := by
        obtain ⟨B1, B2, _, _, _, o2, _⟩ := o7
        rcases o2.2 with ⟨e, _⟩ | ⟨g2', cap, cur, e, _, _, k1, k2, _⟩
        · cases e
        · simp only [Value.slice.injEq] at e
          obtain ⟨_, _, rfl⟩ := e
          simp only [hn2] at k1
          exact ⟨k1, k2⟩
      have hcap1 : (n2 : Int) ≤ (c2 : Int) := by omega
      have hcap2 : (1 : Int) ≤ (n2 : Int) := by omega
      have hcap3 : (0 : Int) < (n2 : Int) := by omega
      have hcap4 : (1 : Int) ≤ (c2 : Int) := by omega
      have hcap5 : 0 < n2 := by omega
      have hc21 : ¬ c2 = 1 := by omega
      have hone : ∀ v ∈ [Value.string u.1, .string u.2.1, .string u.2.2], v.oneCell' = true := by
        intro v hv; simp at hv; rcases hv with rfl | rfl | rfl <;> rfl
      have HSM : Hid (SmG (r ++ [u])) := Lib.hid ⟨by have := hT2.1; simp at this ⊢; omega, fun t ht => hT2.2 t (by
        rcases List.mem_append.1 ht with h | h
        · exact List.mem_cons_of_mem _ h
        · obtain rfl := List.mem_singleton.1 h
          exact List.mem_cons_self ..)⟩
      have HRL := Lib.hid hrl
      clear o7 S X G hT2 hn2 hur HSB
      obtain ⟨i0, hi, hz0, hzz1, hzB⟩ := info_parts infoTri
      have hnw : (flat r).length = (n2 - 1) * 3 := by rw [flat_len, hrl]
      have hn63 : 0 + (n2 - 1) ≤ maxLen := by unfold maxLen; omega
      have hn48 : (0 + (n2 - 1)) * 48 ≤ 140737488355328 := by omega
      have hm63 : n2 - 1 + 1 ≤ maxLen := by unfold maxLen; omega
      have hm48 : (n2 - 1 + 1) * 48 ≤ 140737488355328 := by omega
      go_wp2_with fail
      have OA : Hid ((w7.alloc (.cells #[] 46)).drew.ownsRow w7.heap.size 46 3 (.slice (some ⟨w7.heap.size, 0, none⟩) 0 0) 0 []) := Lib.hid (World.ownsRow_lit (size := 3) (e := 46) w7 #[] 0 (Nat.le_refl _) (by decide) rfl)
      have OB : Hid (((w7.alloc (.cells #[] 46)).alloc (.cells #[.string u.1, .string u.2.1, .string u.2.2] 46)).drew.ownsRow w7.heap.size 46 3 (.slice (some ⟨w7.heap.size, 0, none⟩) 0 0) 0 []) := Lib.hid ((World.ownsRow_lit (size := 3) (e := 46) w7 #[] 0 (Nat.le_refl _) (by decide) rfl).alloc _)
      have OC : Hid (((w7.alloc (.cells #[.string u.1, .string u.2.1, .string u.2.2] 46)).alloc (.cells #[] 46)).drew.ownsRow w7.heap.size 46 3 (.slice (some ⟨w7.heap.size + 1, 0, none⟩) 0 0) 0 []) := Lib.hid (by
        have := World.ownsRow_lit (size := 3) (e := 46) (base := w7.heap.size) (w7.alloc (.cells #[.string u.1, .string u.2.1, .string u.2.2] 46)) #[] 0 (by simp) (by decide) rfl
        rw [World.size_alloc] at this
        exact this)
      obtain ⟨ra0, rb0, rc0, rd0, _⟩ := (SX7.out.drew).reads
      obtain ⟨ra1, rb1, rc1, rd1, _⟩ := ((SX7.out.alloc (.cells #[] 46)).drew).reads
      obtain ⟨ra2, rb2, rc2, rd2, _⟩ := (((SX7.out.alloc (.cells #[] 46)).alloc (.cells #[.string u.1, .string u.2.1, .string u.2.2] 46)).drew).reads
      obtain ⟨ra3, rb3, rc3, rd3, _⟩ := ((SX7.out.alloc (.cells #[.string u.1, .string u.2.1, .string u.2.2] 46)).drew).reads
      obtain ⟨ra4, rb4, rc4, rd4, _⟩ := (((SX7.out.alloc (.cells #[.string u.1, .string u.2.1, .string u.2.2] 46)).alloc (.cells #[] 46)).drew).reads
      have HBXB : Hid (Box ((w7.alloc (.cells #[] 46)).alloc (.cells #[.string u.1, .string u.2.1, .string u.2.2] 46)).drew (w7.heap.size + 1) (.string u.1) (.string u.2.1) (.string u.2.2) 46) := Lib.hid (by
        have := Box.new (w7.alloc (.cells #[] 46)) (.string u.1) (.string u.2.1) (.string u.2.2) 46
        rw [World.size_alloc] at this
        exact this.drew)
      have HBXC : Hid (Box ((w7.alloc (.cells #[.string u.1, .string u.2.1, .string u.2.2] 46)).alloc (.cells #[] 46)).drew w7.heap.size (.string u.1) (.string u.2.1) (.string u.2.2) 46) := Lib.hid (Box.drew (Box.alloc (Box.new w7 (.string u.1) (.string u.2.1) (.string u.2.2) 46) (.cells #[] 46)))
      have NEB : Hid (some (w7.heap.size + 1) ≠ some w7.heap.size) := Lib.hid (by simp)
      have NEC : Hid (some w7.heap.size ≠ some (w7.heap.size + 1)) := Lib.hid (by simp)
      have HLT : Hid (∀ j, some w7.heap.size = some j → w7.heap.size ≤ j) := Lib.hid (fun j hj => by cases hj; exact Nat.le_refl _)
      have HLT2 : Hid (∀ j, some (w7.heap.size + 1) = some j → w7.heap.size ≤ j) := Lib.hid (fun j hj => by cases hj; exact Nat.le_succ _)
      go_region_law (first
        | (refine step_append_at rfl _ _ 27 rfl w7.heap.size 46 i0 (.agg #[.string ⟨#[]⟩, .string ⟨#[]⟩, .string ⟨#[]⟩]) 3 48 Try.underlying27 hi hz0 hzz1 hzB rfl (by decide) _ _ _ rfl OA.out ⟨g2, 3, none⟩ (n2 - 1) _ (flat r) rfl hnw ((SX7.out.alloc (.cells #[] 46)).drew).rest (flat_one' r) hn63 hn48 (by simp <;> omega) ?_
           intro a5 c5 w5 o5 g5
           simp only [Nat.zero_add, List.nil_append] at o5 ⊢
           have SX5 := Lib.hid (Stay.grown (((SX7.out.alloc (.cells #[] 46)).drew)) g5 (fun j hj => HLT.out j hj))
           obtain ⟨r1, r2, r3, r4, _⟩ := SX5.out.reads
           have O5 := Lib.hid o5
           have hz5 : w7.heap.size ≤ w5.heap.size := SX5.out.2.2.2.2.2.2.2.1
           clear o5 g5)
        | (refine step_append_at rfl _ _ 27 rfl w7.heap.size 46 i0 (.agg #[.string ⟨#[]⟩, .string ⟨#[]⟩, .string ⟨#[]⟩]) 3 48 Try.underlying27 hi hz0 hzz1 hzB rfl (by decide) _ _ _ rfl OB.out ⟨g2, 3, none⟩ (n2 - 1) _ (flat r) rfl hnw (((SX7.out.alloc (.cells #[] 46)).alloc (.cells #[.string u.1, .string u.2.1, .string u.2.2] 46)).drew).rest (flat_one' r) hn63 hn48 (by simp <;> omega) ?_
           intro a5 c5 w5 o5 g5
           simp only [Nat.zero_add, List.nil_append] at o5 ⊢
           have SX5 := Lib.hid (Stay.grown ((((SX7.out.alloc (.cells #[] 46)).alloc (.cells #[.string u.1, .string u.2.1, .string u.2.2] 46)).drew)) g5 (fun j hj => HLT.out j hj))
           obtain ⟨r1, r2, r3, r4, _⟩ := SX5.out.reads
           have N5 := Lib.hid (box_three (Box.grown HBXB.out g5 NEB.out))
           have O5 := Lib.hid o5
           have hz5 : w7.heap.size ≤ w5.heap.size := SX5.out.2.2.2.2.2.2.2.1
           clear o5 g5)
        | (refine step_append_at rfl _ _ 27 rfl w7.heap.size 46 i0 (.agg #[.string ⟨#[]⟩, .string ⟨#[]⟩, .string ⟨#[]⟩]) 3 48 Try.underlying27 hi hz0 hzz1 hzB rfl (by decide) _ _ _ rfl OC.out ⟨g2, 3, none⟩ (n2 - 1) _ (flat r) rfl hnw (((SX7.out.alloc (.cells #[.string u.1, .string u.2.1, .string u.2.2] 46)).alloc (.cells #[] 46)).drew).rest (flat_one' r) hn63 hn48 (by simp <;> omega) ?_
           intro a5 c5 w5 o5 g5
           simp only [Nat.zero_add, List.nil_append] at o5 ⊢
           have SX5 := Lib.hid (Stay.grown ((((SX7.out.alloc (.cells #[.string u.1, .string u.2.1, .string u.2.2] 46)).alloc (.cells #[] 46)).drew)) g5 (fun j hj => HLT2.out j hj))
           obtain ⟨r1, r2, r3, r4, _⟩ := SX5.out.reads
           have N5 := Lib.hid (box_three (Box.grown HBXC.out g5 NEC.out))
           have O5 := Lib.hid o5
           have hz5 : w7.heap.size ≤ w5.heap.size := SX5.out.2.2.2.2.2.2.2.1
           clear o5 g5)
        | (refine step_append_at rfl _ _ 27 rfl w7.heap.size 46 i0 (.agg #[.string ⟨#[]⟩, .string ⟨#[]⟩, .string ⟨#[]⟩]) 3 48 Try.underlying27 hi hz0 hzz1 hzB rfl (by decide) _ _ _ rfl (World.ownsRow.alloc O5.out (.cells #[.string u.1, .string u.2.1, .string u.2.2] 46)) ⟨w5.heap.size, 0, none⟩ 1 _ [.string u.1, .string u.2.1, .string u.2.2] rfl rfl three_cell hone hm63 hm48 (by simp; omega) ?_
           intro a6 c6 w6 o6 g6
           have SX6 := Lib.hid (Stay.grown (SX5.out.alloc (.cells #[.string u.1, .string u.2.1, .string u.2.2] 46)) g6 (fun j hj => (World.ownsRow.lt O5.out j hj).1))
           obtain ⟨_, s1, _⟩ := SX6.out.2.2.1.free
           obtain ⟨_, s2, _⟩ := SX6.out.2.2.1.cells
           have O6 := Lib.hid o6
           clear o6 g6)
        | (refine step_append_at rfl _ _ 27 rfl w7.heap.size 46 i0 (.agg #[.string ⟨#[]⟩, .string ⟨#[]⟩, .string ⟨#[]⟩]) 3 48 Try.underlying27 hi hz0 hzz1 hzB rfl (by decide) _ _ _ rfl O5.out _ 1 _ [.string u.1, .string u.2.1, .string u.2.2] rfl rfl N5.out hone hm63 hm48 hz5 ?_
           intro a6 c6 w6 o6 g6
           have SX6 := Lib.hid (Stay.grown (SX5.out) g6 (fun j hj => (World.ownsRow.lt O5.out j hj).1))
           obtain ⟨_, s1, _⟩ := SX6.out.2.2.1.free
           obtain ⟨_, s2, _⟩ := SX6.out.2.2.1.cells
           have O6 := Lib.hid o6
           clear o6 g6))
      all_goals
        have S6 := SX6.out.2.2.1.set1 (.slice a6 (n2 - 1 + 1) c6)
        have X6 := SX6.out.2.2.2.1.far (a := ⟨w3.heap.size, 1, none⟩) (by simp; omega) (.slice a6 (n2 - 1 + 1) c6)
        have T6 := turned SX6.out HL3.out (by omega) (Nat.le_refl _) (by omega) O6.out HRL.out HT1.out HSM.out HT3.out (.slice a1 n1 c1) (.slice a6 (n2 - 1 + 1) c6) (.slice a3 n3 c3)
        obtain ⟨z0, z1, z2⟩ := S6.cells
        obtain ⟨y0, y1, y2⟩ := X6.cells
        obtain ⟨f0, f1, f2⟩ := X6.free
        generalize w6.setCell ⟨w3.heap.size, 1, none⟩ (.slice a6 (n2 - 1 + 1) c6) = w9 at z0 z1 z2 y0 y1 y2 f0 f1 f2 T6 ⊢
        clear S6 X6
        obtain ⟨TQ, TG⟩ := T6
        have HQ := Lib.hid TQ
        have HG9 := Lib.hid TG
        clear TQ TG SX5 SX6 O5 O6 SX7 OA OB OC HBXB HBXC NEB NEC HLT HLT2 q0 q1 q2 k0 k1 k2 x0 x1 x2 s1 s2 r1 r2 r3 r4 ra0 rb0 rc0 rd0 ra1 rb1 rc1 rd1 ra2 rb2 rc2 rd2 ra3 rb3 rc3 rd3 ra4 rb4 rc4 rd4 hone hi hz0 hzz1 hzB HSM HT1 HT3 HX HG HL3
        go_wp2_with fail
        exact bodyPost_ret (v := .agg #[.slice a1 n1 c1, .slice a6 (n2 - 1 + 1) c6, .slice a3 n3 c3]) (by simp [results, Try.results24, go_sem, y0, y1, y2]) rfl ⟨_, _, _, _, _, _, rfl, HQ.out, HG9.out⟩
    · have h2 : ¬ (1 : Int) < (n2 : Int) := by omega
      have Q := got3_of (Own3.set3 o7 (g := w.heap.size) (by omega) (.slice a1 n1 c1) (.slice a2 n2 c2) (.slice a3 n3 c3)) HS.out.st0 HS.out.st1 HS.out.st2
      clear o7 S X G
      go_wp2_with fail
      refine bodyPost_ret (v := .agg #[.slice a1 n1 c1, .slice a2 n2 c2, .slice a3 n3 c3]) (by simp [results, Try.results24, go_sem, x0, x1, x2]) rfl ⟨_, _, _, st0 ts, st1 ts, st2 ts, rfl, Q, ?_⟩
      exact grown_setNew (grown_setNew (grown_setNew HG.out (by simp) _) (by simp) _) (by simp) _
end Go.Proofs.Yteejpceliodcfaa
