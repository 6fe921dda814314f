/- A graph put in among the others: what is there then, that the names rise, that the dataset is right. -/
import Derived.Test.YtkcbgppplgkkbaaGreatJExactDataWith01
import Derived.Test.YtkcbgppplgkkbaaGreatDsN
import Derived.Test.YtkcbgppplgkkbaaGreatRowM
import Derived.Deep.RegionHeld3
import Derived.Test.YtkcbgppplgkkbaaGreatTriA
import Derived.Test.YtkcbgppplgkkbaaGreatRise
namespace Go.Proofs.YtkcbgppplgkkbaaGreat
open Go.RowKit Go.WideShapes
theorem nm_inj {a b : ByteArray} (h : a.data.toList = b.data.toList) : a = b := by rw [← bs_of a, h, bs_of]
theorem putGo_mem' (x y : NamV) : ∀ (ts : List NamV) (d : Bool), y ∈ putGo x d ts ↔ (d = false ∧ y = x) ∨ (y ∈ ts ∧ y.1 ≠ x.1)
  | [], d => by cases d <;> simp [putGo]
  | r :: rs, d => by
    have h := putGo_mem' x y rs (d || lessN x r)
    unfold putGo
    rw [List.mem_append, List.mem_append, h]
    by_cases e : r.1 = x.1
    · have hne : lessN x r = false := by unfold lessN; rw [e]; exact ltb_irrefl _
      rw [hne, if_pos e]
      have hq : (y ∈ r :: rs ∧ y.1 ≠ x.1) ↔ (y ∈ rs ∧ y.1 ≠ x.1) := by
        constructor
        · rintro ⟨h1, h2⟩
          rcases List.mem_cons.1 h1 with rfl | h1
          · exact absurd e h2
          · exact ⟨h1, h2⟩
        · rintro ⟨h1, h2⟩
          exact ⟨List.mem_cons_of_mem _ h1, h2⟩
      rw [hq]
      cases d <;> simp
    · rw [if_neg e]
      have hq : (y ∈ r :: rs ∧ y.1 ≠ x.1) ↔ (y = r ∨ (y ∈ rs ∧ y.1 ≠ x.1)) := by
        constructor
        · rintro ⟨h1, h2⟩
          rcases List.mem_cons.1 h1 with rfl | h1
          · exact .inl rfl
          · exact .inr ⟨h1, h2⟩
        · rintro (rfl | ⟨h1, h2⟩)
          · exact ⟨List.mem_cons_self .., e⟩
          · exact ⟨List.mem_cons_of_mem _ h1, h2⟩
      rw [hq]
      cases d <;> cases hl : lessN x r <;> simp
      · constructor
        · rintro (h | h | h)
          · exact .inr (.inl h)
          · exact .inl h
          · exact .inr (.inr h)
        · rintro (h | h | h)
          · exact .inr (.inl h)
          · exact .inl h
          · exact .inr (.inr h)
def RisN (l : List NamV) : Prop := l.Pairwise (fun a b => lessS (nmT a) (nmT b) = true)
theorem risN_iff {l : List NamV} : RisingS (l.map nmT) ↔ RisN l := by unfold RisingS RisN; rw [List.pairwise_map]
theorem putGo_rising (x : NamV) : ∀ (ts : List NamV) (d : Bool), RisN ts → RisN (putGo x d ts)
  | [], d, _ => by cases d <;> simp [putGo, RisN]
  | r :: rs, d, h => by
    unfold RisN at h
    rw [List.pairwise_cons] at h
    obtain ⟨h1, h2⟩ := h
    have ih := putGo_rising x rs (d || lessN x r) h2
    unfold putGo
    unfold RisN at ih ⊢
    rw [List.pairwise_append, List.pairwise_append]
    refine ⟨by split <;> simp, ⟨by split <;> simp, ih, fun a ha b hb => ?_⟩, fun a ha b hb => ?_⟩
    · split at ha
      · simp at ha
      · rename_i e
        obtain rfl := List.mem_singleton.1 ha
        rcases (putGo_mem' x b rs _).1 hb with ⟨hd, rfl⟩ | ⟨hb, _⟩
        · rw [Bool.or_eq_false_iff, lessN_is] at hd
          cases g : lessS (nmT a) (nmT b)
          · exact absurd (nm_inj (lessS_one g hd.2)) e
          · rfl
        · exact h1 b hb
    · split at ha
      · rename_i e
        obtain rfl := List.mem_singleton.1 ha
        rw [Bool.and_eq_true, lessN_is] at e
        have hxr := e.2
        have hb' : b = r ∨ b ∈ rs := by
          rcases List.mem_append.1 hb with hb | hb
          · split at hb
            · simp at hb
            · exact .inl (List.mem_singleton.1 hb)
          · rcases (putGo_mem' a b rs _).1 hb with ⟨hd, _⟩ | ⟨hb, _⟩
            · rw [lessN_is, hxr] at hd; simp at hd
            · exact .inr hb
        rcases hb' with rfl | hb'
        · exact hxr
        · exact lessS_trans hxr (h1 b hb')
      · simp at ha
theorem upto_of_risN {ts : List NamV} (ho : ∀ t ∈ ts, namT t = true) (hr : RisN ts) : gUpto namT lessN ts ts.length = true := by
  unfold RisN at hr
  rw [List.pairwise_iff_getElem] at hr
  refine List.all_eq_true.2 fun i hi => ?_
  have hi := List.mem_range.1 hi
  have hoi : namT ts[i] = true := ho _ (List.getElem_mem hi)
  rcases Nat.eq_zero_or_pos i with rfl | h0
  · rw [gAt_zero (List.getElem?_eq_getElem hi)]; exact hoi
  · rw [gAt_next (t := ts[i]) (u := ts[i - 1]) h0 (List.getElem?_eq_getElem hi) (List.getElem?_eq_getElem (by omega)), hoi, lessN_is, hr (i - 1) i (by omega) hi (by omega)]; rfl
theorem dataOk_ris {ts : List NamV} (h : dataOk ts = true) : RisN ts := risN_iff.1 (dataOk_parts h).2
theorem dataOk_nam {ts : List NamV} (h : dataOk ts = true) : ∀ r ∈ ts, namT r = true := by
  unfold dataOk at h
  rw [Bool.and_eq_true, decide_eq_true_eq] at h
  exact gUpto_mem h.2
theorem putNam_ris {ts : List NamV} (x : NamV) (h : dataOk ts = true) : RisN (putNam ts x) := putGo_rising x ts _ (dataOk_ris h)
theorem putNam_mem {ts : List NamV} {x y : NamV} : y ∈ putNam ts x ↔ (x.2.length ≠ 0 ∧ y = x) ∨ (y ∈ ts ∧ y.1 ≠ x.1) := by
  unfold putNam
  rw [putGo_mem', decide_eq_false_iff_not]
/-- A right dataset with a right graph put in is right, if there is room. -/
theorem dataOk_put {ts : List NamV} {s : ByteArray} {g : List Tri3} (h : dataOk ts = true) (hk : kindL s.data.toList = 1) (hg : graphOk g = true) : dataOk (putNam ts (s, g)) = decide ((putNam ts (s, g)).length ≤ 6) := by
  have hu : gUpto namT lessN (putNam ts (s, g)) (putNam ts (s, g)).length = true := upto_of_risN (fun y hy => by
    rcases putNam_mem.1 hy with ⟨h1, rfl⟩ | ⟨h1, _⟩
    · unfold namT
      simp only [Bool.and_eq_true, decide_eq_true_eq]
      exact ⟨hk, hg, Nat.pos_of_ne_zero h1⟩
    · exact dataOk_nam h y h1) (putNam_ris _ h)
  unfold dataOk
  rw [hu, Bool.and_true]
end Go.Proofs.YtkcbgppplgkkbaaGreat
/- A graph put in among the others: the specification. -/
namespace Go.Proofs.YtkcbgppplgkkbaaGreat
open Go.RowKit Go.WideShapes
theorem own_slice_len {B : Nat} {w : World} {v : Value} {ts : List Tri3} (h : OwnT B w v ts) : ∃ a c, v = .slice a ts.length c := by
  rcases h.2 with ⟨rfl, e⟩ | ⟨g, c, cur, rfl, _⟩
  · exact ⟨none, 0, by rw [e]⟩
  · exact ⟨_, _, rfl⟩
/-- What the walk keeps: out, and what of it is the call's own. -/
def PutI (B b0 : Nat) (wr : World) (v : Value) (d : Bool) (L : List NamV) (us : List Value) (x : NamV) (ts : List NamV) (k : Nat) : Prop :=
  OutN B wr v L us ∧ L ++ putGo x d (ts.drop k) = putNam ts x ∧ (d = false → ∀ u ∈ us, ∀ j, u.ownBlock = some j → b0 < j) ∧ (∀ j, v.ownBlock = some j → b0 < j)
theorem PutI.most {B b0 : Nat} {wr : World} {v : Value} {d : Bool} {L : List NamV} {us : List Value} {x : NamV} {ts : List NamV} {k : Nat} (h : PutI B b0 wr v d L us x ts k) (ht : ts.length ≤ 1048570) : L.length ≤ 1048572 := by
  have h1 := congrArg List.length h.2.1
  have h2 := putGo_len x ts (decide (x.2.length = 0))
  rw [List.length_append] at h1
  unfold putNam at h1
  split at h2 <;> omega
theorem PutI.skip {B b0 : Nat} {wr : World} {v : Value} {d : Bool} {L : List NamV} {us : List Value} {x : NamV} {ts : List NamV} {k : Nat} {r : NamV} (h : PutI B b0 wr v d L us x ts k) (hr : ts[k]? = some r) (he : r.1 = x.1) (hn : d = true ∨ lessN x r = false) : PutI B b0 wr v d L us x ts (k + 1) := by
  obtain ⟨h1, h2, h3, h4⟩ := h
  refine ⟨h1, ?_, h3, h4⟩
  rw [← h2, putGo_cons hr, if_pos he]
  rcases hn with rfl | hn
  · simp
  · rw [hn]; simp
theorem PutI.copy {B b0 : Nat} {wr w' : World} {v v' u : Value} {d : Bool} {L : List NamV} {us : List Value} {x : NamV} {ts : List NamV} {k : Nat} {r : NamV} (h : PutI B b0 wr v d L us x ts k) (hr : ts[k]? = some r) (he : r.1 ≠ x.1) (hn : d = true ∨ lessN x r = false)
    (ho : OutN B w' v' (L ++ [r]) (us ++ [u])) (hu : ∀ j, u.ownBlock = some j → b0 < j) (hv : ∀ j, v'.ownBlock = some j → b0 < j) : PutI B b0 w' v' d (L ++ [r]) (us ++ [u]) x ts (k + 1) := by
  obtain ⟨h1, h2, h3, h4⟩ := h
  refine ⟨ho, ?_, fun hd y hy j hj => ?_, hv⟩
  · rw [← h2, putGo_cons hr, if_neg he]
    rcases hn with rfl | hn
    · simp
    · rw [hn]; simp
  · rcases List.mem_append.1 hy with hy | hy
    · exact h3 hd y hy j hj
    · obtain rfl := List.mem_singleton.1 hy
      exact hu j hj
/-- The new one itself, ahead of a greater one (which comes behind it). -/
theorem PutI.both {B b0 : Nat} {wr w' : World} {v v' u1 u2 : Value} {L : List NamV} {us : List Value} {x : NamV} {ts : List NamV} {k : Nat} {r : NamV} (h : PutI B b0 wr v false L us x ts k) (hr : ts[k]? = some r) (he : r.1 ≠ x.1) (hn : lessN x r = true)
    (ho : OutN B w' v' ((L ++ [x]) ++ [r]) ((us ++ [u1]) ++ [u2])) (hv : ∀ j, v'.ownBlock = some j → b0 < j) : PutI B b0 w' v' true ((L ++ [x]) ++ [r]) ((us ++ [u1]) ++ [u2]) x ts (k + 1) := by
  obtain ⟨h1, h2, h3, h4⟩ := h
  refine ⟨ho, ?_, fun hd => Bool.noConfusion hd, hv⟩
  rw [← h2, putGo_cons hr, if_neg he, hn]
  simp
set_option maxRecDepth 100000 in
set_option maxHeartbeats 12800000 in
theorem specPutNam (B : Nat) (a : Option Addr) (len cap : Nat) (ts : List NamV) (s : ByteArray) (xv : Value) (g : List Tri3) (w : World) (h : IsNams w a len cap ts) (hx : OwnT B w xv g) (hB : B ≤ w.heap.size) (hlen : len ≤ 1048570) (htot : totN ts ≤ 1048576) :
    Calls Tryz.prog 21 #[.slice a len cap, .agg #[.string s, xv]] w fun e w' => ∃ v, e = .returned v ∧ OwnNs B w' v (putNam ts (s, g)) ∧ Below w.heap.size w w' := by
  obtain ⟨xa, xc, rfl⟩ := own_slice_len hx
  obtain ⟨xn, hxn⟩ : ∃ n, g.length = n := ⟨_, rfl⟩
  rw [hxn] at hx ⊢
  obtain ⟨d0, hd0⟩ : ∃ d, decide (g.length = 0) = d := ⟨_, rfl⟩
  have ED : ((xn : Int) == 0) = d0 := by
    rw [← hd0, hxn, Bool.eq_iff_iff, beq_iff_eq, decide_eq_true_eq]; omega
  have H := Lib.hid h
  have HL := Lib.hid h.len
  have HX := Lib.hid hx
  have htl : ts.length ≤ 1048570 := by rw [h.len]; exact hlen
  have HTL := Lib.hid htl
  have HTT : Hid (∀ t ∈ ts, t.2.length ≤ 1048576) := Lib.hid (fun t ht => by have := totN_mem ht; omega)
  have X0 := NamK.Box2.new w (.string s) (.slice xa xn xc) 48
  have X1 := Lib.hid (X0.alloc (.cells #[] 48))
  have B0 := ((Below.refl w.heap.size w).alloc (Nat.le_refl _) (.cells #[.string s, .slice xa xn xc] 48))
  have B1 := B0.alloc B0.size (.cells #[] 48)
  have hlit := World.ownsRow_lit (size := 2) (e := 48) (w.alloc (.cells #[.string s, .slice xa xn xc] 48)) #[] 0 (Nat.le_refl _) (by decide) rfl
  have I0 : Hid (PutI B w.heap.size ((w.alloc (.cells #[.string s, .slice xa xn xc] 48)).alloc (.cells #[] 48)) (.slice (some ⟨w.heap.size + 1, 0, none⟩) 0 0) d0 [] [] (s, g) ts 0) := Lib.hid (by
    rw [World.size_alloc] at hlit
    refine ⟨⟨?_, InnN.nil _ _, by simp⟩, ?_, by simp, fun j hj => by simp [Value.ownBlock] at hj; omega⟩
    · obtain ⟨q1, q2⟩ := hlit
      refine ⟨q1, ?_⟩
      rcases q2 with q2 | ⟨gg, cc, cur, e, hBB, r⟩
      · exact .inl q2
      · exact .inr ⟨gg, cc, cur, e, Nat.le_trans hB (Nat.le_trans (Nat.le_succ _) hBB), r⟩
    · unfold putNam
      simp only [List.drop_zero, List.nil_append]
      rw [hd0])
  obtain ⟨x0, x1⟩ := X0.cells
  obtain ⟨y0, y1⟩ := X1.out.cells
  clear h hx hlit hd0 X0
  go_enter Tryz.func21, Tryz.ntmps21
  go_wp2_with fail
  clear x0 x1 y0 y1
  go_loopw [5, 6, 7] (fun v' dd i wr => ∃ (k : Nat) (v : Value) (d : Bool) (L : List NamV) (us : List Value), k ≤ len ∧ i = .int .i64 k ∧ dd = .bool d ∧ v = v' ∧ Hid (PutI B w.heap.size wr v d L us (s, g) ts k) ∧ Hid (NamK.Box2 wr w.heap.size (.string s) (.slice xa xn xc) 48) ∧ Below w.heap.size w wr) (fun _ _ i _ => len - (intOf i).toNat)
  case atStart => exact ⟨0, _, d0, [], [], Nat.zero_le _, rfl, rfl, rfl, I0, X1, B1⟩
  case round =>
    obtain ⟨k, v, d, L, us, hk, rfl, rfl, rfl, HI, HX2, hnx⟩ := hrel
    clear I0 X1 B0 B1 ED
    have hk6 : (0 : Int) ≤ (k : Int) := by omega
    have hk8 : ¬ (k : Int) < 0 := by omega
    by_cases hlt : k < len
    · have hk7 : (k : Int) < (len : Int) := by omega
      obtain ⟨b, off, rfl, hb0, hll, hm, hts, hc⟩ := H.out.cells (by omega)
      have ht : ts[k]? = some (ts[k]'(by omega)) := List.getElem?_eq_getElem (by omega)
      have hgl := HTT.out _ (List.mem_of_getElem? ht)
      obtain ⟨ga, gn, gc, c0, c1, hz, m0⟩ := hc k _ ht
      generalize ts[k]'(by omega) = r at ht hgl c0 c1 hz m0
      obtain ⟨rs, rg⟩ := r
      simp only at hgl c0 c1 hz m0
      have hgn := hz.len
      have HT := Lib.hid ht
      have c0w := c0
      have c1w := c1
      rw [← hnx.cell (p := ⟨b, _, none⟩) hb0] at c0 c1
      have HZ := Lib.hid hz
      have HML := Lib.hid (HI.out.most HTL.out)
      have HXO : Hid (OwnT B wr (.slice xa xn xc) g) := Lib.hid (ownTN_kept HX.out (by exact ⟨hnx.os, hnx.tape, hnx.output, hnx.size, hnx.block⟩))
      have HXL : Hid (∀ j, (Value.slice xa xn xc).ownBlock = some j → j < w.heap.size) := Lib.hid (fun j hj => (World.ownsRow.lt HX.out j hj).2)
      obtain ⟨x0, x1⟩ := HX2.out.cells
      have hxw : w.heap.size < wr.heap.size := HX2.out.lt
      have hbw : b < wr.heap.size := by omega
      have HVB : Hid (∀ j, v.ownBlock = some j → w.heap.size < j) := Lib.hid HI.out.2.2.2
      clear ht hz hc hm hll hts m0
      cases d
      · by_cases hless : lessN (s, g) (rs, rg) = true
        · skip
          have E3 : Op.bytesLess rs.toList s.toList = false := ltb_asymm _ _ hless
          have hne : rs ≠ s := fun e => by subst e; unfold lessN at hless; rw [ltb_irrefl] at hless; cases hless
          have E1 := bytes_not hne
          go_wp2_with fail
          refine wp_region_held_drew (S := (fun w' => (w'.cell? ⟨b, off + k * 2, none⟩ = some (.string rs) ∧ w'.cell? ⟨b, off + k * 2 + 1, none⟩ = some (.slice ga gn gc)) ∧ w'.cell? ⟨w.heap.size, 0, none⟩ = some (.string s))) (by kernel_rfl) ?_ (fun hHeld => ?_)
          · exact ⟨⟨c0, c1⟩, x0⟩
          refine wpAnyH_take (i := 0) (v := ?_) rfl (by kernel_rfl) (by kernel_rfl) (by kernel_rfl) (fun _ _ _ h => h) (Or.inl ⟨by kernel_rfl, ?_⟩) (by assumption) ?_
          rotate_left
          · intro w hSw; (try dsimp only at hSw); go_simp; try with_reducible rfl
          refine wpAnyH_take (i := 1) (v := ?_) rfl (by kernel_rfl) (by kernel_rfl) (by kernel_rfl) (fun _ _ _ h => h) (Or.inl ⟨by kernel_rfl, ?_⟩) (by assumption) ?_
          rotate_left
          · intro w hSw; (try dsimp only at hSw); go_simp; try with_reducible rfl
          refine wpAnyH_take (i := 2) (v := ?_) rfl (by kernel_rfl) (by kernel_rfl) (by kernel_rfl) (fun _ _ _ h => h) (Or.inl ⟨by kernel_rfl, ?_⟩) (by assumption) ?_
          rotate_left
          · intro w hSw; (try dsimp only at hSw); go_simp; try with_reducible rfl
          refine wpAnyH_take (i := 3) (v := ?_) rfl (by kernel_rfl) (by kernel_rfl) (by kernel_rfl) (fun _ _ _ h => h) (Or.inl ⟨by kernel_rfl, ?_⟩) (by assumption) ?_
          rotate_left
          · intro w hSw; (try dsimp only at hSw); go_simp; try with_reducible rfl
          refine wpAnyH_take (i := 4) (v := ?_) rfl (by kernel_rfl) (by kernel_rfl) (by kernel_rfl) (fun _ _ _ h => h) (Or.inl ⟨by kernel_rfl, ?_⟩) (by assumption) ?_
          rotate_left
          · intro w hSw; (try dsimp only at hSw); go_simp; try with_reducible rfl
          refine wpAnyH_take (i := 5) (v := ?_) rfl (by kernel_rfl) (by kernel_rfl) (by kernel_rfl) (fun _ _ _ h => h) (Or.inl ⟨by kernel_rfl, ?_⟩) (by assumption) ?_
          rotate_left
          · intro w hSw; (try dsimp only at hSw); go_simp; try with_reducible rfl
          refine wpAnyH_take (i := 6) (v := ?_) rfl (by kernel_rfl) (by kernel_rfl) (by kernel_rfl) (fun _ _ _ h => h) (Or.inl ⟨by kernel_rfl, ?_⟩) (by assumption) ?_
          rotate_left
          · intro w hSw; (try dsimp only at hSw); go_simp; try with_reducible rfl
          refine wpAnyH_take (i := 7) (v := ?_) rfl (by kernel_rfl) (by kernel_rfl) (by kernel_rfl) (fun _ _ _ h => h) (Or.inl ⟨by kernel_rfl, ?_⟩) (by assumption) ?_
          rotate_left
          · intro w hSw; (try dsimp only at hSw); go_simp; try with_reducible rfl
          refine wpAnyH_take (i := 8) (v := ?_) rfl (by kernel_rfl) (by kernel_rfl) (by kernel_rfl) (fun _ _ _ h => h) (Or.inl ⟨by kernel_rfl, ?_⟩) (by assumption) ?_
          rotate_left
          · intro w hSw; (try dsimp only at hSw); go_simp; try with_reducible rfl
          refine wpAnyH_take (i := 9) (v := ?_) rfl (by kernel_rfl) (by kernel_rfl) (by kernel_rfl) (fun _ _ _ h => h) (Or.inl ⟨by kernel_rfl, ?_⟩) (by assumption) ?_
          rotate_left
          · intro w hSw; (try dsimp only at hSw); go_simp; try with_reducible rfl
          refine wpAnyH_take (i := 10) (v := ?_) rfl (by kernel_rfl) (by kernel_rfl) (by kernel_rfl) (fun _ _ _ h => h) (Or.inl ⟨by kernel_rfl, ?_⟩) (by assumption) ?_
          rotate_left
          · intro w hSw; (try dsimp only at hSw); go_simp; try with_reducible rfl
          refine wpAnyH_take (i := 11) (v := ?_) rfl (by kernel_rfl) (by kernel_rfl) (by kernel_rfl) (fun _ _ _ h => h) (Or.inl ⟨by kernel_rfl, ?_⟩) (by assumption) ?_
          rotate_left
          · intro w hSw; (try dsimp only at hSw); go_simp; try with_reducible rfl
          refine wpAnyH_done (by kernel_rfl) ?_ _
          try simp only [Act.put, List.setIfInBounds_toArray, List.set_cons_zero, List.set_cons_succ, List.getElem_toArray, List.getElem_cons_zero, List.getElem_cons_succ]
          have HB : B ≤ wr.heap.size := by omega
          have HBa : B ≤ (World.drew (wr.alloc (.cells #[.string s, .slice xa xn xc] 48))).heap.size := by show B ≤ (wr.alloc _).heap.size; rw [World.size_alloc]; omega
          have bLa : Below wr.heap.size wr (World.drew (wr.alloc (.cells #[.string s, .slice xa xn xc] 48))) := ((Below.refl _ _).alloc (Nat.le_refl _) _).drew
          have qa := (NamK.Box2.new wr (.string s) (.slice xa xn xc) 48).drew.cells
          have q0 := (HX2.out.cells).2
          go_wp2_with (at_builtin; go_loud (refine wpList_moreN (B := B) (t := (s, g)) (u := .slice xa xn xc) (L := L) (us := us) rfl _ _ rfl rfl (HI.out.1.next bLa) HBa wr.heap.size rfl qa (ownTN_kept HXO.out bLa) (fun y hy j hj e => by have h1 := HI.out.2.2.1 rfl y hy j hj; have h2 := HXL.out j e; omega) (fun j hj e => by have h1 := HVB.out j e; have h2 := HXL.out j hj; omega) (by have := HML.out; omega) ?_))
          intro v5 w5 o5 hg5 hat5
          have x5 : NamK.Box2 w5 w.heap.size (.string s) (.slice xa xn xc) 48 := (hg5.block _ (HX2.out.next bLa).lt (fun e => Nat.lt_irrefl _ (HVB.out _ e.symm))).trans (HX2.out.next bLa)
          have n5 : Below w.heap.size w w5 := (hnx.trans (bLa.mono hnx.size)).grown hg5 (hnx.trans (bLa.mono hnx.size)).size (fun i hi => Nat.le_of_lt (HVB.out i hi))
          have hv5 : ∀ i, v5.ownBlock = some i → w.heap.size < i := by
            intro i hi
            rcases hat5 with e | e
            · exact HVB.out i (e ▸ hi)
            · rw [e] at hi; have h9 := Option.some.inj hi; have := bLa.size; omega
          have HOb : Hid (OutN B w5 v5 (L ++ [(s, g)]) (us ++ [.slice xa xn xc])) := Lib.hid (by exact o5)
          have HXb : Hid (NamK.Box2 w5 w.heap.size (.string s) (.slice xa xn xc) 48) := Lib.hid (by exact x5)
          have hnb : Below w.heap.size w w5 := n5
          have hmlb : ((L ++ [(s, g)])).length ≤ 1048576 := by have := HML.out; simp only [List.length_append, List.length_cons, List.length_nil]; omega
          have HVb : Hid (∀ j, v5.ownBlock = some j → w.heap.size < j) := Lib.hid (hv5)
          have d0 : w5.cell? ⟨b, off + k * 2, none⟩ = some (.string rs) := (hnb.cell (p := ⟨b, _, none⟩) hb0).trans c0w
          have d1 : w5.cell? ⟨b, off + k * 2 + 1, none⟩ = some (.slice ga gn gc) := (hnb.cell (p := ⟨b, _, none⟩) hb0).trans c1w
          have z0 := HXb.out.cells.1
          go_wp2_with fail
          refine wp_region_held_drew (S := (fun w' => (w'.cell? ⟨b, off + k * 2, none⟩ = some (.string rs) ∧ w'.cell? ⟨b, off + k * 2 + 1, none⟩ = some (.slice ga gn gc)) ∧ w'.cell? ⟨w.heap.size, 0, none⟩ = some (.string s))) (by kernel_rfl) ?_ (fun hHeld => ?_)
          · exact ⟨⟨d0, d1⟩, z0⟩
          refine wpAnyH_take (i := 0) (v := ?_) rfl (by kernel_rfl) (by kernel_rfl) (by kernel_rfl) (fun _ _ _ h => h) (Or.inl ⟨by kernel_rfl, ?_⟩) (by assumption) ?_
          rotate_left
          · intro w hSw; (try dsimp only at hSw); go_simp; try with_reducible rfl
          refine wpAnyH_take (i := 1) (v := ?_) rfl (by kernel_rfl) (by kernel_rfl) (by kernel_rfl) (fun _ _ _ h => h) (Or.inl ⟨by kernel_rfl, ?_⟩) (by assumption) ?_
          rotate_left
          · intro w hSw; (try dsimp only at hSw); go_simp; try with_reducible rfl
          refine wpAnyH_take (i := 2) (v := ?_) rfl (by kernel_rfl) (by kernel_rfl) (by kernel_rfl) (fun _ _ _ h => h) (Or.inl ⟨by kernel_rfl, ?_⟩) (by assumption) ?_
          rotate_left
          · intro w hSw; (try dsimp only at hSw); go_simp; try with_reducible rfl
          refine wpAnyH_take (i := 3) (v := ?_) rfl (by kernel_rfl) (by kernel_rfl) (by kernel_rfl) (fun _ _ _ h => h) (Or.inl ⟨by kernel_rfl, ?_⟩) (by assumption) ?_
          rotate_left
          · intro w hSw; (try dsimp only at hSw); go_simp; try with_reducible rfl
          refine wpAnyH_take (i := 4) (v := ?_) rfl (by kernel_rfl) (by kernel_rfl) (by kernel_rfl) (fun _ _ _ h => h) (Or.inl ⟨by kernel_rfl, ?_⟩) (by assumption) ?_
          rotate_left
          · intro w hSw; (try dsimp only at hSw); go_simp; try with_reducible rfl
          refine wpAnyH_take (i := 5) (v := ?_) rfl (by kernel_rfl) (by kernel_rfl) (by kernel_rfl) (fun _ _ _ h => h) (Or.inl ⟨by kernel_rfl, ?_⟩) (by assumption) ?_
          rotate_left
          · intro w hSw; (try dsimp only at hSw); go_simp; try with_reducible rfl
          refine wpAnyH_take (i := 6) (v := ?_) rfl (by kernel_rfl) (by kernel_rfl) (by kernel_rfl) (fun _ _ _ h => h) (Or.inl ⟨by kernel_rfl, ?_⟩) (by assumption) ?_
          rotate_left
          · intro w hSw; (try dsimp only at hSw); go_simp; try with_reducible rfl
          refine wpAnyH_take (i := 7) (v := ?_) rfl (by kernel_rfl) (by kernel_rfl) (by kernel_rfl) (fun _ _ _ h => h) (Or.inl ⟨by kernel_rfl, ?_⟩) (by assumption) ?_
          rotate_left
          · intro w hSw; (try dsimp only at hSw); go_simp; try with_reducible rfl
          refine wpAnyH_done (by kernel_rfl) ?_ _
          try simp only [Act.put, List.setIfInBounds_toArray, List.set_cons_zero, List.set_cons_succ, List.getElem_toArray, List.getElem_cons_zero, List.getElem_cons_succ]
          go_wp2_with fail
          have hxb : w.heap.size < w5.heap.size := HXb.out.lt
          have bW : Below w.heap.size w (World.alloc (World.drew (World.drew w5)) (.cells #[] 31)) := (hnb.drew.drew).alloc (by exact hnb.size) _
          have HA := Lib.hid (cells_new (World.drew (World.drew w5)) #[] 31).now
          refine wp_region_held_drew (S := (fun w' => (w'.cell? ⟨b, off + k * 2, none⟩ = some (.string rs) ∧ w'.cell? ⟨b, off + k * 2 + 1, none⟩ = some (.slice ga gn gc)) ∧ w'.cell? ⟨w.heap.size, 0, none⟩ = some (.string s))) (by kernel_rfl) ?_ (fun hHeld => ?_)
          · exact ⟨⟨d0, d1⟩, z0⟩
          refine wpAnyH_take (i := 0) (v := ?_) rfl (by kernel_rfl) (by kernel_rfl) (by kernel_rfl) (fun _ _ _ h => h) (Or.inl ⟨by kernel_rfl, ?_⟩) (by assumption) ?_
          rotate_left
          · intro w hSw; (try dsimp only at hSw); go_simp; try with_reducible rfl
          refine wpAnyH_take (i := 1) (v := ?_) rfl (by kernel_rfl) (by kernel_rfl) (by kernel_rfl) (fun _ _ _ h => h) (Or.inl ⟨by kernel_rfl, ?_⟩) (by assumption) ?_
          rotate_left
          · intro w hSw; (try dsimp only at hSw); go_simp; try with_reducible rfl
          refine wpAnyH_take (i := 2) (v := ?_) rfl (by kernel_rfl) (by kernel_rfl) (by kernel_rfl) (fun _ _ _ h => h) (Or.inl ⟨by kernel_rfl, ?_⟩) (by assumption) ?_
          rotate_left
          · intro w hSw; (try dsimp only at hSw); go_simp; try with_reducible rfl
          refine wpAnyH_take (i := 3) (v := ?_) rfl (by kernel_rfl) (by kernel_rfl) (by kernel_rfl) (fun _ _ _ h => h) (Or.inl ⟨by kernel_rfl, ?_⟩) (by assumption) ?_
          rotate_left
          · intro w hSw; (try dsimp only at hSw); go_simp; try with_reducible rfl
          refine wpAnyH_take (i := 4) (v := ?_) rfl (by kernel_rfl) (by kernel_rfl) (by kernel_rfl) (fun _ _ _ h => h) (Or.inl ⟨by kernel_rfl, ?_⟩) (by assumption) ?_
          rotate_left
          · intro w hSw; (try dsimp only at hSw); go_simp; try with_reducible rfl
          refine wpAnyH_take (i := 5) (v := ?_) rfl (by kernel_rfl) (by kernel_rfl) (by kernel_rfl) (fun _ _ _ h => h) (Or.inl ⟨by kernel_rfl, ?_⟩) (by assumption) ?_
          rotate_left
          · intro w hSw; (try dsimp only at hSw); go_simp; try with_reducible rfl
          refine wpAnyH_take (i := 7) (v := ?_) rfl (by kernel_rfl) (by kernel_rfl) (by kernel_rfl) (fun _ _ _ h => h) (Or.inl ⟨by kernel_rfl, ?_⟩) (by assumption) ?_
          rotate_left
          · intro w hSw; (try dsimp only at hSw); go_simp; try with_reducible rfl
          refine wpAnyH_take (i := 8) (v := ?_) rfl (by kernel_rfl) (by kernel_rfl) (by kernel_rfl) (fun _ _ _ h => h) (Or.inl ⟨by kernel_rfl, ?_⟩) (by assumption) ?_
          rotate_left
          · intro w hSw; (try dsimp only at hSw); go_simp; try with_reducible rfl
          refine wpAnyH_take (i := 9) (v := ?_) rfl (by kernel_rfl) (by kernel_rfl) (by kernel_rfl) (fun _ _ _ h => h) (Or.inl ⟨by kernel_rfl, ?_⟩) (by assumption) ?_
          rotate_left
          · intro w hSw; (try dsimp only at hSw); go_simp; try with_reducible rfl
          refine wpAnyH_take (i := 10) (v := ?_) rfl (by kernel_rfl) (by kernel_rfl) (by kernel_rfl) (fun _ _ _ h => h) (Or.inl ⟨by kernel_rfl, ?_⟩) (by assumption) ?_
          rotate_left
          · intro w hSw; (try dsimp only at hSw); go_simp; try with_reducible rfl
          refine wpAnyH_take (i := 11) (v := ?_) rfl (by kernel_rfl) (by kernel_rfl) (by kernel_rfl) (fun _ _ _ h => h) (Or.inl ⟨by kernel_rfl, ?_⟩) (by assumption) ?_
          rotate_left
          · intro w hSw; (try dsimp only at hSw); go_simp; try with_reducible rfl
          refine wpAnyH_ready (rs := [6]) (by kernel_rfl) (by simp) ?_
          refine AllReadyH.cons rfl (fun K hK => ?_) AllReadyH.nil
          go_simp
          clear hHeld
          refine hK.out _ _ ?_ (fun hHeld => ?_)
          · exact ⟨⟨(bW.cell (p := ⟨b, _, none⟩) hb0).trans c0w, (bW.cell (p := ⟨b, _, none⟩) hb0).trans c1w⟩, ((HXb.out.next ((Below.refl _ _).drew.drew)).alloc _).cells.1⟩
          clear hK K
          refine wpAnyH_ready (rs := [12]) (by kernel_rfl) (by simp) ?_
          refine AllReadyH.cons rfl (fun K hK => ?_) AllReadyH.nil
          refine upon_copyN _ _ (by rfl) _ (by rfl) HA.out ga gn gc rg (by rfl) (HZ.out.next bW) (by omega) ?_
          intro cv w2 j hj hjo hcv htu
          obtain ⟨qa, qc, hqe⟩ := own_slice_len hcv.now.1
          rw [hgn] at hqe
          subst hqe
          have hs1 : (World.drew (World.drew w5)).heap.size ≤ (World.alloc (World.drew (World.drew w5)) (.cells #[] 31)).heap.size := by rw [World.size_alloc]; exact Nat.le_succ _
          have b12 : Below (World.drew (World.drew w5)).heap.size (World.drew (World.drew w5)) w2 := ((Below.refl (World.drew (World.drew w5)).heap.size (World.drew (World.drew w5))).alloc (Nat.le_refl _) _).trans (htu.below hs1 (Nat.le_refl _))
          have bb2 : Below w5.heap.size w5 w2 := ((Below.refl w5.heap.size w5).drew.drew).trans (by exact b12)
          have b2w : Below w.heap.size w w2 := hnb.trans (bb2.mono hnb.size)
          have o2 : OutN B w2 v5 (L ++ [(s, g)]) (us ++ [.slice xa xn xc]) := HOb.out.next bb2
          have x2 := HXb.out.next bb2
          clear hHeld
          refine hK.out _ _ ?_ (fun hHeld => ?_)
          · exact ⟨⟨(b2w.cell (p := ⟨b, _, none⟩) hb0).trans c0w, (b2w.cell (p := ⟨b, _, none⟩) hb0).trans c1w⟩, x2.cells.1⟩
          clear hK K
          refine wpAnyH_take (i := 13) (v := ?_) rfl (by kernel_rfl) (by kernel_rfl) (by kernel_rfl) (fun _ _ _ h => h) (Or.inl ⟨by kernel_rfl, ?_⟩) (by assumption) ?_
          rotate_left
          · intro w hSw; (try dsimp only at hSw); go_simp; try with_reducible rfl
          refine wpAnyH_ready (rs := [14]) (by kernel_rfl) (by simp) ?_
          refine AllReadyH.cons rfl (fun K hK => ?_) AllReadyH.nil
          go_simp
          clear hHeld
          refine hK.out _ _ ?_ (fun hHeld => ?_)
          · exact ⟨⟨((b2w.alloc b2w.size _).cell (p := ⟨b, _, none⟩) hb0).trans c0w, ((b2w.alloc b2w.size _).cell (p := ⟨b, _, none⟩) hb0).trans c1w⟩, (x2.alloc _).cells.1⟩
          clear hK K
          have hj2 : j = w5.heap.size ∨ j = w5.heap.size + 1 := by rcases hj with e | e; (exact .inl e); (exact .inr (e.trans (World.size_alloc w5 (.cells #[] 31))))
          have hjV : w5.heap.size ≤ j := by omega
          have hjl : w.heap.size < j ∧ j < w2.heap.size := ⟨by omega, hcv.le⟩
          have eL : (w2.alloc (.cells #[.string rs, .slice qa gn qc] 48)).heap.size = w2.heap.size + 1 := World.size_alloc _ _
          have hBL : B ≤ (w2.alloc (.cells #[.string rs, .slice qa gn qc] 48)).heap.size := by have := b2w.size; omega
          have hqL := (NamK.Box2.new w2 (.string rs) (.slice qa gn qc) 48).cells
          have o3 := o2.next ((Below.refl w2.heap.size w2).alloc (Nat.le_refl _) (.cells #[.string rs, .slice qa gn qc] 48))
          have u3 : OwnT B (w2.alloc (.cells #[.string rs, .slice qa gn qc] 48)) (.slice qa gn qc) rg := own_base (hcv.alloc _).now.1 (by omega)
          refine wpAnyH_ready (rs := [15]) (by kernel_rfl) (by simp) ?_
          refine AllReadyH.cons rfl (fun K hK => ?_) AllReadyH.nil
          refine upon_moreN (B := B) (t := (rs, rg)) (u := .slice qa gn qc) _ _ (by rfl) (by rfl) o3 hBL w2.heap.size (by rfl) hqL u3 (fun y hy i hi e => by have h1 := (HOb.out.lt y hy i hi).2; rw [hjo] at e; have := Option.some.inj e; omega) (fun i hi e => by have h1 := (World.ownsRow.lt HOb.out.1 i e).2; rw [hjo] at hi; have := Option.some.inj hi; omega) hmlb ?_
          intro v4 w4 o4 hg4 hat4
          have x4 : NamK.Box2 w4 w.heap.size (.string s) (.slice xa xn xc) 48 := (hg4.block _ (x2.alloc _).lt (fun e => Nat.lt_irrefl _ (HVb.out _ e.symm))).trans (x2.alloc _)
          have b4 := (b2w.alloc b2w.size (.cells #[.string rs, .slice qa gn qc] 48)).grown hg4 (b2w.alloc b2w.size _).size (fun i hi => Nat.le_of_lt (HVb.out i hi))
          have hv4 : ∀ i, v4.ownBlock = some i → w.heap.size < i := by
            intro i hi
            rcases hat4 with e | e
            · exact HVb.out i (e ▸ hi)
            · rw [e] at hi; have h9 := Option.some.inj hi; have := b2w.size; omega
          have cell4 : ∀ p : Addr, p.block < w.heap.size → w4.cell? p = w.cell? p := fun p hp => b4.cell hp
          clear hHeld
          refine hK.out _ _ ?_ (fun hHeld => ?_)
          · exact ⟨⟨(cell4 ⟨b, _, none⟩ hb0).trans c0w, (cell4 ⟨b, _, none⟩ hb0).trans c1w⟩, x4.cells.1⟩
          clear hK K
          refine wpAnyH_take (i := 16) (v := ?_) rfl (by kernel_rfl) (by kernel_rfl) (by kernel_rfl) (fun _ _ _ h => h) (Or.inl ⟨by kernel_rfl, ?_⟩) (by assumption) ?_
          rotate_left
          · intro w hSw; (try dsimp only at hSw); go_simp; try with_reducible rfl
          refine wpAnyH_done (by kernel_rfl) ?_ _
          try simp only [Act.put, List.setIfInBounds_toArray, List.set_cons_zero, List.set_cons_succ, List.getElem_toArray, List.getElem_cons_zero, List.getElem_cons_succ]
          have I4 : Hid (PutI B w.heap.size w4 v4 true ((L ++ [(s, g)]) ++ [(rs, rg)]) ((us ++ [.slice xa xn xc]) ++ [.slice qa gn qc]) (s, g) ts (k + 1)) := Lib.hid (HI.out.both HT.out hne hless o4 hv4)
          have HX4 := Lib.hid x4
          clear hHeld o4 hg4 hat4 x4 hv4 cell4 x2 o2 o3 u3 b2w hcv htu HA bW HZ HI HX2 HXb HOb HVb hnb c0 c1 c0w c1w d0 d1 z0
          go_wp2_with fail
          go_roundw
          case rel => exact ⟨k + 1, _, true, _, _, by omega, by go_num, rfl, rfl, I4, HX4, b4⟩
          case measure => simp [intOf]; omega
        · have hnl : lessN (s, g) (rs, rg) = false := by simpa using hless
          by_cases hes : rs = s
          · have E1 := bytes_is hes
            have E3 : Op.bytesLess rs.toList s.toList = false := by rw [hes]; exact ltb_irrefl _
            go_wp2_with fail
            refine wp_region_held_drew (S := (fun w' => (w'.cell? ⟨b, off + k * 2, none⟩ = some (.string rs) ∧ w'.cell? ⟨b, off + k * 2 + 1, none⟩ = some (.slice ga gn gc)) ∧ w'.cell? ⟨w.heap.size, 0, none⟩ = some (.string s))) (by kernel_rfl) ?_ (fun hHeld => ?_)
            · exact ⟨⟨c0, c1⟩, x0⟩
            refine wpAnyH_take (i := 0) (v := ?_) rfl (by kernel_rfl) (by kernel_rfl) (by kernel_rfl) (fun _ _ _ h => h) (Or.inl ⟨by kernel_rfl, ?_⟩) (by assumption) ?_
            rotate_left
            · intro w hSw; (try dsimp only at hSw); go_simp; try with_reducible rfl
            refine wpAnyH_take (i := 1) (v := ?_) rfl (by kernel_rfl) (by kernel_rfl) (by kernel_rfl) (fun _ _ _ h => h) (Or.inl ⟨by kernel_rfl, ?_⟩) (by assumption) ?_
            rotate_left
            · intro w hSw; (try dsimp only at hSw); go_simp; try with_reducible rfl
            refine wpAnyH_take (i := 2) (v := ?_) rfl (by kernel_rfl) (by kernel_rfl) (by kernel_rfl) (fun _ _ _ h => h) (Or.inl ⟨by kernel_rfl, ?_⟩) (by assumption) ?_
            rotate_left
            · intro w hSw; (try dsimp only at hSw); go_simp; try with_reducible rfl
            refine wpAnyH_take (i := 3) (v := ?_) rfl (by kernel_rfl) (by kernel_rfl) (by kernel_rfl) (fun _ _ _ h => h) (Or.inl ⟨by kernel_rfl, ?_⟩) (by assumption) ?_
            rotate_left
            · intro w hSw; (try dsimp only at hSw); go_simp; try with_reducible rfl
            refine wpAnyH_take (i := 4) (v := ?_) rfl (by kernel_rfl) (by kernel_rfl) (by kernel_rfl) (fun _ _ _ h => h) (Or.inl ⟨by kernel_rfl, ?_⟩) (by assumption) ?_
            rotate_left
            · intro w hSw; (try dsimp only at hSw); go_simp; try with_reducible rfl
            refine wpAnyH_take (i := 5) (v := ?_) rfl (by kernel_rfl) (by kernel_rfl) (by kernel_rfl) (fun _ _ _ h => h) (Or.inl ⟨by kernel_rfl, ?_⟩) (by assumption) ?_
            rotate_left
            · intro w hSw; (try dsimp only at hSw); go_simp; try with_reducible rfl
            refine wpAnyH_take (i := 6) (v := ?_) rfl (by kernel_rfl) (by kernel_rfl) (by kernel_rfl) (fun _ _ _ h => h) (Or.inl ⟨by kernel_rfl, ?_⟩) (by assumption) ?_
            rotate_left
            · intro w hSw; (try dsimp only at hSw); go_simp; try with_reducible rfl
            refine wpAnyH_take (i := 7) (v := ?_) rfl (by kernel_rfl) (by kernel_rfl) (by kernel_rfl) (fun _ _ _ h => h) (Or.inl ⟨by kernel_rfl, ?_⟩) (by assumption) ?_
            rotate_left
            · intro w hSw; (try dsimp only at hSw); go_simp; try with_reducible rfl
            refine wpAnyH_take (i := 8) (v := ?_) rfl (by kernel_rfl) (by kernel_rfl) (by kernel_rfl) (fun _ _ _ h => h) (Or.inl ⟨by kernel_rfl, ?_⟩) (by assumption) ?_
            rotate_left
            · intro w hSw; (try dsimp only at hSw); go_simp; try with_reducible rfl
            refine wpAnyH_take (i := 9) (v := ?_) rfl (by kernel_rfl) (by kernel_rfl) (by kernel_rfl) (fun _ _ _ h => h) (Or.inl ⟨by kernel_rfl, ?_⟩) (by assumption) ?_
            rotate_left
            · intro w hSw; (try dsimp only at hSw); go_simp; try with_reducible rfl
            refine wpAnyH_take (i := 10) (v := ?_) rfl (by kernel_rfl) (by kernel_rfl) (by kernel_rfl) (fun _ _ _ h => h) (Or.inl ⟨by kernel_rfl, ?_⟩) (by assumption) ?_
            rotate_left
            · intro w hSw; (try dsimp only at hSw); go_simp; try with_reducible rfl
            refine wpAnyH_take (i := 11) (v := ?_) rfl (by kernel_rfl) (by kernel_rfl) (by kernel_rfl) (fun _ _ _ h => h) (Or.inl ⟨by kernel_rfl, ?_⟩) (by assumption) ?_
            rotate_left
            · intro w hSw; (try dsimp only at hSw); go_simp; try with_reducible rfl
            refine wpAnyH_done (by kernel_rfl) ?_ _
            try simp only [Act.put, List.setIfInBounds_toArray, List.set_cons_zero, List.set_cons_succ, List.getElem_toArray, List.getElem_cons_zero, List.getElem_cons_succ]
            have HOb : Hid (OutN B (World.drew wr) v L us) := Lib.hid (by exact HI.out.1)
            have HXb : Hid (NamK.Box2 (World.drew wr) w.heap.size (.string s) (.slice xa xn xc) 48) := Lib.hid (by exact HX2.out)
            have hnb : Below w.heap.size w (World.drew wr) := hnx.drew
            have hmlb : (L).length ≤ 1048576 := by have := HML.out; omega
            have HVb : Hid (∀ j, v.ownBlock = some j → w.heap.size < j) := Lib.hid (HVB.out)
            have d0 : (World.drew wr).cell? ⟨b, off + k * 2, none⟩ = some (.string rs) := (hnb.cell (p := ⟨b, _, none⟩) hb0).trans c0w
            have d1 : (World.drew wr).cell? ⟨b, off + k * 2 + 1, none⟩ = some (.slice ga gn gc) := (hnb.cell (p := ⟨b, _, none⟩) hb0).trans c1w
            have z0 := HXb.out.cells.1
            go_wp2_with fail
            refine wp_region_held_drew (S := (fun w' => (w'.cell? ⟨b, off + k * 2, none⟩ = some (.string rs) ∧ w'.cell? ⟨b, off + k * 2 + 1, none⟩ = some (.slice ga gn gc)) ∧ w'.cell? ⟨w.heap.size, 0, none⟩ = some (.string s))) (by kernel_rfl) ?_ (fun hHeld => ?_)
            · exact ⟨⟨d0, d1⟩, z0⟩
            refine wpAnyH_take (i := 0) (v := ?_) rfl (by kernel_rfl) (by kernel_rfl) (by kernel_rfl) (fun _ _ _ h => h) (Or.inl ⟨by kernel_rfl, ?_⟩) (by assumption) ?_
            rotate_left
            · intro w hSw; (try dsimp only at hSw); go_simp; try with_reducible rfl
            refine wpAnyH_take (i := 1) (v := ?_) rfl (by kernel_rfl) (by kernel_rfl) (by kernel_rfl) (fun _ _ _ h => h) (Or.inl ⟨by kernel_rfl, ?_⟩) (by assumption) ?_
            rotate_left
            · intro w hSw; (try dsimp only at hSw); go_simp; try with_reducible rfl
            refine wpAnyH_take (i := 2) (v := ?_) rfl (by kernel_rfl) (by kernel_rfl) (by kernel_rfl) (fun _ _ _ h => h) (Or.inl ⟨by kernel_rfl, ?_⟩) (by assumption) ?_
            rotate_left
            · intro w hSw; (try dsimp only at hSw); go_simp; try with_reducible rfl
            refine wpAnyH_take (i := 3) (v := ?_) rfl (by kernel_rfl) (by kernel_rfl) (by kernel_rfl) (fun _ _ _ h => h) (Or.inl ⟨by kernel_rfl, ?_⟩) (by assumption) ?_
            rotate_left
            · intro w hSw; (try dsimp only at hSw); go_simp; try with_reducible rfl
            refine wpAnyH_take (i := 4) (v := ?_) rfl (by kernel_rfl) (by kernel_rfl) (by kernel_rfl) (fun _ _ _ h => h) (Or.inl ⟨by kernel_rfl, ?_⟩) (by assumption) ?_
            rotate_left
            · intro w hSw; (try dsimp only at hSw); go_simp; try with_reducible rfl
            refine wpAnyH_take (i := 5) (v := ?_) rfl (by kernel_rfl) (by kernel_rfl) (by kernel_rfl) (fun _ _ _ h => h) (Or.inl ⟨by kernel_rfl, ?_⟩) (by assumption) ?_
            rotate_left
            · intro w hSw; (try dsimp only at hSw); go_simp; try with_reducible rfl
            refine wpAnyH_take (i := 6) (v := ?_) rfl (by kernel_rfl) (by kernel_rfl) (by kernel_rfl) (fun _ _ _ h => h) (Or.inl ⟨by kernel_rfl, ?_⟩) (by assumption) ?_
            rotate_left
            · intro w hSw; (try dsimp only at hSw); go_simp; try with_reducible rfl
            refine wpAnyH_take (i := 7) (v := ?_) rfl (by kernel_rfl) (by kernel_rfl) (by kernel_rfl) (fun _ _ _ h => h) (Or.inl ⟨by kernel_rfl, ?_⟩) (by assumption) ?_
            rotate_left
            · intro w hSw; (try dsimp only at hSw); go_simp; try with_reducible rfl
            refine wpAnyH_done (by kernel_rfl) ?_ _
            try simp only [Act.put, List.setIfInBounds_toArray, List.set_cons_zero, List.set_cons_succ, List.getElem_toArray, List.getElem_cons_zero, List.getElem_cons_succ]
            have I4 : Hid (PutI B w.heap.size (World.drew (World.drew wr)) v false L us (s, g) ts (k + 1)) := Lib.hid (PutI.skip (by exact HI.out) HT.out hes (.inr hnl))
            have HX4 : Hid (NamK.Box2 (World.drew (World.drew wr)) w.heap.size (.string s) (.slice xa xn xc) 48) := HX2
            have b4 := hnb.drew
            clear hHeld HI HX2 HXb HOb HVb hnb c0 c1 c0w c1w d0 d1 z0 HZ
            go_wp2_with fail
            go_roundw
            case rel => exact ⟨k + 1, _, false, _, _, by omega, by go_num, rfl, rfl, I4, HX4, b4⟩
            case measure => simp [intOf]; omega
          · have E1 := bytes_not hes
            have E3 : Op.bytesLess rs.toList s.toList = true := by
              rcases cmp_cases rs.toList s.toList with ⟨_, h⟩ | ⟨_, h⟩ | ⟨_, h⟩
              · exact h
              · rw [h] at E1; simp at E1
              · have h2 : Op.bytesLess s.toList rs.toList = false := hnl
                rw [h2] at h; cases h
            go_wp2_with fail
            refine wp_region_held_drew (S := (fun w' => (w'.cell? ⟨b, off + k * 2, none⟩ = some (.string rs) ∧ w'.cell? ⟨b, off + k * 2 + 1, none⟩ = some (.slice ga gn gc)) ∧ w'.cell? ⟨w.heap.size, 0, none⟩ = some (.string s))) (by kernel_rfl) ?_ (fun hHeld => ?_)
            · exact ⟨⟨c0, c1⟩, x0⟩
            refine wpAnyH_take (i := 0) (v := ?_) rfl (by kernel_rfl) (by kernel_rfl) (by kernel_rfl) (fun _ _ _ h => h) (Or.inl ⟨by kernel_rfl, ?_⟩) (by assumption) ?_
            rotate_left
            · intro w hSw; (try dsimp only at hSw); go_simp; try with_reducible rfl
            refine wpAnyH_take (i := 1) (v := ?_) rfl (by kernel_rfl) (by kernel_rfl) (by kernel_rfl) (fun _ _ _ h => h) (Or.inl ⟨by kernel_rfl, ?_⟩) (by assumption) ?_
            rotate_left
            · intro w hSw; (try dsimp only at hSw); go_simp; try with_reducible rfl
            refine wpAnyH_take (i := 2) (v := ?_) rfl (by kernel_rfl) (by kernel_rfl) (by kernel_rfl) (fun _ _ _ h => h) (Or.inl ⟨by kernel_rfl, ?_⟩) (by assumption) ?_
            rotate_left
            · intro w hSw; (try dsimp only at hSw); go_simp; try with_reducible rfl
            refine wpAnyH_take (i := 3) (v := ?_) rfl (by kernel_rfl) (by kernel_rfl) (by kernel_rfl) (fun _ _ _ h => h) (Or.inl ⟨by kernel_rfl, ?_⟩) (by assumption) ?_
            rotate_left
            · intro w hSw; (try dsimp only at hSw); go_simp; try with_reducible rfl
            refine wpAnyH_take (i := 4) (v := ?_) rfl (by kernel_rfl) (by kernel_rfl) (by kernel_rfl) (fun _ _ _ h => h) (Or.inl ⟨by kernel_rfl, ?_⟩) (by assumption) ?_
            rotate_left
            · intro w hSw; (try dsimp only at hSw); go_simp; try with_reducible rfl
            refine wpAnyH_take (i := 5) (v := ?_) rfl (by kernel_rfl) (by kernel_rfl) (by kernel_rfl) (fun _ _ _ h => h) (Or.inl ⟨by kernel_rfl, ?_⟩) (by assumption) ?_
            rotate_left
            · intro w hSw; (try dsimp only at hSw); go_simp; try with_reducible rfl
            refine wpAnyH_take (i := 6) (v := ?_) rfl (by kernel_rfl) (by kernel_rfl) (by kernel_rfl) (fun _ _ _ h => h) (Or.inl ⟨by kernel_rfl, ?_⟩) (by assumption) ?_
            rotate_left
            · intro w hSw; (try dsimp only at hSw); go_simp; try with_reducible rfl
            refine wpAnyH_take (i := 7) (v := ?_) rfl (by kernel_rfl) (by kernel_rfl) (by kernel_rfl) (fun _ _ _ h => h) (Or.inl ⟨by kernel_rfl, ?_⟩) (by assumption) ?_
            rotate_left
            · intro w hSw; (try dsimp only at hSw); go_simp; try with_reducible rfl
            refine wpAnyH_take (i := 8) (v := ?_) rfl (by kernel_rfl) (by kernel_rfl) (by kernel_rfl) (fun _ _ _ h => h) (Or.inl ⟨by kernel_rfl, ?_⟩) (by assumption) ?_
            rotate_left
            · intro w hSw; (try dsimp only at hSw); go_simp; try with_reducible rfl
            refine wpAnyH_take (i := 9) (v := ?_) rfl (by kernel_rfl) (by kernel_rfl) (by kernel_rfl) (fun _ _ _ h => h) (Or.inl ⟨by kernel_rfl, ?_⟩) (by assumption) ?_
            rotate_left
            · intro w hSw; (try dsimp only at hSw); go_simp; try with_reducible rfl
            refine wpAnyH_take (i := 10) (v := ?_) rfl (by kernel_rfl) (by kernel_rfl) (by kernel_rfl) (fun _ _ _ h => h) (Or.inl ⟨by kernel_rfl, ?_⟩) (by assumption) ?_
            rotate_left
            · intro w hSw; (try dsimp only at hSw); go_simp; try with_reducible rfl
            refine wpAnyH_take (i := 11) (v := ?_) rfl (by kernel_rfl) (by kernel_rfl) (by kernel_rfl) (fun _ _ _ h => h) (Or.inl ⟨by kernel_rfl, ?_⟩) (by assumption) ?_
            rotate_left
            · intro w hSw; (try dsimp only at hSw); go_simp; try with_reducible rfl
            refine wpAnyH_done (by kernel_rfl) ?_ _
            try simp only [Act.put, List.setIfInBounds_toArray, List.set_cons_zero, List.set_cons_succ, List.getElem_toArray, List.getElem_cons_zero, List.getElem_cons_succ]
            have HOb : Hid (OutN B (World.drew wr) v L us) := Lib.hid (by exact HI.out.1)
            have HXb : Hid (NamK.Box2 (World.drew wr) w.heap.size (.string s) (.slice xa xn xc) 48) := Lib.hid (by exact HX2.out)
            have hnb : Below w.heap.size w (World.drew wr) := hnx.drew
            have hmlb : (L).length ≤ 1048576 := by have := HML.out; omega
            have HVb : Hid (∀ j, v.ownBlock = some j → w.heap.size < j) := Lib.hid (HVB.out)
            have d0 : (World.drew wr).cell? ⟨b, off + k * 2, none⟩ = some (.string rs) := (hnb.cell (p := ⟨b, _, none⟩) hb0).trans c0w
            have d1 : (World.drew wr).cell? ⟨b, off + k * 2 + 1, none⟩ = some (.slice ga gn gc) := (hnb.cell (p := ⟨b, _, none⟩) hb0).trans c1w
            have z0 := HXb.out.cells.1
            go_wp2_with fail
            refine wp_region_held_drew (S := (fun w' => (w'.cell? ⟨b, off + k * 2, none⟩ = some (.string rs) ∧ w'.cell? ⟨b, off + k * 2 + 1, none⟩ = some (.slice ga gn gc)) ∧ w'.cell? ⟨w.heap.size, 0, none⟩ = some (.string s))) (by kernel_rfl) ?_ (fun hHeld => ?_)
            · exact ⟨⟨d0, d1⟩, z0⟩
            refine wpAnyH_take (i := 0) (v := ?_) rfl (by kernel_rfl) (by kernel_rfl) (by kernel_rfl) (fun _ _ _ h => h) (Or.inl ⟨by kernel_rfl, ?_⟩) (by assumption) ?_
            rotate_left
            · intro w hSw; (try dsimp only at hSw); go_simp; try with_reducible rfl
            refine wpAnyH_take (i := 1) (v := ?_) rfl (by kernel_rfl) (by kernel_rfl) (by kernel_rfl) (fun _ _ _ h => h) (Or.inl ⟨by kernel_rfl, ?_⟩) (by assumption) ?_
            rotate_left
            · intro w hSw; (try dsimp only at hSw); go_simp; try with_reducible rfl
            refine wpAnyH_take (i := 2) (v := ?_) rfl (by kernel_rfl) (by kernel_rfl) (by kernel_rfl) (fun _ _ _ h => h) (Or.inl ⟨by kernel_rfl, ?_⟩) (by assumption) ?_
            rotate_left
            · intro w hSw; (try dsimp only at hSw); go_simp; try with_reducible rfl
            refine wpAnyH_take (i := 3) (v := ?_) rfl (by kernel_rfl) (by kernel_rfl) (by kernel_rfl) (fun _ _ _ h => h) (Or.inl ⟨by kernel_rfl, ?_⟩) (by assumption) ?_
            rotate_left
            · intro w hSw; (try dsimp only at hSw); go_simp; try with_reducible rfl
            refine wpAnyH_take (i := 4) (v := ?_) rfl (by kernel_rfl) (by kernel_rfl) (by kernel_rfl) (fun _ _ _ h => h) (Or.inl ⟨by kernel_rfl, ?_⟩) (by assumption) ?_
            rotate_left
            · intro w hSw; (try dsimp only at hSw); go_simp; try with_reducible rfl
            refine wpAnyH_take (i := 5) (v := ?_) rfl (by kernel_rfl) (by kernel_rfl) (by kernel_rfl) (fun _ _ _ h => h) (Or.inl ⟨by kernel_rfl, ?_⟩) (by assumption) ?_
            rotate_left
            · intro w hSw; (try dsimp only at hSw); go_simp; try with_reducible rfl
            refine wpAnyH_take (i := 6) (v := ?_) rfl (by kernel_rfl) (by kernel_rfl) (by kernel_rfl) (fun _ _ _ h => h) (Or.inl ⟨by kernel_rfl, ?_⟩) (by assumption) ?_
            rotate_left
            · intro w hSw; (try dsimp only at hSw); go_simp; try with_reducible rfl
            refine wpAnyH_take (i := 7) (v := ?_) rfl (by kernel_rfl) (by kernel_rfl) (by kernel_rfl) (fun _ _ _ h => h) (Or.inl ⟨by kernel_rfl, ?_⟩) (by assumption) ?_
            rotate_left
            · intro w hSw; (try dsimp only at hSw); go_simp; try with_reducible rfl
            refine wpAnyH_done (by kernel_rfl) ?_ _
            try simp only [Act.put, List.setIfInBounds_toArray, List.set_cons_zero, List.set_cons_succ, List.getElem_toArray, List.getElem_cons_zero, List.getElem_cons_succ]
            go_wp2_with fail
            have hxb : w.heap.size < (World.drew wr).heap.size := HXb.out.lt
            have bW : Below w.heap.size w (World.alloc (World.drew (World.drew (World.drew wr))) (.cells #[] 31)) := (hnb.drew.drew).alloc (by exact hnb.size) _
            have HA := Lib.hid (cells_new (World.drew (World.drew (World.drew wr))) #[] 31).now
            refine wp_region_held_drew (S := (fun w' => (w'.cell? ⟨b, off + k * 2, none⟩ = some (.string rs) ∧ w'.cell? ⟨b, off + k * 2 + 1, none⟩ = some (.slice ga gn gc)) ∧ w'.cell? ⟨w.heap.size, 0, none⟩ = some (.string s))) (by kernel_rfl) ?_ (fun hHeld => ?_)
            · exact ⟨⟨d0, d1⟩, z0⟩
            refine wpAnyH_take (i := 0) (v := ?_) rfl (by kernel_rfl) (by kernel_rfl) (by kernel_rfl) (fun _ _ _ h => h) (Or.inl ⟨by kernel_rfl, ?_⟩) (by assumption) ?_
            rotate_left
            · intro w hSw; (try dsimp only at hSw); go_simp; try with_reducible rfl
            refine wpAnyH_take (i := 1) (v := ?_) rfl (by kernel_rfl) (by kernel_rfl) (by kernel_rfl) (fun _ _ _ h => h) (Or.inl ⟨by kernel_rfl, ?_⟩) (by assumption) ?_
            rotate_left
            · intro w hSw; (try dsimp only at hSw); go_simp; try with_reducible rfl
            refine wpAnyH_take (i := 2) (v := ?_) rfl (by kernel_rfl) (by kernel_rfl) (by kernel_rfl) (fun _ _ _ h => h) (Or.inl ⟨by kernel_rfl, ?_⟩) (by assumption) ?_
            rotate_left
            · intro w hSw; (try dsimp only at hSw); go_simp; try with_reducible rfl
            refine wpAnyH_take (i := 3) (v := ?_) rfl (by kernel_rfl) (by kernel_rfl) (by kernel_rfl) (fun _ _ _ h => h) (Or.inl ⟨by kernel_rfl, ?_⟩) (by assumption) ?_
            rotate_left
            · intro w hSw; (try dsimp only at hSw); go_simp; try with_reducible rfl
            refine wpAnyH_take (i := 4) (v := ?_) rfl (by kernel_rfl) (by kernel_rfl) (by kernel_rfl) (fun _ _ _ h => h) (Or.inl ⟨by kernel_rfl, ?_⟩) (by assumption) ?_
            rotate_left
            · intro w hSw; (try dsimp only at hSw); go_simp; try with_reducible rfl
            refine wpAnyH_take (i := 5) (v := ?_) rfl (by kernel_rfl) (by kernel_rfl) (by kernel_rfl) (fun _ _ _ h => h) (Or.inl ⟨by kernel_rfl, ?_⟩) (by assumption) ?_
            rotate_left
            · intro w hSw; (try dsimp only at hSw); go_simp; try with_reducible rfl
            refine wpAnyH_take (i := 7) (v := ?_) rfl (by kernel_rfl) (by kernel_rfl) (by kernel_rfl) (fun _ _ _ h => h) (Or.inl ⟨by kernel_rfl, ?_⟩) (by assumption) ?_
            rotate_left
            · intro w hSw; (try dsimp only at hSw); go_simp; try with_reducible rfl
            refine wpAnyH_take (i := 8) (v := ?_) rfl (by kernel_rfl) (by kernel_rfl) (by kernel_rfl) (fun _ _ _ h => h) (Or.inl ⟨by kernel_rfl, ?_⟩) (by assumption) ?_
            rotate_left
            · intro w hSw; (try dsimp only at hSw); go_simp; try with_reducible rfl
            refine wpAnyH_take (i := 9) (v := ?_) rfl (by kernel_rfl) (by kernel_rfl) (by kernel_rfl) (fun _ _ _ h => h) (Or.inl ⟨by kernel_rfl, ?_⟩) (by assumption) ?_
            rotate_left
            · intro w hSw; (try dsimp only at hSw); go_simp; try with_reducible rfl
            refine wpAnyH_take (i := 10) (v := ?_) rfl (by kernel_rfl) (by kernel_rfl) (by kernel_rfl) (fun _ _ _ h => h) (Or.inl ⟨by kernel_rfl, ?_⟩) (by assumption) ?_
            rotate_left
            · intro w hSw; (try dsimp only at hSw); go_simp; try with_reducible rfl
            refine wpAnyH_take (i := 11) (v := ?_) rfl (by kernel_rfl) (by kernel_rfl) (by kernel_rfl) (fun _ _ _ h => h) (Or.inl ⟨by kernel_rfl, ?_⟩) (by assumption) ?_
            rotate_left
            · intro w hSw; (try dsimp only at hSw); go_simp; try with_reducible rfl
            refine wpAnyH_ready (rs := [6]) (by kernel_rfl) (by simp) ?_
            refine AllReadyH.cons rfl (fun K hK => ?_) AllReadyH.nil
            go_simp
            clear hHeld
            refine hK.out _ _ ?_ (fun hHeld => ?_)
            · exact ⟨⟨(bW.cell (p := ⟨b, _, none⟩) hb0).trans c0w, (bW.cell (p := ⟨b, _, none⟩) hb0).trans c1w⟩, ((HXb.out.next ((Below.refl _ _).drew.drew)).alloc _).cells.1⟩
            clear hK K
            refine wpAnyH_ready (rs := [12]) (by kernel_rfl) (by simp) ?_
            refine AllReadyH.cons rfl (fun K hK => ?_) AllReadyH.nil
            refine upon_copyN _ _ (by rfl) _ (by rfl) HA.out ga gn gc rg (by rfl) (HZ.out.next bW) (by omega) ?_
            intro cv w2 j hj hjo hcv htu
            obtain ⟨qa, qc, hqe⟩ := own_slice_len hcv.now.1
            rw [hgn] at hqe
            subst hqe
            have hs1 : (World.drew (World.drew (World.drew wr))).heap.size ≤ (World.alloc (World.drew (World.drew (World.drew wr))) (.cells #[] 31)).heap.size := by rw [World.size_alloc]; exact Nat.le_succ _
            have b12 : Below (World.drew (World.drew (World.drew wr))).heap.size (World.drew (World.drew (World.drew wr))) w2 := ((Below.refl (World.drew (World.drew (World.drew wr))).heap.size (World.drew (World.drew (World.drew wr)))).alloc (Nat.le_refl _) _).trans (htu.below hs1 (Nat.le_refl _))
            have bb2 : Below (World.drew wr).heap.size (World.drew wr) w2 := ((Below.refl (World.drew wr).heap.size (World.drew wr)).drew.drew).trans (by exact b12)
            have b2w : Below w.heap.size w w2 := hnb.trans (bb2.mono hnb.size)
            have o2 : OutN B w2 v L us := HOb.out.next bb2
            have x2 := HXb.out.next bb2
            clear hHeld
            refine hK.out _ _ ?_ (fun hHeld => ?_)
            · exact ⟨⟨(b2w.cell (p := ⟨b, _, none⟩) hb0).trans c0w, (b2w.cell (p := ⟨b, _, none⟩) hb0).trans c1w⟩, x2.cells.1⟩
            clear hK K
            refine wpAnyH_take (i := 13) (v := ?_) rfl (by kernel_rfl) (by kernel_rfl) (by kernel_rfl) (fun _ _ _ h => h) (Or.inl ⟨by kernel_rfl, ?_⟩) (by assumption) ?_
            rotate_left
            · intro w hSw; (try dsimp only at hSw); go_simp; try with_reducible rfl
            refine wpAnyH_ready (rs := [14]) (by kernel_rfl) (by simp) ?_
            refine AllReadyH.cons rfl (fun K hK => ?_) AllReadyH.nil
            go_simp
            clear hHeld
            refine hK.out _ _ ?_ (fun hHeld => ?_)
            · exact ⟨⟨((b2w.alloc b2w.size _).cell (p := ⟨b, _, none⟩) hb0).trans c0w, ((b2w.alloc b2w.size _).cell (p := ⟨b, _, none⟩) hb0).trans c1w⟩, (x2.alloc _).cells.1⟩
            clear hK K
            have hj2 : j = (World.drew wr).heap.size ∨ j = (World.drew wr).heap.size + 1 := by rcases hj with e | e; (exact .inl e); (exact .inr (e.trans (World.size_alloc (World.drew wr) (.cells #[] 31))))
            have hjV : (World.drew wr).heap.size ≤ j := by omega
            have hjl : w.heap.size < j ∧ j < w2.heap.size := ⟨by omega, hcv.le⟩
            have eL : (w2.alloc (.cells #[.string rs, .slice qa gn qc] 48)).heap.size = w2.heap.size + 1 := World.size_alloc _ _
            have hBL : B ≤ (w2.alloc (.cells #[.string rs, .slice qa gn qc] 48)).heap.size := by have := b2w.size; omega
            have hqL := (NamK.Box2.new w2 (.string rs) (.slice qa gn qc) 48).cells
            have o3 := o2.next ((Below.refl w2.heap.size w2).alloc (Nat.le_refl _) (.cells #[.string rs, .slice qa gn qc] 48))
            have u3 : OwnT B (w2.alloc (.cells #[.string rs, .slice qa gn qc] 48)) (.slice qa gn qc) rg := own_base (hcv.alloc _).now.1 (by omega)
            refine wpAnyH_ready (rs := [15]) (by kernel_rfl) (by simp) ?_
            refine AllReadyH.cons rfl (fun K hK => ?_) AllReadyH.nil
            refine upon_moreN (B := B) (t := (rs, rg)) (u := .slice qa gn qc) _ _ (by rfl) (by rfl) o3 hBL w2.heap.size (by rfl) hqL u3 (fun y hy i hi e => by have h1 := (HOb.out.lt y hy i hi).2; rw [hjo] at e; have := Option.some.inj e; omega) (fun i hi e => by have h1 := (World.ownsRow.lt HOb.out.1 i e).2; rw [hjo] at hi; have := Option.some.inj hi; omega) hmlb ?_
            intro v4 w4 o4 hg4 hat4
            have x4 : NamK.Box2 w4 w.heap.size (.string s) (.slice xa xn xc) 48 := (hg4.block _ (x2.alloc _).lt (fun e => Nat.lt_irrefl _ (HVb.out _ e.symm))).trans (x2.alloc _)
            have b4 := (b2w.alloc b2w.size (.cells #[.string rs, .slice qa gn qc] 48)).grown hg4 (b2w.alloc b2w.size _).size (fun i hi => Nat.le_of_lt (HVb.out i hi))
            have hv4 : ∀ i, v4.ownBlock = some i → w.heap.size < i := by
              intro i hi
              rcases hat4 with e | e
              · exact HVb.out i (e ▸ hi)
              · rw [e] at hi; have h9 := Option.some.inj hi; have := b2w.size; omega
            have cell4 : ∀ p : Addr, p.block < w.heap.size → w4.cell? p = w.cell? p := fun p hp => b4.cell hp
            clear hHeld
            refine hK.out _ _ ?_ (fun hHeld => ?_)
            · exact ⟨⟨(cell4 ⟨b, _, none⟩ hb0).trans c0w, (cell4 ⟨b, _, none⟩ hb0).trans c1w⟩, x4.cells.1⟩
            clear hK K
            refine wpAnyH_take (i := 16) (v := ?_) rfl (by kernel_rfl) (by kernel_rfl) (by kernel_rfl) (fun _ _ _ h => h) (Or.inl ⟨by kernel_rfl, ?_⟩) (by assumption) ?_
            rotate_left
            · intro w hSw; (try dsimp only at hSw); go_simp; try with_reducible rfl
            refine wpAnyH_done (by kernel_rfl) ?_ _
            try simp only [Act.put, List.setIfInBounds_toArray, List.set_cons_zero, List.set_cons_succ, List.getElem_toArray, List.getElem_cons_zero, List.getElem_cons_succ]
            have I4 : Hid (PutI B w.heap.size w4 v4 false (L ++ [(rs, rg)]) (us ++ [.slice qa gn qc]) (s, g) ts (k + 1)) := Lib.hid (HI.out.copy HT.out hes (.inr hnl) o4 (fun i hi => by rw [hjo] at hi; cases hi; omega) hv4)
            have HX4 := Lib.hid x4
            clear hHeld o4 hg4 hat4 x4 hv4 cell4 x2 o2 o3 u3 b2w hcv htu HA bW HZ HI HX2 HXb HOb HVb hnb c0 c1 c0w c1w d0 d1 z0
            go_wp2_with fail
            go_roundw
            case rel => exact ⟨k + 1, _, false, _, _, by omega, by go_num, rfl, rfl, I4, HX4, b4⟩
            case measure => simp [intOf]; omega
      · go_wp2_with fail
        refine wp_region_any (by kernel_rfl) ?_
        change wpAny _ _ _ _ _ _ _ (World.drew _)
        refine wpAny_take (i := 0) (v := ?_) rfl (by kernel_rfl) (by kernel_rfl) (by kernel_rfl) (fun _ _ _ h => h) (Or.inl ⟨by kernel_rfl, ?_⟩) ?_
        rotate_left
        · intro w; go_simp; try with_reducible rfl
        refine wpAny_take (i := 1) (v := ?_) rfl (by kernel_rfl) (by kernel_rfl) (by kernel_rfl) (fun _ _ _ h => h) (Or.inl ⟨by kernel_rfl, ?_⟩) ?_
        rotate_left
        · intro w; go_simp; try with_reducible rfl
        refine wpAny_take (i := 2) (v := ?_) rfl (by kernel_rfl) (by kernel_rfl) (by kernel_rfl) (fun _ _ _ h => h) (Or.inl ⟨by kernel_rfl, ?_⟩) ?_
        rotate_left
        · intro w; go_simp; try with_reducible rfl
        refine wpAny_take (i := 3) (v := undef) rfl (by kernel_rfl) (by kernel_rfl) (by kernel_rfl) (fun _ _ _ h => h) (Or.inr ⟨by kernel_rfl, rfl⟩) ?_
        refine wpAny_take (i := 4) (v := undef) rfl (by kernel_rfl) (by kernel_rfl) (by kernel_rfl) (fun _ _ _ h => h) (Or.inr ⟨by kernel_rfl, rfl⟩) ?_
        refine wpAny_take (i := 5) (v := undef) rfl (by kernel_rfl) (by kernel_rfl) (by kernel_rfl) (fun _ _ _ h => h) (Or.inr ⟨by kernel_rfl, rfl⟩) ?_
        refine wpAny_take (i := 6) (v := undef) rfl (by kernel_rfl) (by kernel_rfl) (by kernel_rfl) (fun _ _ _ h => h) (Or.inr ⟨by kernel_rfl, rfl⟩) ?_
        refine wpAny_take (i := 7) (v := undef) rfl (by kernel_rfl) (by kernel_rfl) (by kernel_rfl) (fun _ _ _ h => h) (Or.inr ⟨by kernel_rfl, rfl⟩) ?_
        refine wpAny_take (i := 8) (v := undef) rfl (by kernel_rfl) (by kernel_rfl) (by kernel_rfl) (fun _ _ _ h => h) (Or.inr ⟨by kernel_rfl, rfl⟩) ?_
        refine wpAny_take (i := 9) (v := undef) rfl (by kernel_rfl) (by kernel_rfl) (by kernel_rfl) (fun _ _ _ h => h) (Or.inr ⟨by kernel_rfl, rfl⟩) ?_
        refine wpAny_take (i := 10) (v := undef) rfl (by kernel_rfl) (by kernel_rfl) (by kernel_rfl) (fun _ _ _ h => h) (Or.inr ⟨by kernel_rfl, rfl⟩) ?_
        refine wpAny_take (i := 11) (v := ?_) rfl (by kernel_rfl) (by kernel_rfl) (by kernel_rfl) (fun _ _ _ h => h) (Or.inl ⟨by kernel_rfl, ?_⟩) ?_
        rotate_left
        · intro w; go_simp; try with_reducible rfl
        refine wpAny_done (by kernel_rfl) ?_ _
        try simp only [Act.put, List.setIfInBounds_toArray, List.set_cons_zero, List.set_cons_succ, List.getElem_toArray, List.getElem_cons_zero, List.getElem_cons_succ]
        have HOb : Hid (OutN B (World.drew wr) v L us) := Lib.hid (by exact HI.out.1)
        have HXb : Hid (NamK.Box2 (World.drew wr) w.heap.size (.string s) (.slice xa xn xc) 48) := Lib.hid (by exact HX2.out)
        have hnb : Below w.heap.size w (World.drew wr) := hnx.drew
        have hmlb : (L).length ≤ 1048576 := by have := HML.out; omega
        have HVb : Hid (∀ j, v.ownBlock = some j → w.heap.size < j) := Lib.hid (HVB.out)
        have d0 : (World.drew wr).cell? ⟨b, off + k * 2, none⟩ = some (.string rs) := (hnb.cell (p := ⟨b, _, none⟩) hb0).trans c0w
        have d1 : (World.drew wr).cell? ⟨b, off + k * 2 + 1, none⟩ = some (.slice ga gn gc) := (hnb.cell (p := ⟨b, _, none⟩) hb0).trans c1w
        have z0 := HXb.out.cells.1
        by_cases hes : rs = s
        · have E1 := bytes_is hes
          go_wp2_with fail
          refine wp_region_held_drew (S := (fun w' => (w'.cell? ⟨b, off + k * 2, none⟩ = some (.string rs) ∧ w'.cell? ⟨b, off + k * 2 + 1, none⟩ = some (.slice ga gn gc)) ∧ w'.cell? ⟨w.heap.size, 0, none⟩ = some (.string s))) (by kernel_rfl) ?_ (fun hHeld => ?_)
          · exact ⟨⟨d0, d1⟩, z0⟩
          refine wpAnyH_take (i := 0) (v := ?_) rfl (by kernel_rfl) (by kernel_rfl) (by kernel_rfl) (fun _ _ _ h => h) (Or.inl ⟨by kernel_rfl, ?_⟩) (by assumption) ?_
          rotate_left
          · intro w hSw; (try dsimp only at hSw); go_simp; try with_reducible rfl
          refine wpAnyH_take (i := 1) (v := ?_) rfl (by kernel_rfl) (by kernel_rfl) (by kernel_rfl) (fun _ _ _ h => h) (Or.inl ⟨by kernel_rfl, ?_⟩) (by assumption) ?_
          rotate_left
          · intro w hSw; (try dsimp only at hSw); go_simp; try with_reducible rfl
          refine wpAnyH_take (i := 2) (v := ?_) rfl (by kernel_rfl) (by kernel_rfl) (by kernel_rfl) (fun _ _ _ h => h) (Or.inl ⟨by kernel_rfl, ?_⟩) (by assumption) ?_
          rotate_left
          · intro w hSw; (try dsimp only at hSw); go_simp; try with_reducible rfl
          refine wpAnyH_take (i := 3) (v := ?_) rfl (by kernel_rfl) (by kernel_rfl) (by kernel_rfl) (fun _ _ _ h => h) (Or.inl ⟨by kernel_rfl, ?_⟩) (by assumption) ?_
          rotate_left
          · intro w hSw; (try dsimp only at hSw); go_simp; try with_reducible rfl
          refine wpAnyH_take (i := 4) (v := ?_) rfl (by kernel_rfl) (by kernel_rfl) (by kernel_rfl) (fun _ _ _ h => h) (Or.inl ⟨by kernel_rfl, ?_⟩) (by assumption) ?_
          rotate_left
          · intro w hSw; (try dsimp only at hSw); go_simp; try with_reducible rfl
          refine wpAnyH_take (i := 5) (v := ?_) rfl (by kernel_rfl) (by kernel_rfl) (by kernel_rfl) (fun _ _ _ h => h) (Or.inl ⟨by kernel_rfl, ?_⟩) (by assumption) ?_
          rotate_left
          · intro w hSw; (try dsimp only at hSw); go_simp; try with_reducible rfl
          refine wpAnyH_take (i := 6) (v := ?_) rfl (by kernel_rfl) (by kernel_rfl) (by kernel_rfl) (fun _ _ _ h => h) (Or.inl ⟨by kernel_rfl, ?_⟩) (by assumption) ?_
          rotate_left
          · intro w hSw; (try dsimp only at hSw); go_simp; try with_reducible rfl
          refine wpAnyH_take (i := 7) (v := ?_) rfl (by kernel_rfl) (by kernel_rfl) (by kernel_rfl) (fun _ _ _ h => h) (Or.inl ⟨by kernel_rfl, ?_⟩) (by assumption) ?_
          rotate_left
          · intro w hSw; (try dsimp only at hSw); go_simp; try with_reducible rfl
          refine wpAnyH_done (by kernel_rfl) ?_ _
          try simp only [Act.put, List.setIfInBounds_toArray, List.set_cons_zero, List.set_cons_succ, List.getElem_toArray, List.getElem_cons_zero, List.getElem_cons_succ]
          have I4 : Hid (PutI B w.heap.size (World.drew (World.drew wr)) v true L us (s, g) ts (k + 1)) := Lib.hid (PutI.skip (by exact HI.out) HT.out hes (.inl rfl))
          have HX4 : Hid (NamK.Box2 (World.drew (World.drew wr)) w.heap.size (.string s) (.slice xa xn xc) 48) := HX2
          have b4 := hnb.drew
          clear hHeld HI HX2 HXb HOb HVb hnb c0 c1 c0w c1w d0 d1 z0 HZ
          go_wp2_with fail
          go_roundw
          case rel => exact ⟨k + 1, _, true, _, _, by omega, by go_num, rfl, rfl, I4, HX4, b4⟩
          case measure => simp [intOf]; omega
        · have E1 := bytes_not hes
          go_wp2_with fail
          refine wp_region_held_drew (S := (fun w' => (w'.cell? ⟨b, off + k * 2, none⟩ = some (.string rs) ∧ w'.cell? ⟨b, off + k * 2 + 1, none⟩ = some (.slice ga gn gc)) ∧ w'.cell? ⟨w.heap.size, 0, none⟩ = some (.string s))) (by kernel_rfl) ?_ (fun hHeld => ?_)
          · exact ⟨⟨d0, d1⟩, z0⟩
          refine wpAnyH_take (i := 0) (v := ?_) rfl (by kernel_rfl) (by kernel_rfl) (by kernel_rfl) (fun _ _ _ h => h) (Or.inl ⟨by kernel_rfl, ?_⟩) (by assumption) ?_
          rotate_left
          · intro w hSw; (try dsimp only at hSw); go_simp; try with_reducible rfl
          refine wpAnyH_take (i := 1) (v := ?_) rfl (by kernel_rfl) (by kernel_rfl) (by kernel_rfl) (fun _ _ _ h => h) (Or.inl ⟨by kernel_rfl, ?_⟩) (by assumption) ?_
          rotate_left
          · intro w hSw; (try dsimp only at hSw); go_simp; try with_reducible rfl
          refine wpAnyH_take (i := 2) (v := ?_) rfl (by kernel_rfl) (by kernel_rfl) (by kernel_rfl) (fun _ _ _ h => h) (Or.inl ⟨by kernel_rfl, ?_⟩) (by assumption) ?_
          rotate_left
          · intro w hSw; (try dsimp only at hSw); go_simp; try with_reducible rfl
          refine wpAnyH_take (i := 3) (v := ?_) rfl (by kernel_rfl) (by kernel_rfl) (by kernel_rfl) (fun _ _ _ h => h) (Or.inl ⟨by kernel_rfl, ?_⟩) (by assumption) ?_
          rotate_left
          · intro w hSw; (try dsimp only at hSw); go_simp; try with_reducible rfl
          refine wpAnyH_take (i := 4) (v := ?_) rfl (by kernel_rfl) (by kernel_rfl) (by kernel_rfl) (fun _ _ _ h => h) (Or.inl ⟨by kernel_rfl, ?_⟩) (by assumption) ?_
          rotate_left
          · intro w hSw; (try dsimp only at hSw); go_simp; try with_reducible rfl
          refine wpAnyH_take (i := 5) (v := ?_) rfl (by kernel_rfl) (by kernel_rfl) (by kernel_rfl) (fun _ _ _ h => h) (Or.inl ⟨by kernel_rfl, ?_⟩) (by assumption) ?_
          rotate_left
          · intro w hSw; (try dsimp only at hSw); go_simp; try with_reducible rfl
          refine wpAnyH_take (i := 6) (v := ?_) rfl (by kernel_rfl) (by kernel_rfl) (by kernel_rfl) (fun _ _ _ h => h) (Or.inl ⟨by kernel_rfl, ?_⟩) (by assumption) ?_
          rotate_left
          · intro w hSw; (try dsimp only at hSw); go_simp; try with_reducible rfl
          refine wpAnyH_take (i := 7) (v := ?_) rfl (by kernel_rfl) (by kernel_rfl) (by kernel_rfl) (fun _ _ _ h => h) (Or.inl ⟨by kernel_rfl, ?_⟩) (by assumption) ?_
          rotate_left
          · intro w hSw; (try dsimp only at hSw); go_simp; try with_reducible rfl
          refine wpAnyH_done (by kernel_rfl) ?_ _
          try simp only [Act.put, List.setIfInBounds_toArray, List.set_cons_zero, List.set_cons_succ, List.getElem_toArray, List.getElem_cons_zero, List.getElem_cons_succ]
          go_wp2_with fail
          have hxb : w.heap.size < (World.drew wr).heap.size := HXb.out.lt
          have bW : Below w.heap.size w (World.alloc (World.drew (World.drew (World.drew wr))) (.cells #[] 31)) := (hnb.drew.drew).alloc (by exact hnb.size) _
          have HA := Lib.hid (cells_new (World.drew (World.drew (World.drew wr))) #[] 31).now
          refine wp_region_held_drew (S := (fun w' => (w'.cell? ⟨b, off + k * 2, none⟩ = some (.string rs) ∧ w'.cell? ⟨b, off + k * 2 + 1, none⟩ = some (.slice ga gn gc)) ∧ w'.cell? ⟨w.heap.size, 0, none⟩ = some (.string s))) (by kernel_rfl) ?_ (fun hHeld => ?_)
          · exact ⟨⟨d0, d1⟩, z0⟩
          refine wpAnyH_take (i := 0) (v := ?_) rfl (by kernel_rfl) (by kernel_rfl) (by kernel_rfl) (fun _ _ _ h => h) (Or.inl ⟨by kernel_rfl, ?_⟩) (by assumption) ?_
          rotate_left
          · intro w hSw; (try dsimp only at hSw); go_simp; try with_reducible rfl
          refine wpAnyH_take (i := 1) (v := ?_) rfl (by kernel_rfl) (by kernel_rfl) (by kernel_rfl) (fun _ _ _ h => h) (Or.inl ⟨by kernel_rfl, ?_⟩) (by assumption) ?_
          rotate_left
          · intro w hSw; (try dsimp only at hSw); go_simp; try with_reducible rfl
          refine wpAnyH_take (i := 2) (v := ?_) rfl (by kernel_rfl) (by kernel_rfl) (by kernel_rfl) (fun _ _ _ h => h) (Or.inl ⟨by kernel_rfl, ?_⟩) (by assumption) ?_
          rotate_left
          · intro w hSw; (try dsimp only at hSw); go_simp; try with_reducible rfl
          refine wpAnyH_take (i := 3) (v := ?_) rfl (by kernel_rfl) (by kernel_rfl) (by kernel_rfl) (fun _ _ _ h => h) (Or.inl ⟨by kernel_rfl, ?_⟩) (by assumption) ?_
          rotate_left
          · intro w hSw; (try dsimp only at hSw); go_simp; try with_reducible rfl
          refine wpAnyH_take (i := 4) (v := ?_) rfl (by kernel_rfl) (by kernel_rfl) (by kernel_rfl) (fun _ _ _ h => h) (Or.inl ⟨by kernel_rfl, ?_⟩) (by assumption) ?_
          rotate_left
          · intro w hSw; (try dsimp only at hSw); go_simp; try with_reducible rfl
          refine wpAnyH_take (i := 5) (v := ?_) rfl (by kernel_rfl) (by kernel_rfl) (by kernel_rfl) (fun _ _ _ h => h) (Or.inl ⟨by kernel_rfl, ?_⟩) (by assumption) ?_
          rotate_left
          · intro w hSw; (try dsimp only at hSw); go_simp; try with_reducible rfl
          refine wpAnyH_take (i := 7) (v := ?_) rfl (by kernel_rfl) (by kernel_rfl) (by kernel_rfl) (fun _ _ _ h => h) (Or.inl ⟨by kernel_rfl, ?_⟩) (by assumption) ?_
          rotate_left
          · intro w hSw; (try dsimp only at hSw); go_simp; try with_reducible rfl
          refine wpAnyH_take (i := 8) (v := ?_) rfl (by kernel_rfl) (by kernel_rfl) (by kernel_rfl) (fun _ _ _ h => h) (Or.inl ⟨by kernel_rfl, ?_⟩) (by assumption) ?_
          rotate_left
          · intro w hSw; (try dsimp only at hSw); go_simp; try with_reducible rfl
          refine wpAnyH_take (i := 9) (v := ?_) rfl (by kernel_rfl) (by kernel_rfl) (by kernel_rfl) (fun _ _ _ h => h) (Or.inl ⟨by kernel_rfl, ?_⟩) (by assumption) ?_
          rotate_left
          · intro w hSw; (try dsimp only at hSw); go_simp; try with_reducible rfl
          refine wpAnyH_take (i := 10) (v := ?_) rfl (by kernel_rfl) (by kernel_rfl) (by kernel_rfl) (fun _ _ _ h => h) (Or.inl ⟨by kernel_rfl, ?_⟩) (by assumption) ?_
          rotate_left
          · intro w hSw; (try dsimp only at hSw); go_simp; try with_reducible rfl
          refine wpAnyH_take (i := 11) (v := ?_) rfl (by kernel_rfl) (by kernel_rfl) (by kernel_rfl) (fun _ _ _ h => h) (Or.inl ⟨by kernel_rfl, ?_⟩) (by assumption) ?_
          rotate_left
          · intro w hSw; (try dsimp only at hSw); go_simp; try with_reducible rfl
          refine wpAnyH_ready (rs := [6]) (by kernel_rfl) (by simp) ?_
          refine AllReadyH.cons rfl (fun K hK => ?_) AllReadyH.nil
          go_simp
          clear hHeld
          refine hK.out _ _ ?_ (fun hHeld => ?_)
          · exact ⟨⟨(bW.cell (p := ⟨b, _, none⟩) hb0).trans c0w, (bW.cell (p := ⟨b, _, none⟩) hb0).trans c1w⟩, ((HXb.out.next ((Below.refl _ _).drew.drew)).alloc _).cells.1⟩
          clear hK K
          refine wpAnyH_ready (rs := [12]) (by kernel_rfl) (by simp) ?_
          refine AllReadyH.cons rfl (fun K hK => ?_) AllReadyH.nil
          refine upon_copyN _ _ (by rfl) _ (by rfl) HA.out ga gn gc rg (by rfl) (HZ.out.next bW) (by omega) ?_
          intro cv w2 j hj hjo hcv htu
          obtain ⟨qa, qc, hqe⟩ := own_slice_len hcv.now.1
          rw [hgn] at hqe
          subst hqe
          have hs1 : (World.drew (World.drew (World.drew wr))).heap.size ≤ (World.alloc (World.drew (World.drew (World.drew wr))) (.cells #[] 31)).heap.size := by rw [World.size_alloc]; exact Nat.le_succ _
          have b12 : Below (World.drew (World.drew (World.drew wr))).heap.size (World.drew (World.drew (World.drew wr))) w2 := ((Below.refl (World.drew (World.drew (World.drew wr))).heap.size (World.drew (World.drew (World.drew wr)))).alloc (Nat.le_refl _) _).trans (htu.below hs1 (Nat.le_refl _))
          have bb2 : Below (World.drew wr).heap.size (World.drew wr) w2 := ((Below.refl (World.drew wr).heap.size (World.drew wr)).drew.drew).trans (by exact b12)
          have b2w : Below w.heap.size w w2 := hnb.trans (bb2.mono hnb.size)
          have o2 : OutN B w2 v L us := HOb.out.next bb2
          have x2 := HXb.out.next bb2
          clear hHeld
          refine hK.out _ _ ?_ (fun hHeld => ?_)
          · exact ⟨⟨(b2w.cell (p := ⟨b, _, none⟩) hb0).trans c0w, (b2w.cell (p := ⟨b, _, none⟩) hb0).trans c1w⟩, x2.cells.1⟩
          clear hK K
          refine wpAnyH_take (i := 13) (v := ?_) rfl (by kernel_rfl) (by kernel_rfl) (by kernel_rfl) (fun _ _ _ h => h) (Or.inl ⟨by kernel_rfl, ?_⟩) (by assumption) ?_
          rotate_left
          · intro w hSw; (try dsimp only at hSw); go_simp; try with_reducible rfl
          refine wpAnyH_ready (rs := [14]) (by kernel_rfl) (by simp) ?_
          refine AllReadyH.cons rfl (fun K hK => ?_) AllReadyH.nil
          go_simp
          clear hHeld
          refine hK.out _ _ ?_ (fun hHeld => ?_)
          · exact ⟨⟨((b2w.alloc b2w.size _).cell (p := ⟨b, _, none⟩) hb0).trans c0w, ((b2w.alloc b2w.size _).cell (p := ⟨b, _, none⟩) hb0).trans c1w⟩, (x2.alloc _).cells.1⟩
          clear hK K
          have hj2 : j = (World.drew wr).heap.size ∨ j = (World.drew wr).heap.size + 1 := by rcases hj with e | e; (exact .inl e); (exact .inr (e.trans (World.size_alloc (World.drew wr) (.cells #[] 31))))
          have hjV : (World.drew wr).heap.size ≤ j := by omega
          have hjl : w.heap.size < j ∧ j < w2.heap.size := ⟨by omega, hcv.le⟩
          have eL : (w2.alloc (.cells #[.string rs, .slice qa gn qc] 48)).heap.size = w2.heap.size + 1 := World.size_alloc _ _
          have hBL : B ≤ (w2.alloc (.cells #[.string rs, .slice qa gn qc] 48)).heap.size := by have := b2w.size; omega
          have hqL := (NamK.Box2.new w2 (.string rs) (.slice qa gn qc) 48).cells
          have o3 := o2.next ((Below.refl w2.heap.size w2).alloc (Nat.le_refl _) (.cells #[.string rs, .slice qa gn qc] 48))
          have u3 : OwnT B (w2.alloc (.cells #[.string rs, .slice qa gn qc] 48)) (.slice qa gn qc) rg := own_base (hcv.alloc _).now.1 (by omega)
          refine wpAnyH_ready (rs := [15]) (by kernel_rfl) (by simp) ?_
          refine AllReadyH.cons rfl (fun K hK => ?_) AllReadyH.nil
          refine upon_moreN (B := B) (t := (rs, rg)) (u := .slice qa gn qc) _ _ (by rfl) (by rfl) o3 hBL w2.heap.size (by rfl) hqL u3 (fun y hy i hi e => by have h1 := (HOb.out.lt y hy i hi).2; rw [hjo] at e; have := Option.some.inj e; omega) (fun i hi e => by have h1 := (World.ownsRow.lt HOb.out.1 i e).2; rw [hjo] at hi; have := Option.some.inj hi; omega) hmlb ?_
          intro v4 w4 o4 hg4 hat4
          have x4 : NamK.Box2 w4 w.heap.size (.string s) (.slice xa xn xc) 48 := (hg4.block _ (x2.alloc _).lt (fun e => Nat.lt_irrefl _ (HVb.out _ e.symm))).trans (x2.alloc _)
          have b4 := (b2w.alloc b2w.size (.cells #[.string rs, .slice qa gn qc] 48)).grown hg4 (b2w.alloc b2w.size _).size (fun i hi => Nat.le_of_lt (HVb.out i hi))
          have hv4 : ∀ i, v4.ownBlock = some i → w.heap.size < i := by
            intro i hi
            rcases hat4 with e | e
            · exact HVb.out i (e ▸ hi)
            · rw [e] at hi; have h9 := Option.some.inj hi; have := b2w.size; omega
          have cell4 : ∀ p : Addr, p.block < w.heap.size → w4.cell? p = w.cell? p := fun p hp => b4.cell hp
          clear hHeld
          refine hK.out _ _ ?_ (fun hHeld => ?_)
          · exact ⟨⟨(cell4 ⟨b, _, none⟩ hb0).trans c0w, (cell4 ⟨b, _, none⟩ hb0).trans c1w⟩, x4.cells.1⟩
          clear hK K
          refine wpAnyH_take (i := 16) (v := ?_) rfl (by kernel_rfl) (by kernel_rfl) (by kernel_rfl) (fun _ _ _ h => h) (Or.inl ⟨by kernel_rfl, ?_⟩) (by assumption) ?_
          rotate_left
          · intro w hSw; (try dsimp only at hSw); go_simp; try with_reducible rfl
          refine wpAnyH_done (by kernel_rfl) ?_ _
          try simp only [Act.put, List.setIfInBounds_toArray, List.set_cons_zero, List.set_cons_succ, List.getElem_toArray, List.getElem_cons_zero, List.getElem_cons_succ]
          have I4 : Hid (PutI B w.heap.size w4 v4 true (L ++ [(rs, rg)]) (us ++ [.slice qa gn qc]) (s, g) ts (k + 1)) := Lib.hid (HI.out.copy HT.out hes (.inl rfl) o4 (fun i hi => by rw [hjo] at hi; cases hi; omega) hv4)
          have HX4 := Lib.hid x4
          clear hHeld o4 hg4 hat4 x4 hv4 cell4 x2 o2 o3 u3 b2w hcv htu HA bW HZ HI HX2 HXb HOb HVb hnb c0 c1 c0w c1w d0 d1 z0
          go_wp2_with fail
          go_roundw
          case rel => exact ⟨k + 1, _, true, _, _, by omega, by go_num, rfl, rfl, I4, HX4, b4⟩
          case measure => simp [intOf]; omega
    · obtain rfl : k = len := by omega
      have HF : Hid (L ++ putGo (s, g) d [] = putNam ts (s, g)) := Lib.hid (by
        have := HI.out.2.1
        rwa [List.drop_of_length_le (by rw [HL.out]; exact Nat.le_refl _)] at this)
      have HML := Lib.hid (HI.out.most HTL.out)
      have HVB : Hid (∀ j, v.ownBlock = some j → w.heap.size < j) := Lib.hid HI.out.2.2.2
      have HXL : Hid (∀ j, (Value.slice xa xn xc).ownBlock = some j → j < w.heap.size) := Lib.hid (fun j hj => (World.ownsRow.lt HX.out j hj).2)
      have HXO : Hid (OwnT B wr (.slice xa xn xc) g) := Lib.hid (ownTN_kept HX.out hnx)
      have hxw : w.heap.size < wr.heap.size := HX2.out.lt
      obtain ⟨x0, x1⟩ := HX2.out.cells
      cases d
      · have HBa : B ≤ (wr.alloc (.cells #[.string s, .slice xa xn xc] 48)).heap.size := by rw [World.size_alloc]; omega
        have bLa : Below wr.heap.size wr (wr.alloc (.cells #[.string s, .slice xa xn xc] 48)) := (Below.refl _ _).alloc (Nat.le_refl _) _
        have qa := (NamK.Box2.new wr (.string s) (.slice xa xn xc) 48).cells
        go_wp2_with (at_builtin; go_loud (refine wpList_moreN (B := B) (t := (s, g)) (u := .slice xa xn xc) (L := L) (us := us) rfl _ _ rfl rfl (HI.out.1.next bLa) HBa wr.heap.size rfl qa (ownTN_kept HXO.out bLa) (fun y hy j hj e => by have h1 := HI.out.2.2.1 rfl y hy j hj; have h2 := HXL.out j e; omega) (fun j hj e => by have h1 := HVB.out j e; have h2 := HXL.out j hj; omega) (by have := HML.out; omega) ?_))
        intro v5 w5 o5 hg5 hat5
        have n5 : Below w.heap.size w w5 := (hnx.trans (bLa.mono hnx.size)).grown hg5 (hnx.trans (bLa.mono hnx.size)).size (fun i hi => Nat.le_of_lt (HVB.out i hi))
        have e5 : L ++ [(s, g)] = putNam ts (s, g) := HF.out
        rw [e5] at o5
        have HO5 := Lib.hid o5.own
        clear o5 hg5 hat5
        go_wp2_with fail
        go_ret
        exact ⟨_, rfl, HO5.out, n5⟩
      · have e5 : L = putNam ts (s, g) := by rw [← HF.out]; simp [putGo]
        have HO5 : Hid (OwnNs B wr v (putNam ts (s, g))) := Lib.hid (by rw [← e5]; exact HI.out.1.own)
        go_wp2_with fail
        go_ret
        exact ⟨_, rfl, HO5.out, hnx⟩
end Go.Proofs.YtkcbgppplgkkbaaGreat
/- The contracts of the functions on triples: their texts, and which is ahead. -/
namespace Go.Proofs.YtkcbgppplgkkbaaGreat
open Go.RowKit
def triText (s p o : List UInt8) : List UInt8 := if triOk s p o then s ++ 32 :: (p ++ 32 :: (o ++ [32, 46])) else []
theorem join_text (s p o : ByteArray) : s ++ { data := #[32] } ++ p ++ { data := #[32] } ++ o ++ { data := #[32, 46] } = bs (s.data.toList ++ 32 :: (p.data.toList ++ 32 :: (o.data.toList ++ [32, 46]))) := by
  apply bs_eq
  simp
theorem less_irrefl : ∀ a : List UInt8, Op.bytesLess a a = false
  | [] => rfl
  | x :: r => by simp [Op.bytesLess, less_irrefl r]
theorem less_asymm : ∀ a b : List UInt8, Op.bytesLess a b = true → Op.bytesLess b a = false
  | _, [], h => by simp [Op.bytesLess] at h
  | [], _ :: _, _ => by simp [Op.bytesLess]
  | x :: r, y :: q, h => by
    simp only [Op.bytesLess, Bool.or_eq_true, Bool.and_eq_true, decide_eq_true_eq, beq_iff_eq] at h
    simp only [Op.bytesLess, Bool.or_eq_false_iff, Bool.and_eq_false_iff, decide_eq_false_iff_not, beq_eq_false_iff_ne]
    rcases h with h | ⟨rfl, h⟩
    · refine ⟨?_, .inl ?_⟩
      · rw [UInt8.lt_iff_toNat_lt] at h ⊢; omega
      · rintro rfl; rw [UInt8.lt_iff_toNat_lt] at h; omega
    · exact ⟨by rw [UInt8.lt_iff_toNat_lt]; omega, .inr (less_asymm r q h)⟩
theorem less_total : ∀ a b : List UInt8, a ≠ b → Op.bytesLess a b = true ∨ Op.bytesLess b a = true
  | [], [], h => absurd rfl h
  | [], _ :: _, _ => by simp [Op.bytesLess]
  | _ :: _, [], _ => by simp [Op.bytesLess]
  | x :: r, y :: q, h => by
    simp only [Op.bytesLess, Bool.or_eq_true, Bool.and_eq_true, decide_eq_true_eq, beq_iff_eq]
    by_cases e : x = y
    · subst e
      have := less_total r q (fun g => h (by rw [g]))
      rcases this with g | g
      · exact .inl (.inr ⟨rfl, g⟩)
      · exact .inr (.inr ⟨rfl, g⟩)
    · have : x.toNat ≠ y.toNat := fun g => e (UInt8.toNat.inj g)
      rw [UInt8.lt_iff_toNat_lt, UInt8.lt_iff_toNat_lt]
      omega
theorem ahead_both (s p o s' p' o' : List UInt8) : (aheadL s p o s' p' o' && aheadL s' p' o' s p o) = false := by
  unfold aheadL
  have key : ∀ a b : List UInt8, (Op.bytesLess a b && Op.bytesLess b a) = false := by
    intro a b
    cases h : Op.bytesLess a b
    · rfl
    · rw [less_asymm a b h]; rfl
  by_cases h1 : s = s'
  · subst h1
    by_cases h2 : p = p'
    · subst h2; simp [key]
    · simp [h2, Ne.symm h2, key]
  · simp [h1, Ne.symm h1, key]
theorem ahead_one (s p o s' p' o' : List UInt8) : (aheadL s p o s' p' o' || aheadL s' p' o' s p o) = !(s == s' && (p == p' && o == o')) := by
  unfold aheadL
  have key : ∀ a b : List UInt8, (Op.bytesLess a b || Op.bytesLess b a) = !(a == b) := by
    intro a b
    by_cases h : a = b
    · subst h; simp [less_irrefl]
    · have e : (a == b) = false := by simpa using h
      rw [e]
      rcases less_total a b h with g | g <;> simp [g]
  by_cases h1 : s = s'
  · subst h1
    by_cases h2 : p = p'
    · subst h2; simp [key]
    · simp [h2, Ne.symm h2, key]
  · simp [h1, Ne.symm h1, key]
end Go.Proofs.YtkcbgppplgkkbaaGreat
/- Triples put in order: plain facts on lists. -/
namespace Go.Proofs.YtkcbgppplgkkbaaGreat
theorem less_trans : ∀ a b c : List UInt8, Op.bytesLess a b = true → Op.bytesLess b c = true → Op.bytesLess a c = true
  | _, b, [], _, h => by cases b <;> simp [Op.bytesLess] at h
  | a, [], _ :: _, h, _ => by cases a <;> simp [Op.bytesLess] at h
  | [], _ :: _, _ :: _, _, _ => by simp [Op.bytesLess]
  | x :: r, y :: q, z :: s, h1, h2 => by
    simp only [Op.bytesLess, Bool.or_eq_true, Bool.and_eq_true, decide_eq_true_eq, beq_iff_eq] at h1 h2 ⊢
    rcases h1 with h1 | ⟨rfl, h1⟩
    · rcases h2 with h2 | ⟨rfl, h2⟩
      · exact .inl (by rw [UInt8.lt_iff_toNat_lt] at *; omega)
      · exact .inl h1
    · rcases h2 with h2 | ⟨rfl, h2⟩
      · exact .inl h2
      · exact .inr ⟨rfl, less_trans r q s h1 h2⟩
theorem less_ne {a b : List UInt8} (h : Op.bytesLess a b = true) : a ≠ b := by
  rintro rfl
  rw [less_irrefl] at h
  cases h
theorem aheadL_iff (s p o s' p' o' : List UInt8) : aheadL s p o s' p' o' = true ↔ Op.bytesLess s s' = true ∨ (s = s' ∧ (Op.bytesLess p p' = true ∨ (p = p' ∧ Op.bytesLess o o' = true))) := by
  unfold aheadL
  by_cases h1 : s = s'
  · subst h1
    by_cases h2 : p = p'
    · subst h2; simp [less_irrefl]
    · simp [h2, less_irrefl]
  · simp [h1]
theorem aheadT_irrefl (t : Tri3) : aheadT t t = false := by
  unfold aheadT aheadL; simp [less_irrefl]
theorem aheadT_trans {a b c : Tri3} (h1 : aheadT a b = true) (h2 : aheadT b c = true) : aheadT a c = true := by
  unfold aheadT at *
  rw [aheadL_iff] at *
  rcases h1 with h1 | ⟨e1, h1⟩
  · rcases h2 with h2 | ⟨e2, h2⟩
    · exact .inl (less_trans _ _ _ h1 h2)
    · exact .inl (by rw [← e2]; exact h1)
  · rcases h2 with h2 | ⟨e2, h2⟩
    · exact .inl (by rw [e1]; exact h2)
    · refine .inr ⟨e1.trans e2, ?_⟩
      rcases h1 with h1 | ⟨f1, h1⟩
      · rcases h2 with h2 | ⟨f2, h2⟩
        · exact .inl (less_trans _ _ _ h1 h2)
        · exact .inl (by rw [← f2]; exact h1)
      · rcases h2 with h2 | ⟨f2, h2⟩
        · exact .inl (by rw [f1]; exact h2)
        · exact .inr ⟨f1.trans f2, less_trans _ _ _ h1 h2⟩
theorem aheadT_asymm {a b : Tri3} (h : aheadT a b = true) : aheadT b a = false := by
  cases g : aheadT b a
  · rfl
  · have := aheadT_trans h g
    rw [aheadT_irrefl] at this
    cases this
theorem aheadT_one {a b : Tri3} (h : aheadT a b = false) (g : aheadT b a = false) : a = b := by
  have := ahead_one a.1.data.toList a.2.1.data.toList a.2.2.data.toList b.1.data.toList b.2.1.data.toList b.2.2.data.toList
  unfold aheadT at h g
  rw [h, g] at this
  simp only [Bool.or_self, Bool.false_eq, Bool.not_eq_false', Bool.and_eq_true, beq_iff_eq] at this
  obtain ⟨a1, a2, a3⟩ := a
  obtain ⟨b1, b2, b3⟩ := b
  obtain ⟨e1, e2, e3⟩ := this
  have e1 := data_inj e1
  have e2 := data_inj e2
  have e3 := data_inj e3
  simp only at e1 e2 e3
  rw [e1, e2, e3]
theorem aheadT_ne {a b : Tri3} (h : aheadT a b = true) : a ≠ b := by
  rintro rfl
  rw [aheadT_irrefl] at h
  cases h
/-- Each ahead of all that stand behind it. -/
def Rising (ts : List Tri3) : Prop := ts.Pairwise (fun a b => aheadT a b = true)
theorem rising_of_upto {ts : List Tri3} (h : gUpto okT aheadT ts ts.length = true) : Rising ts := by
  have adj : ∀ k, (hk : k + 1 < ts.length) → aheadT ts[k] ts[k + 1] = true := by
    intro k hk
    have := List.all_eq_true.1 h (k + 1) (List.mem_range.2 hk)
    rw [gAt_next (t := ts[k + 1]) (u := ts[k]) (by omega) (List.getElem?_eq_getElem hk) (List.getElem?_eq_getElem (by omega))] at this
    simp only [Bool.and_eq_true] at this
    exact this.2
  unfold Rising
  rw [List.pairwise_iff_getElem]
  intro i j hi hj hij
  induction j with
  | zero => omega
  | succ j ih =>
    rcases Nat.lt_or_ge i j with g | g
    · exact aheadT_trans (ih (by omega) g) (adj j hj)
    · obtain rfl : i = j := by omega
      exact adj i hj
theorem upto_of_rising {ts : List Tri3} (ho : ∀ t ∈ ts, okT t = true) (hr : Rising ts) : gUpto okT aheadT ts ts.length = true := by
  unfold Rising at hr
  rw [List.pairwise_iff_getElem] at hr
  refine List.all_eq_true.2 fun i hi => ?_
  have hi := List.mem_range.1 hi
  have hoi : okT ts[i] = true := ho _ (List.getElem_mem hi)
  rcases Nat.eq_zero_or_pos i with rfl | h0
  · rw [gAt_zero (List.getElem?_eq_getElem hi)]; exact hoi
  · rw [gAt_next (t := ts[i]) (u := ts[i - 1]) h0 (List.getElem?_eq_getElem hi) (List.getElem?_eq_getElem (by omega)), hoi, hr (i - 1) i (by omega) hi (by omega)]; rfl
theorem graphOk_iff {ts : List Tri3} : graphOk ts = true ↔ ts.length ≤ 80 ∧ (∀ t ∈ ts, okT t = true) ∧ Rising ts := by
  unfold graphOk
  rw [Bool.and_eq_true, decide_eq_true_eq]
  exact ⟨fun ⟨h1, h2⟩ => ⟨h1, gUpto_mem h2, rising_of_upto h2⟩, fun ⟨h1, h2, h3⟩ => ⟨h1, upto_of_rising h2 h3⟩⟩
theorem Rising.nodup {ts : List Tri3} (h : Rising ts) : ts.Nodup := List.Pairwise.imp (fun h => aheadT_ne h) h
theorem eq_of_rising {a b : List Tri3} (ha : Rising a) (hb : Rising b) (h : ∀ t, t ∈ a ↔ t ∈ b) : a = b :=
  List.Perm.eq_of_pairwise (le := fun x y => aheadT x y = true) (fun x y _ _ h1 h2 => by rw [aheadT_asymm h1] at h2; cases h2) ha hb ((List.perm_ext_iff_of_nodup ha.nodup hb.nodup).2 h)
/-- How many are ahead of t, from the front on. -/
def atT (t : Tri3) : List Tri3 → Nat
  | [] => 0
  | u :: r => if aheadT u t = true then atT t r + 1 else 0
theorem atT_le (t : Tri3) : ∀ g : List Tri3, atT t g ≤ g.length
  | [] => Nat.le_refl _
  | u :: r => by unfold atT; have := atT_le t r; split <;> simp <;> omega
theorem atT_ahead {t u : Tri3} : ∀ {g : List Tri3} {i : Nat}, i < atT t g → g[i]? = some u → aheadT u t = true
  | [], i, h, _ => by simp [atT] at h
  | v :: r, i, h, hu => by
    unfold atT at h
    split at h
    · rename_i hv
      cases i with
      | zero => simp at hu; rw [← hu]; exact hv
      | succ i => exact atT_ahead (g := r) (i := i) (by omega) (by simpa using hu)
    · omega
theorem atT_stop {t u : Tri3} : ∀ {g : List Tri3}, g[atT t g]? = some u → aheadT u t = false
  | [], h => by simp at h
  | v :: r, h => by
    unfold atT at h
    split at h
    · exact atT_stop (g := r) (by simpa using h)
    · rename_i hv
      simp at h
      rw [← h]; simpa using hv
theorem atT_is {t : Tri3} {g : List Tri3} {k : Nat} (h1 : ∀ i u, i < k → g[i]? = some u → aheadT u t = true) (hk : k ≤ g.length) (h2 : ∀ u, g[k]? = some u → aheadT u t = false) : atT t g = k := by
  rcases Nat.lt_trichotomy (atT t g) k with h | h | h
  · have e : g[atT t g]? = some g[atT t g] := List.getElem?_eq_getElem (by omega)
    have := h1 _ _ h e
    rw [atT_stop e] at this
    cases this
  · exact h
  · have hl := atT_le t g
    have e : g[k]? = some g[k] := List.getElem?_eq_getElem (by omega)
    have := h2 _ e
    rw [atT_ahead h e] at this
    cases this
/-- Triples in order, with one more. -/
def putT (g : List Tri3) (t : Tri3) : List Tri3 := if g[atT t g]? = some t then g else g.take (atT t g) ++ t :: g.drop (atT t g)
theorem putT_here {g : List Tri3} {t : Tri3} (h : g[atT t g]? = some t) : putT g t = g := by unfold putT; rw [if_pos h]
theorem putT_new {g : List Tri3} {t : Tri3} (h : g[atT t g]? ≠ some t) : putT g t = g.take (atT t g) ++ t :: g.drop (atT t g) := by unfold putT; rw [if_neg h]
theorem putT_len (g : List Tri3) (t : Tri3) : (putT g t).length ≤ g.length + 1 := by
  unfold putT
  split
  · omega
  · have := atT_le t g
    simp only [List.length_append, List.length_take, List.length_cons, List.length_drop]
    omega
theorem putT_mem {g : List Tri3} {t u : Tri3} : u ∈ putT g t ↔ u = t ∨ u ∈ g := by
  unfold putT
  split
  · rename_i h
    refine ⟨.inr, fun h' => ?_⟩
    rcases h' with rfl | h'
    · exact List.mem_of_getElem? h
    · exact h'
  · rw [List.mem_append, List.mem_cons]
    constructor
    · rintro (h | h | h)
      · exact .inr (List.mem_of_mem_take h)
      · exact .inl h
      · exact .inr (List.mem_of_mem_drop h)
    · rintro (h | h)
      · exact .inr (.inl h)
      · have := List.take_append_drop (atT t g) g
        rw [← this] at h
        rcases List.mem_append.1 h with h | h
        · exact .inl h
        · exact .inr (.inr h)
theorem putT_rising {g : List Tri3} {t : Tri3} (hr : Rising g) : Rising (putT g t) := by
  unfold putT
  split
  · exact hr
  · rename_i hn
    have hl := atT_le t g
    have hsplit : Rising (g.take (atT t g) ++ g.drop (atT t g)) := by rw [List.take_append_drop]; exact hr
    obtain ⟨p1, p2, p3⟩ := List.pairwise_append.1 hsplit
    have q1 : ∀ u ∈ g.take (atT t g), aheadT u t = true := by
      intro u hu
      obtain ⟨i, hi⟩ := List.mem_iff_getElem?.1 hu
      have hil := (List.getElem?_eq_some_iff.1 hi).1
      rw [List.length_take] at hil
      rw [List.getElem?_take_of_lt (by omega)] at hi
      exact atT_ahead (by omega) hi
    have q2 : ∀ u ∈ g.drop (atT t g), aheadT t u = true := by
      intro u hu
      rcases Nat.lt_or_ge (atT t g) g.length with h | h
      · have e : g[atT t g]? = some g[atT t g] := List.getElem?_eq_getElem h
        have hv : aheadT t g[atT t g] = true := by
          cases hq : aheadT t g[atT t g]
          · exact absurd (by rw [e, aheadT_one (atT_stop e) hq]) hn
          · rfl
        rw [List.drop_eq_getElem_cons h] at hu p2
        rcases List.mem_cons.1 hu with rfl | hu
        · exact hv
        · exact aheadT_trans hv ((List.pairwise_cons.1 p2).1 u hu)
      · rw [List.drop_eq_nil_of_le h] at hu
        simp at hu
    refine List.pairwise_append.2 ⟨p1, List.pairwise_cons.2 ⟨q2, p2⟩, fun a ha b hb => ?_⟩
    rcases List.mem_cons.1 hb with rfl | hb
    · exact q1 a ha
    · exact p3 a ha b hb
theorem putT_ok {g : List Tri3} {t : Tri3} (hg : ∀ u ∈ g, okT u = true) (ht : okT t = true) : ∀ u ∈ putT g t, okT u = true := by
  intro u hu
  rcases putT_mem.1 hu with rfl | hu
  · exact ht
  · exact hg u hu
/-- Triples in order, without one. -/
def lessT (g : List Tri3) (t : Tri3) : List Tri3 := g.filter (fun u => decide (u ≠ t))
theorem lessT_mem {g : List Tri3} {t u : Tri3} : u ∈ lessT g t ↔ u ≠ t ∧ u ∈ g := by
  unfold lessT
  rw [List.mem_filter, decide_eq_true_eq]
  exact ⟨fun h => ⟨h.2, h.1⟩, fun h => ⟨h.2, h.1⟩⟩
theorem lessT_rising {g : List Tri3} {t : Tri3} (h : Rising g) : Rising (lessT g t) := List.Pairwise.filter _ h
/-- Both, in order. -/
def unionT (a b : List Tri3) : List Tri3 := b.foldl putT a
theorem unionT_snoc (a b : List Tri3) (t : Tri3) : unionT a (b ++ [t]) = putT (unionT a b) t := by unfold unionT; rw [List.foldl_append]; rfl
theorem unionT_mem {u : Tri3} : ∀ {b a : List Tri3}, u ∈ unionT a b ↔ u ∈ a ∨ u ∈ b
  | [], a => by simp [unionT]
  | t :: r, a => by
    show u ∈ unionT (putT a t) r ↔ _
    rw [unionT_mem, putT_mem, List.mem_cons]
    constructor
    · rintro ((h | h) | h)
      · exact .inr (.inl h)
      · exact .inl h
      · exact .inr (.inr h)
    · rintro (h | h | h)
      · exact .inl (.inr h)
      · exact .inl (.inl h)
      · exact .inr h
theorem unionT_rising : ∀ {b a : List Tri3}, Rising a → Rising (unionT a b)
  | [], _, h => h
  | t :: r, a, h => unionT_rising (b := r) (a := putT a t) (putT_rising h)
theorem unionT_len : ∀ (b a : List Tri3), (unionT a b).length ≤ a.length + b.length
  | [], a => Nat.le_refl _
  | t :: r, a => by
    have h1 := unionT_len r (putT a t)
    have h2 := putT_len a t
    show (unionT (putT a t) r).length ≤ _
    rw [List.length_cons]; omega
/-- In order, as the library's sort leaves them. -/
def sortT (ts : List Tri3) : List Tri3 := ts.mergeSort (fun x y => !aheadT y x)
theorem sortT_perm (ts : List Tri3) : (sortT ts).Perm ts := List.mergeSort_perm _ _
theorem sortT_len (ts : List Tri3) : (sortT ts).length = ts.length := (sortT_perm ts).length_eq
theorem sortT_mem {ts : List Tri3} {u : Tri3} : u ∈ sortT ts ↔ u ∈ ts := (sortT_perm ts).mem_iff
theorem sortT_rising {ts : List Tri3} (h : ts.Nodup) : Rising (sortT ts) := by
  have hs := List.pairwise_mergeSort (le := fun x y => !aheadT y x) (fun a b c h1 h2 => by
    simp only [Bool.not_eq_true'] at *
    cases g : aheadT c a
    · rfl
    · cases g1 : aheadT a b
      · rw [aheadT_one g1 h1] at g; rw [g] at h2; cases h2
      · rw [aheadT_trans g g1] at h2; cases h2) (fun a b => by
    simp only [Bool.or_eq_true, Bool.not_eq_true']
    cases g : aheadT b a
    · exact .inl rfl
    · exact .inr (aheadT_asymm g)) ts
  have hn : (sortT ts).Nodup := (sortT_perm ts).nodup_iff.2 h
  refine List.Pairwise.imp₂ (fun a b h1 h2 => ?_) hs hn
  simp only [Bool.not_eq_true'] at h1
  cases g : aheadT a b
  · exact absurd (aheadT_one g h1) h2
  · rfl
theorem sortT_is {ts g : List Tri3} (h : ts.Nodup) (hg : Rising g) (hm : ∀ u, u ∈ ts ↔ u ∈ g) : sortT ts = g := eq_of_rising (sortT_rising h) hg (fun u => by rw [sortT_mem]; exact hm u)
end Go.Proofs.YtkcbgppplgkkbaaGreat
