/- What is drawn for a graph's text: the contracts. -/
import Derived.Test.YtinmjbgljgljkaaRdG
import Derived.Test.YtinmjbgljgljkaaTextM
import Derived.Test.YtinmjbgljgljkaaReadGM
import Derived.Test.YtinmjbgljgljkaaTriM
namespace Go.Proofs.Ytinmjbgljgljkaa
open Go.RowKit Go.WideShapes
theorem lines_short {ts : List Tri3} (h : ∀ t ∈ ts, t.1.size ≤ 20 ∧ t.2.1.size ≤ 20 ∧ t.2.2.size ≤ 20) : (lines ts).length ≤ ts.length * 65 := by
  induction ts with
  | nil => simp [lines]
  | cons t r ih =>
    have ih := ih fun u hu => h u (List.mem_cons_of_mem _ hu)
    have ht := h t (List.mem_cons_self ..)
    have hl := triText_len t.1 t.2.1 t.2.2
    have e : lines (t :: r) = lineT t ++ lines r := by simp [lines]
    have e2 : (lineT t).length = (triText t.1.data.toList t.2.1.data.toList t.2.2.data.toList).length + 1 := by simp [lineT]
    rw [e, List.length_append, List.length_cons, e2]
    omega
theorem text_short {ts : List Tri3} (h : SmG ts) : (graphTextL ts).length ≤ 5265 := by
  have a := lines_short h.2
  have b := h.1
  unfold graphTextL
  split
  · omega
  · simp
theorem textG {v : Value} {ts : List Tri3} {w : World} (h : GotG w v ts) : Calls Try.prog 17 #[v] w fun e w' => e = .returned (.string (bs (graphTextL ts))) ∧ Below w.heap.size w w' := by
  obtain ⟨x, cap, rfl, h1, _, h2⟩ := h
  exact implGraphText x _ cap ts w h1 h2.sm
theorem textSG {v : Value} {ts : List Tri3} {w : World} (h : GotG w v ts) : Calls Try.prog 19 #[v] w fun e w' => e = .returned (.string (bs (graphTextL ts))) ∧ Below w.heap.size w w' := by
  obtain ⟨x, cap, rfl, h1, _, h2⟩ := h
  exact specGraphText x _ cap ts w h1 h2.sm
theorem drawGraphOk (w : World) (a : Option Addr) (len cap : Nat) (zs : List Int) (hrow : Frame.IsRow .u8 w a len cap zs) :
    Calls Try.prog 51 #[.slice a len cap] w fun e w' => ∃ (v : Value) (ts : List Tri3), e = .returned v ∧ GotG w' v ts ∧ w.grownBy w' none := by
  go_enter Try.func51, Try.ntmps51
  go_wp2_with fail
  refine (rdOpen _ _ _ _ _ hrow).mono ?_
  rintro e w1 ⟨rfl, r1, g1⟩
  go_wp2_with fail
  refine (rdGraph _ _ _ r1 8 (by omega)).mono ?_
  rintro e w2 ⟨v, ts, rfl, s2, o2, r2, g2⟩
  have G2 := grown_new g1 g2
  go_wp2_with fail
  go_ret
  exact ⟨v, ts, rfl, got_of o2 s2, G2⟩
theorem drawGraphText (w : World) (a : Option Addr) (len cap : Nat) (zs : List Int) (hrow : Frame.IsRow .u8 w a len cap zs) :
    Calls Try.prog 16 #[.slice a len cap] w fun e w' => ∃ (v : Value) (ts : List Tri3), e = .returned v ∧ GotG w' v ts ∧ w.grownBy w' none := by
  go_enter Try.func16, Try.ntmps16
  go_wp2_with fail
  refine (drawGraphOk _ _ _ _ _ hrow).mono ?_
  rintro e w1 ⟨v, ts, rfl, h1, g1⟩
  go_wp2_with fail
  go_ret
  exact ⟨v, ts, rfl, h1, g1⟩
theorem drawReadGraph (w : World) (a : Option Addr) (len cap : Nat) (zs : List Int) (hrow : Frame.IsRow .u8 w a len cap zs) :
    Calls Try.prog 23 #[.slice a len cap] w fun e w' => ∃ s : ByteArray, s.size ≤ 6000 ∧ e = .returned (.string s) ∧ w.grownBy w' none := by
  go_enter Try.func23, Try.ntmps23
  go_wp2_with fail
  refine (rdOpen _ _ _ _ _ hrow).mono ?_
  rintro e w1 ⟨rfl, hr1, hg1⟩
  go_wp2_with fail
  refine (rdGraph _ _ _ hr1 6 (by omega)).mono ?_
  rintro e w2 ⟨v, ts, rfl, s2, o2, hr2, hg2⟩
  have C := textSG (got_of o2 s2)
  obtain ⟨q, hq, hql⟩ : ∃ q : ByteArray, bs (graphTextL ts) = q ∧ q.size ≤ 5265 := ⟨_, rfl, by
    rw [bs_size]; exact text_short s2⟩
  rw [hq] at C
  have D := Lib.hid C
  clear C hq o2 s2
  go_wp2_with fail
  refine D.out.mono ?_
  rintro e w3 ⟨rfl, hb3⟩
  have hg3 := grown_of_below hb3
  have hr3 := hr2.grown hg3 (by simp)
  have G3 := (grown_new hg1 hg2).trans hg3
  clear hb3 hg1 hg2 hg3 hr1 hr2 D
  go_wp2_with fail
  refine (rdOnce _ _ _ hr3 2 (by omega) (by omega)).mono ?_
  rintro e w4 ⟨b, rfl, hr4, hg4⟩
  have G4 := grown_new G3 hg4
  clear G3 hg4 hr3
  cases b
  · go_wp2_with fail
    refine (rdHurt _ _ _ hr4 q (by omega)).mono ?_
    rintro e w5 ⟨t, ht, rfl, hr5, hg5⟩
    go_wp2_with fail
    go_ret
    exact ⟨t, by omega, rfl, grown_new G4 hg5⟩
  · go_wp2_with fail
    go_ret
    exact ⟨q, by omega, rfl, G4⟩
theorem unesc_no10 : ∀ (l m : List UInt8), unesc l = some m → (10 : UInt8) ∉ l
  | [], _, _ => by simp
  | [c], m, h => by
    intro hc
    obtain rfl : (10 : UInt8) = c := by simpa using hc
    simp [unesc] at h
  | c :: d :: r, m, h => by
    intro hc
    simp only [List.mem_cons] at hc
    rcases hc with rfl | hc
    · unfold unesc at h
      simp at h
    · unfold unesc at h
      split at h
      · simp at h
      split at h
      · simp at h
      split at h
      · cases hu : unesc (d :: r) with
        | none => rw [hu] at h; simp at h
        | some m' => exact unesc_no10 (d :: r) m' hu (by simpa using hc)
      · simp only at h
        split at h
        · rename_i hd
          cases hu : unesc r with
          | none => rw [hu] at h; simp at h
          | some m' =>
            rcases hc with rfl | hc
            · exact absurd hd (by decide)
            · exact unesc_no10 r m' hu hc
        split at h
        · rename_i hd
          cases hu : unesc r with
          | none => rw [hu] at h; simp at h
          | some m' =>
            rcases hc with rfl | hc
            · exact absurd hd (by decide)
            · exact unesc_no10 r m' hu hc
        split at h
        · rename_i hd
          cases hu : unesc r with
          | none => rw [hu] at h; simp at h
          | some m' =>
            rcases hc with rfl | hc
            · exact absurd hd (by decide)
            · exact unesc_no10 r m' hu hc
        · simp at h
theorem no_nl {l : List UInt8} (h : kindL l = 1 ∨ kindL l = 2 ∨ kindL l = 3) : (10 : UInt8) ∉ l := by
  cases l with
  | nil => simp
  | cons x r =>
    rw [kindL_cons] at h
    by_cases h1 : x = 60
    · rw [if_pos h1] at h
      by_cases g : r.getLast? = some 62
      · rw [if_pos g] at h
        cases hm : made r.dropLast 12 nameB
        · rw [hm] at h; simp at h
        · obtain ⟨q, hq⟩ := List.getLast?_eq_some_iff.1 g
          rw [hq, List.dropLast_concat] at hm
          rw [h1, hq]
          intro hc
          simp only [List.mem_cons, List.mem_append, List.not_mem_nil, or_false] at hc
          rcases hc with hc | hc | hc
          · exact absurd hc (by decide)
          · exact absurd (made_all hm _ hc) (by decide)
          · exact absurd hc (by decide)
      · rw [if_neg g] at h; simp at h
    rw [if_neg h1] at h
    by_cases h2 : x = 34
    · rw [if_pos h2] at h
      by_cases g : r.getLast? = some 34
      · rw [if_pos g] at h
        cases hm : textOk r.dropLast
        · rw [hm] at h; simp at h
        · obtain ⟨q, hq⟩ := List.getLast?_eq_some_iff.1 g
          rw [hq, List.dropLast_concat] at hm
          rw [h2, hq]
          unfold textOk at hm
          cases hu : unesc q with
          | none => rw [hu] at hm; simp at hm
          | some m =>
            have := unesc_no10 q m hu
            intro hc
            simp only [List.mem_cons, List.mem_append, List.not_mem_nil, or_false] at hc
            rcases hc with hc | hc | hc
            · exact absurd hc (by decide)
            · exact this hc
            · exact absurd hc (by decide)
      · rw [if_neg g] at h; simp at h
    rw [if_neg h2] at h
    by_cases h3 : x = 95
    · rw [if_pos h3] at h
      by_cases g : r.head? = some 58
      · rw [if_pos g] at h
        cases hm : made (r.drop 1) 6 labB
        · rw [hm] at h; simp at h
        · cases r with
          | nil => simp at g
          | cons y q =>
            simp only [List.head?_cons, Option.some.injEq] at g
            rw [h3, g]
            intro hc
            simp only [List.mem_cons] at hc
            rcases hc with hc | hc | hc
            · exact absurd hc (by decide)
            · exact absurd hc (by decide)
            · exact absurd (made_all hm _ (by simpa using hc)) (by decide)
      · rw [if_neg g] at h; simp at h
    rw [if_neg h3] at h
    split at h <;> (try split at h) <;> simp at h
theorem triText_no10 (s p o : List UInt8) : (10 : UInt8) ∉ triText s p o := by
  unfold triText
  cases h : triOk s p o
  · simp
  · obtain ⟨h1, h2, h3⟩ := triOk_parts h
    have a := no_nl (l := s) (by rcases h1 with h1 | h1 <;> simp [h1])
    have b := no_nl (l := p) (.inl h2)
    have c := no_nl h3
    simp only [if_true, List.mem_append, List.mem_cons, List.not_mem_nil, or_false]
    rintro (h | h | h | h | h | h | h)
    · exact a h
    · exact absurd h (by decide)
    · exact b h
    · exact absurd h (by decide)
    · exact c h
    · exact absurd h (by decide)
    · exact absurd h (by decide)
theorem lines_cons (t : Tri3) (r : List Tri3) : lines (t :: r) = triText t.1.data.toList t.2.1.data.toList t.2.2.data.toList ++ 10 :: lines r := by
  simp [lines, lineT]
theorem fin_lines : ∀ ts : List Tri3, (∀ t ∈ ts, okT t = true) → fin (lines ts) = some ts
  | [], _ => by rw [show lines [] = [] from rfl, fin_nil]
  | t :: r, h => by
    have ht := h t (List.mem_cons_self ..)
    have hc := cutL_free 10 (lines r) _ (triText_no10 t.1.data.toList t.2.1.data.toList t.2.2.data.toList)
    rw [lines_cons]
    have hr : readT (cutL (triText t.1.data.toList t.2.1.data.toList t.2.2.data.toList ++ 10 :: lines r) 10).1 = some (t.1.data.toList, t.2.1.data.toList, t.2.2.data.toList) := by
      rw [hc, readT_triText]
      exact if_pos ht
    rw [fin_next (by simp) hr (by rw [hc]), hc]
    simp only
    rw [fin_lines r fun u hu => h u (List.mem_cons_of_mem _ hu)]
    simp [triOf, bs_of]
theorem resG_text {ts : List Tri3} (h : graphOk ts = true) : resG (graphTextL ts) = some ts := by
  have hg : ∀ t ∈ ts, okT t = true := by
    unfold graphOk at h
    simp only [Bool.and_eq_true] at h
    exact gUpto_mem h.2
  unfold graphTextL
  rw [if_pos h, resG_some (fin_lines ts hg), if_pos h]
theorem lines_fin : ∀ (n : Nat) (l : List UInt8) (ts : List Tri3), l.length ≤ n → fin l = some ts → lines ts = l := by
  intro n
  induction n with
  | zero =>
    intro l ts hl h
    obtain rfl : l = [] := List.length_eq_zero_iff.1 (by omega)
    rw [fin_nil] at h
    obtain rfl : [] = ts := Option.some.inj h
    rfl
  | succ n ih =>
    intro l ts hl h
    by_cases hn : l = []
    · subst hn
      rw [fin_nil] at h
      obtain rfl : [] = ts := Option.some.inj h
      rfl
    by_cases hc : (cutL l 10).2.2 = true
    · cases hr : readT (cutL l 10).1 with
      | none => rw [fin_bad hn (.inl hr)] at h; cases h
      | some t =>
        obtain ⟨s, p, o⟩ := t
        have hlt := cut_less hc
        rw [fin_next hn hr hc] at h
        cases hf : fin (cutL l 10).2.1 with
        | none => rw [hf] at h; simp at h
        | some r =>
          rw [hf] at h
          simp only [Option.map_some, Option.some.injEq] at h
          subst h
          rw [lines_cons, ih _ r (by omega) hf]
          have e : triText (triOf (s, p, o)).1.data.toList (triOf (s, p, o)).2.1.data.toList (triOf (s, p, o)).2.2.data.toList = (cutL l 10).1 := by
            unfold triOf
            simp only [bs_toList]
            exact triText_readT hr
          rw [e]
          exact (cutL_join 10 l hc).symm
    · rw [fin_bad hn (.inr (by simpa using hc))] at h; cases h
theorem text_resG {l : List UInt8} {ts : List Tri3} (h : resG l = some ts) : graphOk ts = true ∧ graphTextL ts = l := by
  unfold resG at h
  cases hf : fin l with
  | none => rw [hf] at h; cases h
  | some r =>
    rw [hf] at h
    simp only at h
    split at h
    · rename_i hg
      obtain rfl : r = ts := Option.some.inj h
      refine ⟨hg, ?_⟩
      unfold graphTextL
      rw [if_pos hg]
      exact lines_fin _ l r (Nat.le_refl _) hf
    · cases h
end Go.Proofs.Ytinmjbgljgljkaa
