/- Short names and what is looked for in them: plain functions. -/
import Derived.Test.YtdhieemalhadmabShortM
namespace Go.Proofs.Ytdhieemalhadmab
theorem get_of (Q : ByteArray) (i : Nat) (h : i < Q.size) : Q.data.toList[i]? = some Q[i] := by
  rw [List.getElem?_eq_getElem (by rw [size_len]; exact h)]; rfl
def matchL (q l : List UInt8) (u : Pre2) : Bool := decide (u.1.size + 1 < q.length) && (q.take u.1.size == u.1.data.toList) && (q[u.1.size]? == some 58) && (60 :: (u.2.data.toList ++ (q.drop (u.1.size + 1) ++ [62])) == l)
theorem bestP_fits (x : List UInt8) (ts : List Pre2) : ∀ t, bestP x ts = some t → fitsP x t = true ∧ t ∈ ts := by
  have key : ∀ (r : List Pre2) (acc : Option Pre2), (∀ t, acc = some t → fitsP x t = true ∧ t ∈ ts) → (∀ u ∈ r, u ∈ ts) → ∀ t, r.foldl (stepP x) acc = some t → fitsP x t = true ∧ t ∈ ts := by
    intro r
    induction r with
    | nil => intro acc h _ t ht; exact h t ht
    | cons u r ih =>
      intro acc h hr t ht
      refine ih (stepP x acc u) ?_ (fun v hv => hr v (List.mem_cons_of_mem _ hv)) t ht
      intro v hv
      unfold stepP at hv
      split at hv
      · rename_i hc
        obtain rfl : u = v := Option.some.inj hv
        simp only [Bool.and_eq_true] at hc
        exact ⟨hc.1, hr _ (List.mem_cons_self ..)⟩
      · exact h v hv
  exact fun t ht => key ts none (by simp) (fun _ h => h) t ht
theorem short_match {ts : List Pre2} {l q : List UInt8} (hq : shortL ts l = q) (hne : q ≠ l) : ∃ t ∈ ts, matchL q l t = true := by
  unfold shortL at hq
  split at hq
  · exact absurd hq.symm hne
  · rename_i x hx
    split at hq
    · rename_i hc
      simp only [Bool.and_eq_true, decide_eq_true_eq] at hc
      obtain ⟨r, hl, hr⟩ := kind_one hc.1
      obtain rfl : x = r := by rw [hx] at hr; exact Option.some.inj hr
      cases hb : bestP x ts with
      | none => rw [hb] at hq; exact absurd hq.symm hne
      | some t =>
        rw [hb] at hq
        obtain ⟨hf, hm⟩ := bestP_fits x ts t hb
        refine ⟨t, hm, ?_⟩
        unfold fitsP at hf
        simp only [Bool.and_eq_true] at hf
        have hp : t.2.data.toList <+: x := List.isPrefixOf_iff_prefix.1 hf.1
        have hlen : 1 ≤ (x.drop t.2.size).length := by
          have := hf.2
          unfold made at this
          simp only [Bool.and_eq_true, decide_eq_true_eq] at this
          exact this.1.1
        have hx2 : t.2.data.toList ++ x.drop t.2.size = x := by
          have := List.prefix_iff_eq_append.1 hp
          rwa [size_len] at this
        subst hq
        have e1 : (shortOf x l (some t)) = t.1.data.toList ++ 58 :: x.drop t.2.size := rfl
        rw [e1]
        have n1 : t.1.data.toList.length = t.1.size := size_len _
        unfold matchL
        simp only [Bool.and_eq_true, decide_eq_true_eq, beq_iff_eq]
        refine ⟨⟨⟨?_, ?_⟩, ?_⟩, ?_⟩
        · rw [List.length_append, List.length_cons, n1]; omega
        · rw [← n1, List.take_left]
        · rw [List.getElem?_append_right (by omega), n1]; simp
        · rw [← n1, List.drop_append, List.drop_of_length_le (by omega)]
          simp only [List.nil_append, Nat.add_sub_cancel_left, List.drop_succ_cons, List.drop_zero]
          rw [← List.append_assoc, hx2, hl]
    · exact absurd hq.symm hne
theorem short_len {ts : List Pre2} {l : List UInt8} (hs : ∀ t ∈ ts, t.1.size ≤ 4) : (shortL ts l).length ≤ l.length + 5 := by
  unfold shortL
  split
  · omega
  · rename_i x hx
    split
    · rename_i hc
      simp only [Bool.and_eq_true, decide_eq_true_eq] at hc
      obtain ⟨r, hl, hr⟩ := kind_one hc.1
      obtain rfl : x = r := by rw [hx] at hr; exact Option.some.inj hr
      cases hb : bestP x ts with
      | none => simp [shortOf]
      | some t =>
        have h4 := hs t (bestP_fits x ts t hb).2
        have : (shortOf x l (some t)) = t.1.data.toList ++ 58 :: x.drop t.2.size := rfl
        rw [this, List.length_append, List.length_cons, List.length_drop, size_len, hl]
        simp
        omega
    · omega
end Go.Proofs.Ytdhieemalhadmab
