/- The triples of a map, in order. -/
import Derived.Test.YteejpceliodcfaaIterK
import Derived.Test.YteejpceliodcfaaSortT
namespace Go.Proofs.Yteejpceliodcfaa
open Go.RowKit Go.Maps Go.Sort Go.Shelf
set_option maxHeartbeats 1000000 in
theorem T3.collect_in (n : Nat) (hn : 3 ≤ n) (g : Nat) (lb : Array Value) (eg : ∀ args w, (callFunc g args).run Try.prog w = .ok (.enter g args) w)
    (S : List Tri3 → Prop) (N : Nat) (hN : N ≤ maxLen) (hNb : N * 48 ≤ 140737488355328) (w : World) (hseq : SeqGives Fence.wide (n - 1 - 1) Try.prog g lb strT S N w) :
    CallsIn Fence.wide n Try.prog 149 #[.func (.func g) #[] lb] w fun e w' => ∃ (v : Value) (ss : List Tri3), e = .returned v ∧ S ss ∧ OwnT w.heap.size w' v ss ∧ (v = .slice none 0 0 ↔ ss = []) ∧ Below w.heap.size w w' := by
  have h1 : 1 ≤ n := by omega
  have h11 : Fence.wide.fn 173 := trivial
  refine callsIn_of_wp Try.func149 rfl trivial ?_ rfl
  simp only [Try.ntmps149, List.size_toArray, List.length_cons, List.length_nil, Nat.reduceAdd, Nat.reduceSub, Array.replicate_succ, Array.replicate_zero, List.push_toArray, List.append_toArray, List.nil_append, List.cons_append]
  gi_wp2_with (gi_at_call 173; refine (T3.appendSeq_in Fence.wide (n - 1) h11 rfl (by omega) g lb trivial eg S N hN hNb _ hseq).mono ?_; rintro e w' ⟨v, ss, rfl, hS, hrow, hnil, hb⟩)
  go_ret
  exact ⟨v, ss, rfl, hS, hrow, hnil, hb⟩
set_option maxRecDepth 100000 in
set_option maxHeartbeats 2000000 in
theorem T3.sorted_in (n : Nat) (hn : 4 ≤ n) (g : Nat) (lb : Array Value) (eg : ∀ args w, (callFunc g args).run Try.prog w = .ok (.enter g args) w)
    (S : List Tri3 → Prop) (N : Nat) (hN : N ≤ maxLen) (hNb : N * 48 ≤ 140737488355328) (w : World) (hseq : SeqGives Fence.wide (n - 1 - 1 - 1) Try.prog g lb strT S N w) :
    CallsIn Fence.wide n Try.prog 131 #[.func (.func g) #[] lb, .func (.func 109) #[] #[]] w fun e w' => ∃ (v : Value) (ss : List Tri3), e = .returned v ∧ S ss ∧
      OwnT w.heap.size w' v (sortT ss) ∧ (v = .slice none 0 0 ↔ ss = []) ∧ Below w.heap.size w w' := by
  have h1 : 1 ≤ n := by omega
  have h8 : Fence.wide.fn 149 := trivial
  have h9 : Fence.wide.fn 107 := trivial
  refine callsIn_of_wp Try.func131 rfl trivial ?_ rfl
  simp only [Try.ntmps131, List.size_toArray, List.length_cons, List.length_nil, Nat.reduceAdd, Nat.reduceSub, Array.replicate_succ, Array.replicate_zero, List.push_toArray, List.append_toArray, List.nil_append, List.cons_append]
  gi_wp2_with (gi_at_call 149; refine (T3.collect_in (n - 1) (by omega) g lb eg _ N hN hNb _ hseq.bounded).mono ?_; rintro e W ⟨v, ss, rfl, ⟨hS, hlen⟩, hrow, hnil, hb⟩)
  have hlt := fun j hj => (World.ownsRow.lt hrow j hj).1
  have cS := (callsIn_wide (n := n - 1)).2 (sortTris w.heap.size v ss W hrow (by unfold maxLen at hN; omega))
  have CS := Lib.hid cS
  have HR := Lib.hid hnil
  clear cS hrow hnil hseq
  gi_wp2_with (gi_at_call 107; refine CS.out.mono ?_; rintro e w' ⟨rfl, hO, hg⟩)
  go_ret
  exact ⟨v, ss, rfl, hS, hO, HR.out, hb.grown hg hb.size hlt⟩
set_option maxHeartbeats 1000000 in
/-- What stands in a map of triples, in order: a slice of the call's own. -/
theorem implInOrder (b n : Nat) (ts : List Tri3) (w : World) (h : OwnSet w b n ts) (hN : ts.length ≤ 1000000) :
    Calls Try.prog 95 #[.map (some b)] w fun e w' => ∃ v : Value, e = .returned v ∧ OwnT w.heap.size w' v (sortT ts) ∧ Below w.heap.size w w' := by
  obtain ⟨D, hown, hD⟩ := h
  have hbl := hown.lt
  refine (callsIn_wide (n := 6)).1 ?_
  have hfK : Fence.wide.fn 132 := trivial
  have hfS : Fence.wide.fn 131 := trivial
  have eg : ∀ args w, (callFunc 150 args).run Try.prog w = .ok (.enter 150 args) w := enters_of Try.func150 (by kernel_rfl) rfl
  have hseq : SeqGives Fence.wide 2 Try.prog 150 #[.pointer (some ⟨w.heap.size, 0, none⟩)] strT (fun ss => ss.Perm ts) ts.length (w.alloc (.cells #[.map (some b)] 74)) :=
    T3.keys_gives Fence.wide _ trivial rfl (by omega) w.heap.size b n D hD _ (by simp) (by simp) (hown.alloc _)
  have cS := T3.sorted_in 5 (by omega) _ _ eg _ ts.length (by unfold maxLen; omega) (by omega) _ hseq
  have CS := Lib.hid cS
  clear cS hseq eg hown
  refine callsIn_of_wp Try.func95 rfl trivial ?_ rfl
  simp only [Try.ntmps95, List.size_toArray, List.length_cons, List.length_nil, Nat.reduceAdd, Nat.reduceSub, Array.replicate_succ, Array.replicate_zero, List.push_toArray, List.append_toArray, List.nil_append, List.cons_append]
  gi_wp2_with (first
    | (gi_at_call 132; refine (T3.keys_in Fence.wide 5 trivial rfl _ _).mono ?_; rintro e w' ⟨rfl, rfl⟩)
    | (gi_at_call 131; refine CS.out.mono ?_; rintro e w' ⟨v, ss, rfl, hS, hrow, hnil, hb⟩))
  go_ret
  have e1 : sortT ss = sortT ts := sortT_is (hS.symm.nodup hD.nodup) (sortT_rising hD.nodup) (fun u => by rw [sortT_mem]; exact hS.mem_iff)
  rw [e1] at hrow
  exact ⟨v, rfl, own_base hrow (by simp), ((Below.refl _ w).alloc (Nat.le_refl _) _).trans (hb.mono (by simp))⟩
end Go.Proofs.Yteejpceliodcfaa
