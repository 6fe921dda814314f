/- What is drawn for the laws of datasets. -/
import Derived.Test.YthnpchcfjkepaaaG21
import Derived.RegionTactic
import Derived.Test.YthnpchcfjkepaaaG17
import Derived.Test.YthnpchcfjkepaaaG19
namespace Go.Proofs.Ythnpchcfjkepaaa
open Go.RowKit Go.WideShapes
theorem RdNs.off {B g : Nat} {w : World} {v : Value} {ts : List NamV} (h : RdNs B w v ts) (hg : g < B) (i : Nat) (u : Value) : RdNs B (w.setCell ⟨g, i, none⟩ u) v ts :=
  h.grown (row := some g) ⟨rfl, rfl, rfl, by simp [World.setCell], fun k _ hne => Below.heap_setCell _ _ _ _ (fun e => hne (by rw [e]))⟩ (fun j hj => by cases hj; exact hg)
theorem RdNs.alloc {B : Nat} {w : World} {v : Value} {ts : List NamV} (h : RdNs B w v ts) (o : Obj) : RdNs B (w.alloc o) v ts := h.grown (World.grownBy_alloc w o none) (by simp)
/-- A slice of named graphs, few and small. -/
def GotN (w : World) (v : Value) (ts : List NamV) : Prop := SmD ts ∧ ∃ a c, v = .slice a ts.length c ∧ IsNams w a ts.length c ts
theorem GotN.next {w w' : World} {v : Value} {ts : List NamV} (h : GotN w v ts) (hb : Below w.heap.size w w') : GotN w' v ts := by
  obtain ⟨hs, a, c, e, i⟩ := h
  exact ⟨hs, a, c, e, i.next hb⟩
theorem RdNs.got {B : Nat} {w : World} {v : Value} {ts : List NamV} (h : RdNs B w v ts) (hs : SmD ts) : GotN w v ts := ⟨hs, h.is hs.all⟩
/-- One of the graphs, its cells. -/
theorem pick_ofN {B L : Nat} {w : World} {x : Option Addr} {y : Nat} {ts : List NamV} (h : RdNs B w (.slice x L y) ts) (hs : SmD ts) (hL : ts.length = L) {m : Nat} (hm : m < L) :
    ∃ (b : Nat) (u : NamV) (ua : Option Addr) (uc : Nat), x = some ⟨b, 0, none⟩ ∧ w.cell? ⟨b, m * 2, none⟩ = some (.string u.1) ∧ w.cell? ⟨b, m * 2 + 1, none⟩ = some (.slice ua u.2.length uc) ∧ OwnT B w (.slice ua u.2.length uc) u.2 ∧ u.1.size ≤ 20 ∧ SmG u.2 := by
  obtain ⟨us, o1, o2, o3, o4⟩ := h
  have ht : ts[m]? = some (ts[m]'(by omega)) := List.getElem?_eq_getElem _
  have hu : us[m]? = some (us[m]'(by omega)) := List.getElem?_eq_getElem _
  obtain ⟨f0, f1⟩ := flatN_at ts us o2 m _ _ ht hu
  have OI := o3 m _ _ hu ht
  have hz := hs.2 _ (List.mem_of_getElem? ht)
  obtain ⟨ua, uc, eu⟩ := own_slice_len OI
  rw [eu] at f1 OI
  obtain ⟨b, e⟩ : ∃ b, x = some ⟨b, 0, none⟩ := by
    rcases o1.2 with ⟨e, _⟩ | ⟨b, c, cur, e, _⟩
    · simp only [Value.slice.injEq] at e; omega
    · simp only [Value.slice.injEq] at e; exact ⟨b, e.1⟩
  subst e
  rw [hL] at o1
  exact ⟨b, _, ua, uc, rfl, (World.ownsRow.cellAt o1 (m * 2) (show m * 2 < L * 2 by omega)).trans f0, (World.ownsRow.cellAt o1 (m * 2 + 1) (show m * 2 + 1 < L * 2 by omega)).trans f1, OI, hz⟩
theorem drawDataOk (w : World) (a : Option Addr) (len cap : Nat) (zs : List Int) (hrow : Frame.IsRow .u8 w a len cap zs) :
    Calls Try.prog 27 #[.slice a len cap] w fun e w' => ∃ (v : Value) (ts : List NamV), e = .returned v ∧ GotN w' v ts ∧ w.grownBy w' none := by
  go_enter Try.func27, Try.ntmps27
  go_wp2_with fail
  refine (rdOpen _ _ _ _ _ hrow).mono ?_
  rintro e w1 ⟨rfl, r1, g1⟩
  go_wp2_with fail
  refine (rdDataset _ _ _ r1).mono ?_
  rintro e w2 ⟨v, ts, rfl, s2, o2, r2, g2⟩
  have G2 := grown_new g1 g2
  go_wp2_with fail
  go_ret
  exact ⟨v, ts, rfl, o2.got s2, G2⟩
theorem drawDataMerged (w : World) (a : Option Addr) (len cap : Nat) (zs : List Int) (hrow : Frame.IsRow .u8 w a len cap zs) :
    Calls Try.prog 8 #[.slice a len cap] w fun e w' => ∃ (v : Value) (ts : List NamV), e = .returned v ∧ GotN w' v ts ∧ w.grownBy w' none := by
  have C := Lib.hid (drawDataOk w a len cap zs hrow)
  clear hrow
  go_enter Try.func8, Try.ntmps8
  go_wp2_with fail
  refine C.out.mono ?_
  rintro e w1 ⟨v, ts, rfl, h1, h2⟩
  go_wp2_with fail
  go_ret
  exact ⟨v, ts, rfl, h1, h2⟩
end Go.Proofs.Ythnpchcfjkepaaa
/- WithI, the rest. -/
namespace Go.Proofs.Ythnpchcfjkepaaa
open Go.RowKit Go.WideShapes Go.Maps
set_option maxRecDepth 100000 in
set_option maxHeartbeats 800000 in
theorem implGraphOf (b m : Nat) (ts : List Tri3) (w : World) (h : OwnSet w b m ts) (hm : m ≤ 1001) :
    Calls Try.prog 31 #[.map (some b)] w (ResPost (ofSet ts) w) := by
  have hle := h.size_le
  have C := Lib.hid (implInOrder b m ts w h (by omega))
  have H := Lib.hid h
  clear h
  by_cases g : (80 : Int) < (ts.length : Int)
  · have HR : Hid (ofSet ts = none) := Lib.hid (by unfold ofSet; rw [if_neg (by omega)])
    go_enter Try.func31, Try.ntmps31
    go_wp2_with (at_len; refine wpList_count _ rfl _ rfl b m ts rfl H.out ?_)
    go_wp2_with fail
    go_ret2
    rw [HR.out]
    exact ResPost.no (Below.refl _ _)
  · have HR : Hid (ofSet ts = some (sortT ts)) := Lib.hid (by unfold ofSet; rw [if_pos (by omega)])
    go_enter Try.func31, Try.ntmps31
    go_wp2_with (at_len; refine wpList_count _ rfl _ rfl b m ts rfl H.out ?_)
    go_wp2_with fail
    refine C.out.mono ?_
    rintro e w1 ⟨v, rfl, ho, hb⟩
    go_wp2_with fail
    go_ret2
    rw [HR.out]
    exact ResPost.yes ho hb
open Go.RowKit Go.WideShapes Go.Maps
theorem zeroB (w : World) : (zeroValue 4).run Try.prog w = .ok (.bool false) w := by kernel_rfl
theorem allT_two (a b : Option Addr) (la ca lb cb : Nat) (ts us : List Tri3) : allT [(a, la, ca, ts), (b, lb, cb, us)] = ts ++ us := by simp [allT]
end Go.Proofs.Ythnpchcfjkepaaa
/- With and Without at slices that are held by their triples, and what holds of the two together. -/
namespace Go.Proofs.Ythnpchcfjkepaaa
open Go.RowKit Go.WideShapes
theorem specWithG {v : Value} {ts : List Tri3} {w : World} (h : GotG w v ts) {s p o : ByteArray} (hs : s.size ≤ 20) (hp : p.size ≤ 20) (ho : o.size ≤ 20) : Calls Try.prog 112 #[v, .agg #[.string s, .string p, .string o]] w (GotRes (withT ts (s, p, o)) w) := by
  obtain ⟨x, c, rfl, hi, hp', hsm⟩ := h
  exact (specWith x _ c ts s p o w hi hp' hsm.sm (by omega) (by omega) (by omega)).mono fun e w' g => gotRes (hsm.with_ (t := (s, p, o)) ⟨hs, hp, ho⟩).1 g
theorem GotG.shape {w : World} {v : Value} {ts : List Tri3} (h : GotG w v ts) : ∃ x c, v = .slice x ts.length c := by
  obtain ⟨x, c, hv, _⟩ := h
  exact ⟨x, c, hv⟩
theorem with_twice {ts n : List Tri3} {t : Tri3} (h : withT ts t = some n) : withT n t = some n := by
  obtain ⟨h1, h2, rfl, h4⟩ := withT_some h
  have e : putT (putT ts t) t = putT ts t := eq_of_rising (putT_rising (graphOk_rising h4)) (graphOk_rising h4) (fun u => by rw [putT_mem, putT_mem]; exact ⟨fun c => c.elim .inl id, .inr⟩)
  unfold withT
  rw [e, if_pos ⟨h4, h2, graphOk_len h4⟩]
theorem with_swap {ts n x m : List Tri3} {t u : Tri3} (h : withT ts t = some n) (hx : withT n u = some x) (hm : withT ts u = some m) : withT m t = some x := by
  obtain ⟨h1, h2, rfl, h4⟩ := withT_some h
  obtain ⟨x1, x2, rfl, x4⟩ := withT_some hx
  obtain ⟨m1, m2, rfl, m4⟩ := withT_some hm
  have e : putT (putT ts u) t = putT (putT ts t) u := eq_of_rising (putT_rising (graphOk_rising m4)) (graphOk_rising x4) (fun v => by
    simp only [putT_mem]
    exact ⟨fun c => by rcases c with c | c | c <;> simp [c], fun c => by rcases c with c | c | c <;> simp [c]⟩)
  unfold withT
  rw [e, if_pos ⟨m4, h2, graphOk_len x4⟩]
theorem with_less {ts h : List Tri3} {t : Tri3} (e : withT ts t = some h) : withoutT h t = some (lessT h t) ∧ t ∈ h ∧ h.length ≤ ts.length + 1 ∧ (lessT h t).length + 1 = h.length ∧ (∀ u ∈ ts, u ∈ h) ∧ (∀ u ∈ lessT h t, u ∈ ts) ∧ t ∉ lessT h t ∧ graphOk h = true := by
  obtain ⟨h1, h2, rfl, h4⟩ := withT_some e
  have hm : t ∈ putT ts t := putT_mem.2 (.inl rfl)
  refine ⟨by unfold withoutT; rw [if_pos ⟨h4, hm⟩], hm, putT_len ts t, lessT_len_mem (graphOk_rising h4).nodup hm, fun u hu => putT_mem.2 (.inr hu), fun u hu => ?_, fun c => (lessT_mem.1 c).1 rfl, h4⟩
  obtain ⟨a, b⟩ := lessT_mem.1 hu
  exact (putT_mem.1 b).resolve_left a
theorem without_back {ts h : List Tri3} {t : Tri3} (e : withoutT ts t = some h) : withT h t = some ts ∧ t ∉ h ∧ (∀ u ∈ h, u ∈ ts) ∧ graphOk h = true := by
  obtain ⟨h1, h2, rfl, h4⟩ := withoutT_some e
  have e2 : putT (lessT ts t) t = ts := eq_of_rising (putT_rising (graphOk_rising h4)) (graphOk_rising h1) (fun u => by
    rw [putT_mem, lessT_mem]
    constructor
    · rintro (rfl | ⟨_, c⟩)
      · exact h2
      · exact c
    · intro c
      by_cases g : u = t
      · exact .inl g
      · exact .inr ⟨g, c⟩)
  refine ⟨?_, fun c => (lessT_mem.1 c).1 rfl, fun u hu => (lessT_mem.1 hu).2, h4⟩
  unfold withT
  rw [e2, if_pos ⟨h4, graphOk_okT h1 t h2, graphOk_len h1⟩]
end Go.Proofs.Ythnpchcfjkepaaa
