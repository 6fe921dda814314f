/- With and Without at slices that are held by their triples, and what holds of the two together. -/
import Derived.Test.YtmklnkogmidkdaaG17
import Derived.Test.YtmklnkogmidkdaaG18
import Derived.Shelf.SlIter.Nil
import Derived.Shelf.SortM.Plain
import Derived.Shelf.SortM.SortNone
import Derived.Shelf.SlGeneric
import Derived.Ground.GgzProg
import Derived.Ground.SlgmProg
import Derived.Test.YtmklnkogmidkdaaProg
namespace Go.Proofs.Ytmklnkogmidkdaa
open Go.RowKit Go.WideShapes
theorem implWithG {v : Value} {ts : List Tri3} {w : World} (h : GotG w v ts) {s p o : ByteArray} (hs : s.size ≤ 20) (hp : p.size ≤ 20) (ho : o.size ≤ 20) : Calls Try.prog 15 #[v, .agg #[.string s, .string p, .string o]] w (GotRes (withT ts (s, p, o)) w) := by
  obtain ⟨x, c, rfl, hi, hp', hsm⟩ := h
  exact (implWith x _ c ts s p o w hi hsm.sm (by omega) (by omega) (by omega)).mono fun e w' g => gotRes (hsm.with_ (t := (s, p, o)) ⟨hs, hp, ho⟩).1 g
theorem specWithG {v : Value} {ts : List Tri3} {w : World} (h : GotG w v ts) {s p o : ByteArray} (hs : s.size ≤ 20) (hp : p.size ≤ 20) (ho : o.size ≤ 20) : Calls Try.prog 16 #[v, .agg #[.string s, .string p, .string o]] w (GotRes (withT ts (s, p, o)) w) := by
  obtain ⟨x, c, rfl, hi, hp', hsm⟩ := h
  exact (specWith x _ c ts s p o w hi hp' hsm.sm (by omega) (by omega) (by omega)).mono fun e w' g => gotRes (hsm.with_ (t := (s, p, o)) ⟨hs, hp, ho⟩).1 g
theorem implWithoutG {v : Value} {ts : List Tri3} {w : World} (h : GotG w v ts) {s p o : ByteArray} (hs : s.size ≤ 20) (hp : p.size ≤ 20) (ho : o.size ≤ 20) : Calls Try.prog 18 #[v, .agg #[.string s, .string p, .string o]] w (GotRes (withoutT ts (s, p, o)) w) := by
  obtain ⟨x, c, rfl, hi, hp', hsm⟩ := h
  exact (implWithout x _ c ts s p o w hi hsm.sm (by omega) (by omega) (by omega)).mono fun e w' g => gotRes hsm.less g
theorem specWithoutG {v : Value} {ts : List Tri3} {w : World} (h : GotG w v ts) {s p o : ByteArray} (hs : s.size ≤ 20) (hp : p.size ≤ 20) (ho : o.size ≤ 20) : Calls Try.prog 23 #[v, .agg #[.string s, .string p, .string o]] w (GotRes (withoutT ts (s, p, o)) w) := by
  obtain ⟨x, c, rfl, hi, hp', hsm⟩ := h
  exact (specWithout x _ c ts s p o w hi hp' hsm.sm (by omega) (by omega) (by omega)).mono fun e w' g => gotRes hsm.less g
theorem GotG.shape {w : World} {v : Value} {ts : List Tri3} (h : GotG w v ts) : ∃ x c, v = .slice x ts.length c := by
  obtain ⟨x, c, hv, _⟩ := h
  exact ⟨x, c, hv⟩
theorem with_twice {ts n : List Tri3} {t : Tri3} (h : withT ts t = some n) : withT n t = some n := by
  obtain ⟨h1, h2, rfl, h4⟩ := withT_some h
  have e : putT (putT ts t) t = putT ts t := eq_of_rising (putT_rising (graphOk_rising h4)) (graphOk_rising h4) (fun u => by rw [putT_mem, putT_mem]; exact ⟨fun c => c.elim .inl id, .inr⟩)
  unfold withT
  rw [e, if_pos ⟨h4, h2, graphOk_len h4⟩]
theorem with_swap {ts n x m : List Tri3} {t u : Tri3} (h : withT ts t = some n) (hx : withT n u = some x) (hm : withT ts u = some m) : withT m t = some x := by
  obtain ⟨h1, h2, rfl, h4⟩ := withT_some h
  obtain ⟨x1, x2, rfl, x4⟩ := withT_some hx
  obtain ⟨m1, m2, rfl, m4⟩ := withT_some hm
  have e : putT (putT ts u) t = putT (putT ts t) u := eq_of_rising (putT_rising (graphOk_rising m4)) (graphOk_rising x4) (fun v => by
    simp only [putT_mem]
    exact ⟨fun c => by rcases c with c | c | c <;> simp [c], fun c => by rcases c with c | c | c <;> simp [c]⟩)
  unfold withT
  rw [e, if_pos ⟨m4, h2, graphOk_len x4⟩]
theorem with_less {ts h : List Tri3} {t : Tri3} (e : withT ts t = some h) : withoutT h t = some (lessT h t) ∧ t ∈ h ∧ h.length ≤ ts.length + 1 ∧ (lessT h t).length + 1 = h.length ∧ (∀ u ∈ ts, u ∈ h) ∧ (∀ u ∈ lessT h t, u ∈ ts) ∧ t ∉ lessT h t ∧ graphOk h = true := by
  obtain ⟨h1, h2, rfl, h4⟩ := withT_some e
  have hm : t ∈ putT ts t := putT_mem.2 (.inl rfl)
  refine ⟨by unfold withoutT; rw [if_pos ⟨h4, hm⟩], hm, putT_len ts t, lessT_len_mem (graphOk_rising h4).nodup hm, fun u hu => putT_mem.2 (.inr hu), fun u hu => ?_, fun c => (lessT_mem.1 c).1 rfl, h4⟩
  obtain ⟨a, b⟩ := lessT_mem.1 hu
  exact (putT_mem.1 b).resolve_left a
theorem without_back {ts h : List Tri3} {t : Tri3} (e : withoutT ts t = some h) : withT h t = some ts ∧ t ∉ h ∧ (∀ u ∈ h, u ∈ ts) ∧ graphOk h = true := by
  obtain ⟨h1, h2, rfl, h4⟩ := withoutT_some e
  have e2 : putT (lessT ts t) t = ts := eq_of_rising (putT_rising (graphOk_rising h4)) (graphOk_rising h1) (fun u => by
    rw [putT_mem, lessT_mem]
    constructor
    · rintro (rfl | ⟨_, c⟩)
      · exact h2
      · exact c
    · intro c
      by_cases g : u = t
      · exact .inl g
      · exact .inr ⟨g, c⟩)
  refine ⟨?_, fun c => (lessT_mem.1 c).1 rfl, fun u hu => (lessT_mem.1 hu).2, h4⟩
  unfold withT
  rw [e2, if_pos ⟨h4, graphOk_okT h1 t h2, graphOk_len h1⟩]
end Go.Proofs.Ytmklnkogmidkdaa
/- RdG, the rest. -/
namespace Go.Proofs.Ytmklnkogmidkdaa
open Go.RowKit Go.WideShapes
set_option maxRecDepth 100000 in
set_option maxHeartbeats 800000 in
theorem drawUnion (w : World) (a : Option Addr) (len cap : Nat) (zs : List Int) (hrow : Frame.IsRow .u8 w a len cap zs) :
    Calls Try.prog 24 #[.slice a len cap] w fun e w' => ∃ (v u : Value) (ts us : List Tri3), e = .returned (.tuple #[v, u]) ∧ GotG w' v ts ∧ GotG w' u us ∧ w.grownBy w' none := by
  go_enter Try.func24, Try.ntmps24
  go_wp2_with fail
  refine (rdOpen _ _ _ _ _ hrow).mono ?_
  rintro e w1 ⟨rfl, r1, g1⟩
  have hlt := r1.2.1
  go_wp2_with fail
  refine (rdGraph _ _ _ r1 6 (by omega)).mono ?_
  rintro e w2 ⟨v, ts, rfl, s2, o2, r2, g2⟩
  have G2 := grown_new g1 g2
  clear g1
  go_wp2_with fail
  refine (rdGraph _ _ _ r2 6 (by omega)).mono ?_
  rintro e w3 ⟨u, us, rfl, s3, o3, r3, g3⟩
  have G3 := grown_new G2 g3
  have O2 := own_rd o2 g3 hlt (Nat.le_refl _)
  go_wp2_with fail
  go_ret2
  exact ⟨v, u, ts, us, rfl, got_of O2 s2, got_of o3 s3, G3⟩
open Go.RowKit Go.WideShapes
theorem SmG.union {ts us : List Tri3} (h : SmG ts) (k : SmG us) : SmG ((unionO ts us).getD []) := by
  cases e : unionO ts us with
  | none => exact ⟨by simp, by simp⟩
  | some g =>
    obtain ⟨_, _, rfl, hg⟩ := unionO_some e
    have hl := graphOk_len hg
    refine ⟨by simp only [Option.getD_some]; omega, fun u hu => ?_⟩
    rcases unionT_mem.1 hu with hu | hu
    · exact h.2 u hu
    · exact k.2 u hu
theorem implUnionG {v u : Value} {ts us : List Tri3} {w : World} (h : GotG w v ts) (k : GotG w u us) : Calls Try.prog 25 #[v, u] w (GotRes (unionO ts us) w) := by
  obtain ⟨x, c, rfl, hi, hp, hs⟩ := h
  obtain ⟨y, d, rfl, ki, kp, ks⟩ := k
  exact (implUnion x y _ c _ d ts us w hi ki hs.sm ks.sm).mono fun e w' g => gotRes (hs.union ks) g
theorem specUnionG {v u : Value} {ts us : List Tri3} {w : World} (h : GotG w v ts) (k : GotG w u us) : Calls Try.prog 26 #[v, u] w (GotRes (unionO ts us) w) := by
  obtain ⟨x, c, rfl, hi, hp, hs⟩ := h
  obtain ⟨y, d, rfl, ki, kp, ks⟩ := k
  exact (specUnion x y _ c _ d ts us w hi hp ki hs.sm ks.sm).mono fun e w' g => gotRes (hs.union ks) g
theorem unionO_comm (a b : List Tri3) : unionO a b = unionO b a := by
  by_cases h : graphOk a = true ∧ graphOk b = true
  · have e : unionT a b = unionT b a := eq_of_rising (unionT_rising (graphOk_rising h.1)) (unionT_rising (graphOk_rising h.2)) (fun t => by rw [unionT_mem, unionT_mem]; exact or_comm)
    unfold unionO
    rw [e]
    by_cases c : (unionT b a).length ≤ 80
    · rw [if_pos ⟨h.1, h.2, c⟩, if_pos ⟨h.2, h.1, c⟩]
    · rw [if_neg (fun g => c g.2.2), if_neg (fun g => c g.2.2)]
  · unfold unionO
    rw [if_neg (fun g => h ⟨g.1, g.2.1⟩), if_neg (fun g => h ⟨g.2.1, g.1⟩)]
theorem unionO_same {a g : List Tri3} (ha : graphOk a = true) (hg : graphOk g = true) (h : ∀ t, t ∈ a → t ∈ g) : unionO g a = some g := by
  have e : unionT g a = g := eq_of_rising (unionT_rising (graphOk_rising hg)) (graphOk_rising hg) (fun t => by
    rw [unionT_mem]
    exact ⟨fun c => c.elim id (h t), .inl⟩)
  unfold unionO
  rw [e, if_pos ⟨hg, ha, graphOk_len hg⟩]
end Go.Proofs.Ytmklnkogmidkdaa
/-
  DERIVED: THE SHELF's CONTRACTS AT THIS DUMP, IN PLAIN WORDS (tools/lay-plain.mjs out of 'ItrShelf.lean', which tools/lay-shelf.mjs wrote): THE SAME DECLARATIONS UNDER THE SAME NAMES: 'import', 'namespace', 'open', 'def', 'theorem' AND NOTHING ELSE: no command of the shelf's: FOR A HAND-IN. Each laying: the table of numbers ('.._ren') and one theorem, a field a fact of the dump's own or the kernel's comparison; each contract: ONE APPLICATION.
-/
namespace Go.Proofs
open Go.Shelf
def Try.keysS_ren : Go.Shelf.Ren := ⟨fun | 7 => 62 | 10 => 76 | n => n, fun | 23 => 69 | 26 => 9 | 3 => 4 | 28 => 73 | 0 => 0 | 27 => 72 | 33 => 86 | 4 => 4 | n => n, fun | n => n⟩
theorem Try.keysS : Go.Proofs.SlLaysZ.n7 Try.prog Try.keysS_ren := {
  mixed := by kernel_rfl
  f7 := ⟨Try.f62.name, by decide, Try.func62.trans (congrArg some (by kernel_rfl))⟩
  f10 := ⟨Try.f76.name, by decide, Try.func76.trans (congrArg some (by kernel_rfl))⟩
  t0 := Try.underlying0
  a0 := Try.isAgg0
  z0 := Try.sizeOf0
  v0 := Try.zeroValue0
  t4 := Try.underlying4
  a4 := Try.isAgg4
  z4 := Try.sizeOf4
  v4 := Try.zeroValue4
  t23 := Try.underlying69
  a23 := Try.isAgg69
  z23 := Try.sizeOf69
  v23 := Try.zeroValue69
  t26 := Try.underlying9
  a26 := Try.isAgg9
  z26 := Try.sizeOf9
  v26 := Try.zeroValue9
  t27 := Try.underlying72
  a27 := Try.isAgg72
  z27 := Try.sizeOf72
  v27 := Try.zeroValue72
  t28 := Try.underlying73
  a28 := Try.isAgg73
  z28 := Try.sizeOf73
  v28 := Try.zeroValue73
  t33 := Try.underlying86
  a33 := Try.isAgg86
  z33 := Try.sizeOf86
  v33 := Try.zeroValue86 }
def Try.sortedS_ren : Go.Shelf.Ren := ⟨fun | 6 => 61 | 8 => 74 | 9 => 75 | 11 => 86 | 13 => 88 | 12 => 87 | 23 => 106 | 24 => 107 | 14 => 97 | 15 => 98 | 16 => 99 | 17 => 100 | 18 => 101 | 19 => 102 | 20 => 103 | 21 => 104 | 22 => 105 | 25 => 114 | 26 => 115 | 27 => 116 | 28 => 117 | 29 => 118 | 30 => 119 | 31 => 132 | n => n, fun | 26 => 9 | 28 => 73 | 24 => 46 | 0 => 0 | 3 => 3 | 37 => 110 | 48 => 132 | 50 => 134 | 4 => 4 | 40 => 124 | 39 => 123 | 45 => 129 | 5 => 5 | 9 => 9 | 51 => 140 | 55 => 144 | 57 => 154 | 58 => 155 | 33 => 86 | n => n, fun | n => n⟩
theorem Try.sortedS : Go.Proofs.SlLaysZ.n6 Try.prog Try.sortedS_ren := {
  mixed := by kernel_rfl
  f6 := ⟨Try.f61.name, by decide, Try.func61.trans (congrArg some (by kernel_rfl))⟩
  f8 := ⟨Try.f74.name, by decide, Try.func74.trans (congrArg some (by kernel_rfl))⟩
  f11 := ⟨Try.f86.name, by decide, Try.func86.trans (congrArg some (by kernel_rfl))⟩
  t0 := Try.underlying0
  a0 := Try.isAgg0
  z0 := Try.sizeOf0
  v0 := Try.zeroValue0
  t24 := Try.underlying46
  a24 := Try.isAgg46
  z24 := Try.sizeOf46
  v24 := Try.zeroValue46
  t26 := Try.underlying9
  a26 := Try.isAgg9
  z26 := Try.sizeOf9
  v26 := Try.zeroValue9
  t28 := Try.underlying73
  a28 := Try.isAgg73
  z28 := Try.sizeOf73
  v28 := Try.zeroValue73
  i26 := by kernel_rfl }
def Try.sortS_ren : Go.Shelf.Ren := ⟨fun | 6 => 75 | 8 => 88 | 9 => 87 | 19 => 106 | 20 => 107 | 21 => 97 | 22 => 98 | 23 => 99 | 24 => 100 | 25 => 101 | 26 => 102 | 27 => 103 | 28 => 104 | 29 => 105 | 36 => 114 | 31 => 115 | 32 => 116 | 37 => 117 | 38 => 118 | 39 => 119 | 41 => 132 | n => n, fun | 27 => 46 | 29 => 9 | 3 => 3 | 32 => 110 | 26 => 46 | 0 => 0 | 44 => 132 | 46 => 134 | 4 => 4 | 36 => 124 | 35 => 123 | 41 => 129 | 5 => 5 | 9 => 9 | 53 => 140 | 57 => 144 | 63 => 154 | 64 => 155 | n => n, fun | n => n⟩
theorem Try.sortS : Go.Proofs.SlLaysM.n6 Try.prog Try.sortS_ren := {
  mixed := by kernel_rfl
  f6 := ⟨Try.f75.name, by decide, Try.func75.trans (congrArg some (by kernel_rfl))⟩
  f8 := Try.func88.trans (congrArg some (by kernel_rfl))
  f9 := ⟨Try.f87.name, by decide, Try.func87.trans (congrArg some (by kernel_rfl))⟩
  f19 := Try.func106.trans (congrArg some (by kernel_rfl))
  f20 := Try.func107.trans (congrArg some (by kernel_rfl))
  f21 := ⟨Try.f97.name, by decide, Try.func97.trans (congrArg some (by kernel_rfl))⟩
  f22 := ⟨Try.f98.name, by decide, Try.func98.trans (congrArg some (by kernel_rfl))⟩
  f23 := ⟨Try.f99.name, by decide, Try.func99.trans (congrArg some (by kernel_rfl))⟩
  f24 := ⟨Try.f100.name, by decide, Try.func100.trans (congrArg some (by kernel_rfl))⟩
  f25 := ⟨Try.f101.name, by decide, Try.func101.trans (congrArg some (by kernel_rfl))⟩
  f26 := ⟨Try.f102.name, by decide, Try.func102.trans (congrArg some (by kernel_rfl))⟩
  f27 := ⟨Try.f103.name, by decide, Try.func103.trans (congrArg some (by kernel_rfl))⟩
  f28 := ⟨Try.f104.name, by decide, Try.func104.trans (congrArg some (by kernel_rfl))⟩
  f29 := ⟨Try.f105.name, by decide, Try.func105.trans (congrArg some (by kernel_rfl))⟩
  f31 := Try.func115.trans (congrArg some (by kernel_rfl))
  f32 := Try.func116.trans (congrArg some (by kernel_rfl))
  f36 := ⟨Try.f114.name, by decide, Try.func114.trans (congrArg some (by kernel_rfl))⟩
  f37 := ⟨Try.f117.name, by decide, Try.func117.trans (congrArg some (by kernel_rfl))⟩
  f38 := ⟨Try.f118.name, by decide, Try.func118.trans (congrArg some (by kernel_rfl))⟩
  f39 := ⟨Try.f119.name, by decide, Try.func119.trans (congrArg some (by kernel_rfl))⟩
  f41 := ⟨Try.f132.name, by decide, Try.func132.trans (congrArg some (by kernel_rfl))⟩
  t0 := Try.underlying0
  a0 := Try.isAgg0
  z0 := Try.sizeOf0
  v0 := Try.zeroValue0
  t3 := Try.underlying3
  a3 := Try.isAgg3
  z3 := Try.sizeOf3
  v3 := Try.zeroValue3
  t4 := Try.underlying4
  a4 := Try.isAgg4
  z4 := Try.sizeOf4
  v4 := Try.zeroValue4
  t5 := Try.underlying5
  a5 := Try.isAgg5
  z5 := Try.sizeOf5
  v5 := Try.zeroValue5
  t9 := Try.underlying9
  a9 := Try.isAgg9
  z9 := Try.sizeOf9
  v9 := Try.zeroValue9
  t26 := Try.underlying46
  a26 := Try.isAgg46
  z26 := Try.sizeOf46
  v26 := Try.zeroValue46
  t27 := Try.underlying46
  a27 := Try.isAgg46
  z27 := Try.sizeOf46
  v27 := Try.zeroValue46
  t29 := Try.underlying9
  a29 := Try.isAgg9
  z29 := Try.sizeOf9
  v29 := Try.zeroValue9
  t32 := Try.underlying110
  a32 := Try.isAgg110
  z32 := Try.sizeOf110
  v32 := Try.zeroValue110
  t35 := Try.underlying123
  a35 := Try.isAgg123
  z35 := Try.sizeOf123
  v35 := Try.zeroValue123
  t36 := Try.underlying124
  a36 := Try.isAgg124
  z36 := Try.sizeOf124
  v36 := Try.zeroValue124
  t41 := Try.underlying129
  a41 := Try.isAgg129
  z41 := Try.sizeOf129
  v41 := Try.zeroValue129
  t44 := Try.underlying132
  a44 := Try.isAgg132
  z44 := Try.sizeOf132
  v44 := Try.zeroValue132
  t46 := Try.underlying134
  a46 := Try.isAgg134
  z46 := Try.sizeOf134
  v46 := Try.zeroValue134
  t53 := Try.underlying140
  a53 := Try.isAgg140
  z53 := Try.sizeOf140
  v53 := Try.zeroValue140
  t57 := Try.underlying144
  a57 := Try.isAgg144
  z57 := Try.sizeOf144
  v57 := Try.zeroValue144
  t63 := Try.underlying154
  a63 := Try.isAgg154
  z63 := Try.sizeOf154
  v63 := Try.zeroValue154
  t64 := Try.underlying155
  a64 := Try.isAgg155
  z64 := Try.sizeOf155
  v64 := Try.zeroValue155 }
end Go.Proofs
