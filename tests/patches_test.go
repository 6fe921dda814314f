package tests

import (
	"math/rand"
	"slices"
	"testing"

	"loop.example/g00420/impl"
)

type patch = impl.Patch

func samePatch(a, b patch) bool { return slices.Equal(a.Drop, b.Drop) && slices.Equal(a.Add, b.Add) }

// aPatch reads what is dropped and what is added.
func aPatch(drop, add string) patch { return patch{Drop: graphOf(drop), Add: graphOf(add)} }

func both(a, b []triple) []triple {
	return slices.DeleteFunc(slices.Clone(a), func(x triple) bool { return !slices.Contains(b, x) })
}

func allOf(a, b []triple) []triple { return inOrder(slices.Concat(a, b)) }

func plainPatchOk(p patch) bool {
	return impl.GraphOk(p.Drop) && impl.GraphOk(p.Add) && len(both(p.Drop, p.Add)) == 0
}

// plainPatched is the document's sentence about Patched.
func plainPatched(g []triple, p patch) ([]triple, bool) {
	got := allOf(without(g, p.Drop), p.Add)
	return got, impl.GraphOk(g) && plainPatchOk(p) && impl.GraphOk(got) && hasAll(g, p.Drop) && len(both(g, p.Add)) == 0
}

// plainChained is the document's sentence about Chained.
func plainChained(p, q patch) (patch, bool) {
	r := patch{Drop: allOf(without(p.Drop, q.Add), without(q.Drop, p.Add)), Add: allOf(without(p.Add, q.Drop), without(q.Add, p.Drop))}
	return r, plainPatchOk(p) && plainPatchOk(q) && plainPatchOk(r) && len(both(p.Drop, q.Drop)) == 0 && len(both(p.Add, q.Add)) == 0
}

func wantPatch(t *testing.T, what string, got patch, ok bool, want patch) {
	t.Helper()
	if !ok || !samePatch(got, want) {
		t.Errorf("%s: %v, %v, want %v", what, got, ok, want)
	}
	if !impl.PatchOk(got) {
		t.Errorf("%s: %v is no patch", what, got)
	}
}

func wantNoPatch(t *testing.T, what string, got patch, ok bool) {
	t.Helper()
	if ok || len(got.Drop) != 0 || len(got.Add) != 0 {
		t.Errorf("%s: %v, %v", what, got, ok)
	}
}

// wantWrongPatch asks all functions of the chapter.
func wantWrongPatch(t *testing.T, what string, p patch) {
	t.Helper()
	if impl.PatchOk(p) {
		t.Errorf("%s: %v is no patch", what, p)
	}
	for _, g := range [][]triple{nil, p.Drop, p.Add, inOrder(p.Drop), knot(), smallWorld()} {
		got, ok := impl.Patched(g, p)
		wantNoTriples(t, what+": Patched", got, ok)
	}
	for _, q := range []patch{{}, p, {Drop: p.Add, Add: p.Drop}, {Drop: p.Add}, {Add: p.Drop}, aPatch("<z> <z> <z> .", "<z> <z> <y> .")} {
		got, ok := impl.Chained(p, q)
		wantNoPatch(t, what+": Chained", got, ok)
		got, ok = impl.Chained(q, p)
		wantNoPatch(t, what+": Chained behind another one", got, ok)
	}
	if got := impl.Inverse(p); !samePatch(got, patch{Drop: p.Add, Add: p.Drop}) {
		t.Errorf("%s: Inverse(%v) = %v", what, p, got)
	}
}

func TestPatchesThatAreRight(t *testing.T) {
	full := manyTriples(80)
	for _, p := range []patch{
		{}, {Drop: []triple{}, Add: []triple{}}, {Drop: knot()}, {Add: knot()}, {Drop: smallWorld(), Add: knot()[4:]},
		{Drop: full}, {Add: full}, {Drop: full[:40], Add: full[40:]}, {Drop: full, Add: knot()}, {Drop: twoKinds(80, 0), Add: twoKinds(0, 80)},
		{Drop: graphOf("_:x <p> <a> ."), Add: graphOf("_:y <p> <a> .")}, {Drop: graphOf("<a> <p> <b> ."), Add: graphOf("<a> <p> \"b\" .")},
	} {
		if !impl.PatchOk(p) {
			t.Errorf("%v is right", p)
		}
		if got := impl.Inverse(p); !samePatch(got, patch{Drop: p.Add, Add: p.Drop}) || !impl.PatchOk(got) || !samePatch(impl.Inverse(got), p) {
			t.Errorf("Inverse(%v) = %v", p, got)
		}
		got, ok := impl.Patched(p.Drop, p)
		wantTriples(t, "Patched", got, ok, p.Add)
		got, ok = impl.Patched(p.Add, impl.Inverse(p))
		wantTriples(t, "Patched back", got, ok, p.Drop)
		made, ok := impl.PatchOf(p.Drop, p.Add)
		wantPatch(t, "PatchOf", made, ok, p)
		made, ok = impl.Chained(p, patch{})
		wantPatch(t, "nothing behind it", made, ok, p)
		made, ok = impl.Chained(patch{}, p)
		wantPatch(t, "behind nothing", made, ok, p)
		made, ok = impl.Chained(p, impl.Inverse(p))
		wantPatch(t, "and back", made, ok, patch{})
	}
}

func TestPatchesThatAreNotRight(t *testing.T) {
	for why, g := range wrongGraphs() {
		wantWrongPatch(t, why+" is dropped", patch{Drop: g})
		wantWrongPatch(t, why+" is added", patch{Add: g})
		wantWrongPatch(t, why+" is dropped beside what is right", patch{Drop: g, Add: graphOf("<z> <z> <x> .")})
		wantWrongPatch(t, why+" is added beside what is right", patch{Drop: graphOf("<z> <z> <x> ."), Add: g})
		wantWrongPatch(t, why+" is both", patch{Drop: g, Add: g})
		for _, other := range [][]triple{nil, knot(), g} {
			got, ok := impl.PatchOf(g, other)
			wantNoPatch(t, why+": PatchOf", got, ok)
			got, ok = impl.PatchOf(other, g)
			wantNoPatch(t, why+": PatchOf", got, ok)
		}
		for _, p := range []patch{{}, {Add: knot()}, {Drop: g[:1]}, {Drop: g[len(g)-1:]}} {
			got, ok := impl.Patched(g, p)
			wantNoTriples(t, why+": Patched", got, ok)
		}
	}
	all := knot()
	wantWrongPatch(t, "all together", patch{Drop: all, Add: all})
	for i := range all {
		wantWrongPatch(t, "one together", patch{Drop: all, Add: all[i : i+1]})
		wantWrongPatch(t, "one together", patch{Drop: all[i : i+1], Add: all})
		wantWrongPatch(t, "one together", patch{Drop: all[:i+1], Add: all[i:]})
	}
	wantWrongPatch(t, "81 are dropped", patch{Drop: manyTriples(81)})
	wantWrongPatch(t, "81 are added", patch{Add: manyTriples(81)})
	wantWrongPatch(t, "one of 80 is added", patch{Drop: manyTriples(80), Add: manyTriples(80)[79:]})
}

func TestPatchesOfAFewGraphs(t *testing.T) {
	for _, c := range []struct{ what, a, b, drop, add string }{
		{"nothing", "", "", "", ""},
		{"from nothing", "", "<a> <p> <b> .", "", "<a> <p> <b> ."},
		{"to nothing", "<a> <p> <b> .", "", "<a> <p> <b> .", ""},
		{"the same", "<a> <p> <b> . _:x <p> _:y .", "<a> <p> <b> . _:x <p> _:y .", "", ""},
		{"one stays", "<a> <p> <b> . <a> <p> <c> .", "<a> <p> <c> . <a> <p> <d> .", "<a> <p> <b> .", "<a> <p> <d> ."},
		{"none stays", "<a> <p> <b> . <c> <p> <d> .", "<b> <p> <a> . <a> <q> <b> .", "<a> <p> <b> . <c> <p> <d> .", "<a> <q> <b> . <b> <p> <a> ."},
		{"S, P and O alike in two", "<a> <p> <b> . <a> <q> <c> .", "<a> <p> <c> . <a> <q> <b> .", "<a> <p> <b> . <a> <q> <c> .", "<a> <p> <c> . <a> <q> <b> ."},
		{"blanks are held against each other by their names", "_:x <p> <a> .", "_:y <p> <a> .", "_:x <p> <a> .", "_:y <p> <a> ."},
	} {
		a, b := graphOf(c.a), graphOf(c.b)
		p, ok := impl.PatchOf(a, b)
		wantPatch(t, c.what, p, ok, aPatch(c.drop, c.add))
		got, ok := impl.Patched(a, p)
		wantTriples(t, c.what+": there", got, ok, b)
		got, ok = impl.Patched(b, impl.Inverse(p))
		wantTriples(t, c.what+": back", got, ok, a)
	}
}

func TestPatchingSomeGraphs(t *testing.T) {
	for _, c := range []struct {
		what, g, drop, add, want string
		ok                       bool
	}{
		{"nothing", "", "", "", "", true},
		{"nothing of something", "<a> <p> <b> .", "", "", "<a> <p> <b> .", true},
		{"some for others", "<a> <p> <b> . <c> <p> <d> .", "<a> <p> <b> .", "<b> <p> <c> . <z> <z> <z> .", "<b> <p> <c> . <c> <p> <d> . <z> <z> <z> .", true},
		{"what is added comes ahead", "<b> <p> <b> . <c> <p> <c> .", "<c> <p> <c> .", "<a> <p> <a> .", "<a> <p> <a> . <b> <p> <b> .", true},
		{"all goes", "<a> <p> <b> . <c> <p> <d> .", "<a> <p> <b> . <c> <p> <d> .", "", "", true},
		{"one of them is missing", "<a> <p> <b> .", "<a> <p> <b> . <c> <p> <d> .", "", "", false},
		{"the first of them is missing", "<c> <p> <d> .", "<a> <p> <b> . <c> <p> <d> .", "<e> <p> <f> .", "", false},
		{"all are missing", "", "<a> <p> <b> .", "", "", false},
		{"a blank of another name", "_:x <p> <b> .", "_:y <p> <b> .", "", "", false},
		{"one is there", "<a> <p> <b> .", "", "<a> <p> <b> . <c> <p> <d> .", "", false},
		{"the last one is there", "<c> <p> <d> .", "", "<a> <p> <b> . <c> <p> <d> .", "", false},
		{"one is there, and what is dropped, too", "<a> <p> <b> . <c> <p> <d> .", "<a> <p> <b> .", "<c> <p> <d> .", "", false},
		{"one is missing, and what is added, too", "<e> <p> <f> .", "<a> <p> <b> .", "<c> <p> <d> .", "", false},
		{"one is missing, and one is there", "<c> <p> <d> .", "<a> <p> <b> .", "<c> <p> <d> .", "", false},
	} {
		got, ok := impl.Patched(graphOf(c.g), aPatch(c.drop, c.add))
		if c.ok {
			wantTriples(t, c.what, got, ok, graphOf(c.want))
		} else {
			wantNoTriples(t, c.what, got, ok)
		}
	}
}

func TestEightyTriplesComeOfAPatch(t *testing.T) {
	all := manyTriples(81)
	for n := range 81 {
		g, more := all[:n], all[n:]
		got, ok := impl.Patched(g, patch{Add: more[:80-n]})
		wantTriples(t, "80", got, ok, all[:80])
		if n > 0 {
			got, ok = impl.Patched(g, patch{Add: more})
			wantNoTriples(t, "81", got, ok)
			got, ok = impl.Patched(all[:80], patch{Drop: g, Add: all[80:]})
			wantTriples(t, "room by what is dropped", got, ok, all[n:])
		}
	}
	full, others := twoKinds(80, 0), twoKinds(0, 80)
	for i := range full {
		got, ok := impl.Patched(full, patch{Drop: full[i : i+1], Add: others[:1]})
		wantTriples(t, "one for one", got, ok, allOf(without(full, full[i:i+1]), others[:1]))
		got, ok = impl.Patched(full, patch{Drop: full[i : i+1], Add: others[:2]})
		wantNoTriples(t, "two for one", got, ok)
	}
	got, ok := impl.Patched(full, patch{Drop: full, Add: others})
	wantTriples(t, "80 for 80", got, ok, others)
	got, ok = impl.Patched(full, patch{Add: others[:1]})
	wantNoTriples(t, "one more", got, ok)
	got, ok = impl.Patched(manyTriples(81), patch{Drop: manyTriples(81)[:1]})
	wantNoTriples(t, "a graph of 81", got, ok)
	for _, g := range [][]triple{nil, full} {
		for _, h := range [][]triple{full, others} {
			p, ok := impl.PatchOf(g, h)
			wantPatch(t, "PatchOf", p, ok, patch{Drop: without(g, h), Add: without(h, g)})
			made, ok := impl.PatchOf(g, manyTriples(81))
			wantNoPatch(t, "PatchOf", made, ok)
		}
	}
}

func TestChainingSomePatches(t *testing.T) {
	x, y, z := "<a> <p> <b> . ", "<b> <p> <c> . ", "<c> <p> <d> . "
	for _, c := range []struct {
		what, pDrop, pAdd, qDrop, qAdd, drop, add string
		ok                                        bool
	}{
		{"nothing", "", "", "", "", "", "", true},
		{"neither", x, y, z, "<z> <z> <z> .", x + z, y + "<z> <z> <z> .", true},
		{"both drop something", x, "", y, "", x + y, "", true},
		{"both add something", "", z, "", y, "", y + z, true},
		{"one drops, the other one adds", x, "", "", y, x, y, true},
		{"one adds, the other one drops", "", x, y, "", y, x, true},
		{"q adds what p drops", x, "", "", x, "", "", true},
		{"q adds what p drops, and more", x + y, "", "", x + z, y, z, true},
		{"q drops what p adds", "", x, x, "", "", "", true},
		{"q drops what p adds, and more", "", x + y, x + z, "", z, y, true},
		{"both", x, y, y, x, "", "", true},
		{"both, and more", x + "<a> <q> <a> .", y + "<b> <q> <b> .", y + "<c> <q> <c> .", x + "<d> <q> <d> .", "<a> <q> <a> . <c> <q> <c> .", "<b> <q> <b> . <d> <q> <d> .", true},
		{"both drop one", x, "", x, "", "", "", false},
		{"both drop one of some", x + y, "<q> <q> <q> .", y + z, "", "", "", false},
		{"both add one", "", x, "", x, "", "", false},
		{"both add one of some", z, x, y, x, "", "", false},
		{"both drop one, and q adds what p drops", x + y, "", x, y, "", "", false},
		{"both add one, and q drops what p adds", "", x + y, x, y, "", "", false},
		{"both drop one and add one", x, y, x, y, "", "", false},
	} {
		p, q := aPatch(c.pDrop, c.pAdd), aPatch(c.qDrop, c.qAdd)
		got, ok := impl.Chained(p, q)
		if c.ok {
			wantPatch(t, c.what, got, ok, aPatch(c.drop, c.add))
		} else {
			wantNoPatch(t, c.what, got, ok)
		}
	}
}

func TestEightyTriplesComeOfTwoPatches(t *testing.T) {
	all, others := twoKinds(81, 0), twoKinds(0, 80)
	for _, n := range []int{0, 1, 40, 79, 80} {
		p, q, r := all[:n], all[n:80], all[n:81]
		got, ok := impl.Chained(patch{Drop: p}, patch{Drop: q})
		wantPatch(t, "80 are dropped", got, ok, patch{Drop: all[:80]})
		got, ok = impl.Chained(patch{Add: q}, patch{Add: p})
		wantPatch(t, "80 are added", got, ok, patch{Add: all[:80]})
		got, ok = impl.Chained(patch{Drop: p, Add: others[:50]}, patch{Drop: q, Add: others[50:]})
		wantPatch(t, "80 are dropped and 80 added", got, ok, patch{Drop: all[:80], Add: others})
		if n == 0 {
			continue
		}
		got, ok = impl.Chained(patch{Drop: p}, patch{Drop: r})
		wantNoPatch(t, "81 are dropped", got, ok)
		got, ok = impl.Chained(patch{Add: p}, patch{Add: r})
		wantNoPatch(t, "81 are added", got, ok)
		got, ok = impl.Chained(patch{Drop: p, Add: others[:3]}, patch{Drop: r})
		wantNoPatch(t, "81 are dropped, and 3 added", got, ok)
		got, ok = impl.Chained(patch{Drop: p, Add: others[:1]}, patch{Drop: append(slices.Clone(r), others[0])})
		wantNoPatch(t, "81 are dropped, though one comes to nothing", got, ok)
		// What comes to nothing makes room.
		got, ok = impl.Chained(patch{Drop: p}, patch{Drop: r, Add: p[:1]})
		wantPatch(t, "81 but one that comes back", got, ok, patch{Drop: all[1:81]})
		got, ok = impl.Chained(patch{Add: p}, patch{Drop: p[:1], Add: r})
		wantPatch(t, "81 but one that goes again", got, ok, patch{Add: all[1:81]})
	}
	full := all[:80]
	got, ok := impl.Chained(patch{Drop: full, Add: others}, patch{Drop: others, Add: full})
	wantPatch(t, "80 there and back", got, ok, patch{})
	got, ok = impl.Chained(patch{Drop: full, Add: others}, patch{Drop: others, Add: all[1:]})
	wantPatch(t, "80 there and nearly back", got, ok, patch{Drop: all[:1], Add: all[80:]})
	got, ok = impl.Chained(patch{Drop: full}, patch{Drop: others})
	wantNoPatch(t, "160", got, ok)
}

func TestPatchesAreAsTheDocumentSays(t *testing.T) {
	dice := rand.New(rand.NewSource(83))
	all := knot()
	some := func(g []triple) []triple { return chosen(g, dice.Intn(1<<11)&dice.Intn(1<<11)&dice.Intn(1<<11)) }
	patched, chained := 0, 0
	for range 20000 {
		g, p, q := chosen(all, dice.Intn(1<<11)), patch{Drop: some(all), Add: some(all)}, patch{Drop: some(all), Add: some(all)}
		if impl.PatchOk(p) != plainPatchOk(p) {
			t.Fatal(p)
		}
		want, fine := plainPatched(g, p)
		got, ok := impl.Patched(g, p)
		if fine {
			wantTriples(t, "Patched", got, ok, want)
			patched++
		} else {
			wantNoTriples(t, "Patched", got, ok)
		}
		wantPlain, fine := plainChained(p, q)
		one, ok := impl.Chained(p, q)
		if fine {
			wantPatch(t, "Chained", one, ok, wantPlain)
			chained++
		} else {
			wantNoPatch(t, "Chained", one, ok)
		}
		if t.Failed() {
			t.Fatalf("of %v, %v, %v", g, p, q)
		}
	}
	if patched < 300 || chained < 300 {
		t.Errorf("only %d patched, %d chained", patched, chained)
	}
}

// Where two patches can be done one behind the other, the one that they make does the same.
func TestTwoPatchesOneBehindTheOtherAreOne(t *testing.T) {
	all := smallWorld()[:4]
	for i := range 1 << 4 {
		for j := range 1 << 4 {
			a, b := chosen(all, i), chosen(all, j)
			p, ok := impl.PatchOf(a, b)
			wantPatch(t, "there", p, ok, patch{Drop: chosen(all, i&^j), Add: chosen(all, j&^i)})
			back, ok := impl.PatchOf(b, a)
			wantPatch(t, "back", back, ok, impl.Inverse(p))
			got, ok := impl.Patched(a, p)
			wantTriples(t, "there", got, ok, b)
			got, ok = impl.Patched(b, impl.Inverse(p))
			wantTriples(t, "back", got, ok, a)
			for k := range 1 << 4 {
				c := chosen(all, k)
				q, _ := impl.PatchOf(b, c)
				whole, _ := impl.PatchOf(a, c)
				one, ok := impl.Chained(p, q)
				wantPatch(t, "one", one, ok, whole)
				got, ok = impl.Patched(a, one)
				wantTriples(t, "one", got, ok, c)
				turned, ok := impl.Chained(impl.Inverse(q), impl.Inverse(p))
				wantPatch(t, "turned round", turned, ok, impl.Inverse(one))
			}
		}
	}
}
