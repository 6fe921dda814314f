package tests

import (
	"math/rand"
	"slices"
	"strings"
	"testing"

	"loop.example/g00420/impl"
)

// graphOf reads triples and puts them in order; no term has a blank in it.
func graphOf(s string) []triple {
	g := inOrder(readPatterns(s))
	if !impl.GraphOk(g) {
		panic("not a right graph: " + s)
	}
	return g
}

// renamings reads pairs, each an old name and a new one with = between them.
func renamings(s string) []pair { return readRow(s) }

func isPlainBlank(word string) bool { return plainKind(word) == impl.TmBlank }

// plainRenamed is the document's sentence about Renamed, of a right graph.
func plainRenamed(g []triple, l []pair) ([]triple, bool) {
	var renamed []triple
	for _, x := range g {
		for _, place := range []*string{&x.S, &x.O} {
			if i := slices.IndexFunc(l, func(p pair) bool { return p.Var == *place }); i >= 0 {
				*place = l[i].Term
			}
		}
		renamed = append(renamed, x)
	}
	return inOrder(renamed), !slices.ContainsFunc(l, func(p pair) bool { return !isPlainBlank(p.Var) || !isPlainBlank(p.Term) })
}

// plainBlanks goes through S and O of each triple.
func plainBlanks(g []triple) []string {
	var blanks []string
	for _, x := range g {
		for _, word := range []string{x.S, x.O} {
			if strings.HasPrefix(word, "_:") {
				blanks = append(blanks, word)
			}
		}
	}
	slices.Sort(blanks)
	return slices.Compact(blanks)
}

func wantBlanks(t *testing.T, what string, g []triple, want ...string) {
	t.Helper()
	if got := impl.BlanksOf(g); !slices.Equal(got, want) {
		t.Errorf("%s: BlanksOf(%v) = %q, want %q", what, g, got, want)
	}
}

func TestBlanksOfAGraph(t *testing.T) {
	for _, c := range []struct {
		what, g string
		want    []string
	}{
		{"no triples", "", nil},
		{"no blanks", "<a> <p> <b> . <a> <p> \"t\" .", nil},
		{"as S alone", "_:x <p> <b> .", []string{"_:x"}},
		{"as O alone", "<a> <p> _:x .", []string{"_:x"}},
		{"as both of one triple", "_:x <p> _:x .", []string{"_:x"}},
		{"two in one triple", "_:y <p> _:x .", []string{"_:x", "_:y"}},
		{"one in many triples", "_:x <p> <a> . _:x <q> <a> . <a> <p> _:x . <a> <q> _:x .", []string{"_:x"}},
		{"of S and of O among one another", "_:a <p> _:d . _:c <p> _:b . <e> <p> _:a . _:e <p> <e> .", []string{"_:a", "_:b", "_:c", "_:d", "_:e"}},
		{"rising as bytes", "_:b10 <p> _:b9 . _:b <p> _:b1 . _:z <p> _:10 . _:9 <p> <a> .", []string{"_:10", "_:9", "_:b", "_:b1", "_:b10", "_:b9", "_:z"}},
		{"texts that look like blanks", "<a> <p> \"_:x\" . <a> <p> \"_:\" .", nil},
		{"names that look like blanks", "<:x> <:y> <b:z> .", nil},
		{"beside a text that looks like it", "<a> <p> \"_:x\" . _:y <p> \"_:y\" .", []string{"_:y"}},
	} {
		wantBlanks(t, c.what, graphOf(c.g), c.want...)
	}
}

func TestMoreBlanksThanCanonicalTakes(t *testing.T) {
	var g []triple
	var names []string
	for i := range 80 {
		name := "_:" + varName(i)[1:]
		names = append(names, name, "_:z"+name[2:])
		g = append(g, triple{S: name, P: "<p>", O: "_:z" + name[2:]})
	}
	slices.Sort(names)
	wantBlanks(t, "160 blanks", g, names...)
	if got := impl.BlanksOf(append(g, triple{S: "_:zzz", P: "<p>", O: "<o>"})); len(got) != 0 {
		t.Error("81 triples", got)
	}
}

func TestAGraphThatIsNotRightHasNoBlanks(t *testing.T) {
	for why, g := range wrongGraphs() {
		wantBlanks(t, why, g)
		got, ok := impl.Renamed(g, renamings("_:b=_:c"))
		wantNoTriples(t, why+": Renamed", got, ok)
		got, ok = impl.Renamed(g, nil)
		wantNoTriples(t, why+": Renamed with no pairs", got, ok)
		got, ok = impl.Canonical(g)
		wantNoTriples(t, why+": Canonical", got, ok)
		if impl.Alike(g, g) || impl.Alike(g, nil) || impl.Alike(nil, g) {
			t.Error(why + ": Alike")
		}
	}
}

func TestRenamingSomeGraphs(t *testing.T) {
	for _, c := range []struct{ what, g, l, want string }{
		{"no pairs", "_:x <p> _:y .", "", "_:x <p> _:y ."},
		{"no triples", "", "_:x=_:y", ""},
		{"as S alone", "_:x <p> <x> .", "_:x=_:y", "_:y <p> <x> ."},
		{"as O alone", "<x> <p> _:x .", "_:x=_:y", "<x> <p> _:y ."},
		{"as both of one triple", "_:x <p> _:x .", "_:x=_:y", "_:y <p> _:y ."},
		{"in many triples", "_:x <p> <a> . _:x <q> _:y . <a> <p> _:x .", "_:x=_:z", "_:z <p> <a> . _:z <q> _:y . <a> <p> _:z ."},
		{"texts that look like it", "<a> <p> \"_:x\" . _:x <p> \"_:x\" .", "_:x=_:y", "<a> <p> \"_:x\" . _:y <p> \"_:x\" ."},
		{"names that look like it", "<x> <x> <x> . <:x> <:x> <:x> .", "_:x=_:y", "<x> <x> <x> . <:x> <:x> <:x> ."},
		{"one that begins with the other", "_:x <p> _:xx .", "_:x=_:y", "_:y <p> _:xx ."},
		{"two pairs of one Var", "_:x <p> <a> .", "_:x=_:y _:x=_:z", "_:y <p> <a> ."},
		{"two pairs of one Var, the other way", "_:x <p> <a> .", "_:x=_:z _:x=_:y", "_:z <p> <a> ."},
		{"two pairs of one Var, the first one says nothing new", "_:x <p> <a> .", "_:x=_:x _:x=_:y", "_:x <p> <a> ."},
		{"two pairs of one Var, another one between them", "_:x <p> _:y .", "_:x=_:v _:y=_:w _:x=_:w _:y=_:v", "_:v <p> _:w ."},
		{"a chain", "_:x <p> _:y .", "_:x=_:y _:y=_:z", "_:y <p> _:z ."},
		{"a chain, told backwards", "_:x <p> _:y .", "_:y=_:z _:x=_:y", "_:y <p> _:z ."},
		{"a chain to what is not there", "_:x <p> <a> .", "_:x=_:y _:y=_:z", "_:y <p> <a> ."},
		{"a swap", "_:x <p> _:y . _:x <q> <a> .", "_:x=_:y _:y=_:x", "_:y <p> _:x . _:y <q> <a> ."},
		{"a ring of three", "_:x <p> _:y . _:y <p> _:z . _:x <q> _:z .", "_:x=_:y _:y=_:z _:z=_:x", "_:y <p> _:z . _:z <p> _:x . _:y <q> _:x ."},
		{"two come to be one", "_:x <p> _:y .", "_:x=_:y", "_:y <p> _:y ."},
		{"two come to be a third one", "_:x <p> _:y .", "_:x=_:z _:y=_:z", "_:z <p> _:z ."},
		{"triples fall together", "_:x <p> <a> . _:y <p> <a> . <a> <p> _:x . <a> <p> _:y . _:x <q> <a> .", "_:x=_:y", "_:y <p> <a> . <a> <p> _:y . _:y <q> <a> ."},
		{"all fall together", "_:v <p> _:w . _:v <p> _:x . _:w <p> _:v . _:x <p> _:x .", "_:v=_:z _:w=_:z _:x=_:z", "_:z <p> _:z ."},
		{"the order changes", "_:a <p> <a> . _:b <p> <a> . _:c <p> <a> .", "_:a=_:z", "_:z <p> <a> . _:b <p> <a> . _:c <p> <a> ."},
		{"the order of O changes", "<a> <p> _:a . <a> <p> _:b . <a> <p> <c> . <a> <q> _:a .", "_:a=_:zz _:b=_:z", "<a> <p> _:zz . <a> <p> _:z . <a> <p> <c> . <a> <q> _:zz ."},
		{"no blank of the graph", "_:x <p> <a> .", "_:z=_:y", "_:x <p> <a> ."},
		{"no blank of the graph, among others", "_:x <p> <a> .", "_:v=_:w _:x=_:v _:y=_:x", "_:v <p> <a> ."},
		{"no blank in the graph", "<a> <p> <b> .", "_:x=_:y _:a=_:b", "<a> <p> <b> ."},
		{"long names", "_:abcdef <p> _:0 .", "_:abcdef=_:012345 _:0=_:zzzzzz", "_:012345 <p> _:zzzzzz ."},
	} {
		g, l := graphOf(c.g), renamings(c.l)
		got, ok := impl.Renamed(g, l)
		wantTriples(t, c.what, got, ok, graphOf(c.want))
		plain, fine := plainRenamed(g, l)
		wantTriples(t, c.what+", told plainly", plain, fine, graphOf(c.want))
	}
}

func TestRenamingFromAndToWhatIsNoBlank(t *testing.T) {
	right := renamings("_:x=_:y _:y=_:z")
	wrong := []pair{{}}
	for word, kind := range wordsByKind() {
		if kind != impl.TmBlank {
			wrong = append(wrong, pair{Var: "_:x", Term: word}, pair{Var: word, Term: "_:x"}, pair{Var: word, Term: word}, pair{Var: "_:none", Term: word})
		}
	}
	for _, word := range []string{"_:", "_:A", "_:1234567", "_:x ", " _:x", "_:x\n", "_", "x", ":x", "\"_:x\"", "<x>", "_:x .", "_:_:x", "_:-"} {
		wrong = append(wrong, pair{Var: "_:x", Term: word}, pair{Var: word, Term: "_:x"})
	}
	for _, p := range wrong {
		for i := range len(right) + 1 {
			l := slices.Insert(slices.Clone(right), i, p)
			for _, g := range [][]triple{nil, graphOf("_:x <p> _:y ."), graphOf("<a> <p> <b> ."), knot(), manyTriples(80)} {
				got, ok := impl.Renamed(g, l)
				wantNoTriples(t, p.Var+" to "+p.Term, got, ok)
			}
		}
		got, ok := impl.Renamed(graphOf("_:x <p> <a> ."), []pair{p})
		wantNoTriples(t, p.Var+" to "+p.Term+" alone", got, ok)
	}
	// A pair that does not count, as another one has its Var, has to be right all the same.
	got, ok := impl.Renamed(graphOf("_:x <p> <a> ."), renamings("_:x=_:y _:x=<a>"))
	wantNoTriples(t, "behind one that counts", got, ok)
}

func TestRenamingWithManyPairs(t *testing.T) {
	var l []pair
	for i := range 600 {
		l = append(l, pair{Var: "_:" + varName(i)[1:], Term: "_:a" + varName(599 - i)[1:]})
	}
	g := graphOf("_:aa <p> _:ab . _:xb <p> <a> . _:zz <q> _:aa .")
	want, _ := plainRenamed(g, l)
	got, ok := impl.Renamed(g, l)
	wantTriples(t, "600 pairs", got, ok, want)
	full := manyTriples(80)
	want, _ = plainRenamed(full, renamings("_:o=_:a _:a=_:o"))
	got, ok = impl.Renamed(full, renamings("_:o=_:a _:a=_:o"))
	wantTriples(t, "80 triples", got, ok, want)
	got, ok = impl.Renamed(manyTriples(81), nil)
	wantNoTriples(t, "81 triples", got, ok)
}

// blankGraphBy gives a graph over few names and n blanks, with what else may stand in it.
func blankGraphBy(dice *rand.Rand, n int, blanks ...string) []triple {
	pick := func(words ...string) string { return words[dice.Intn(len(words))] }
	var g []triple
	for range n {
		g = append(g, triple{S: pick(append([]string{"<a>"}, blanks...)...), P: pick("<p>", "<p>", "<q>"), O: pick(append([]string{"<a>", "\"_:x\"", "\"t\""}, blanks...)...)})
	}
	return inOrder(g)
}

func TestRenamingIsAsTheDocumentSays(t *testing.T) {
	dice := rand.New(rand.NewSource(71))
	names := []string{"_:v", "_:w", "_:x", "_:y", "_:z", "_:b0"}
	together := 0
	for range 2000 {
		g := blankGraphBy(dice, dice.Intn(9), names[:4]...)
		var l []pair
		for range dice.Intn(6) {
			l = append(l, pair{Var: names[dice.Intn(6)], Term: names[dice.Intn(6)]})
		}
		if dice.Intn(10) == 0 {
			l = append(l, pair{Var: "_:v", Term: []string{"<a>", "\"t\"", "?v", ""}[dice.Intn(4)]})
		}
		want, fine := plainRenamed(g, l)
		got, ok := impl.Renamed(g, l)
		if !fine {
			wantNoTriples(t, "a wrong pair", got, ok)
			continue
		}
		wantTriples(t, "Renamed", got, ok, want)
		if !slices.Equal(impl.BlanksOf(g), plainBlanks(g)) || !slices.Equal(impl.BlanksOf(got), plainBlanks(want)) {
			t.Error(g, impl.BlanksOf(g))
		}
		if t.Failed() {
			t.Fatalf("of %v, %v", g, l)
		}
		if len(want) < len(g) {
			together++
		}
	}
	if together < 50 {
		t.Errorf("only of %d do triples fall together", together)
	}
}
