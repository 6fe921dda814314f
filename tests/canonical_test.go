package tests

import (
	"math/rand"
	"slices"
	"strconv"
	"testing"

	"loop.example/g00420/impl"
)

// permutations gives all orders of the numbers 0 .. n - 1.
func permutations(n int) [][]int {
	list := [][]int{{}}
	for i := range n {
		var longer [][]int
		for _, l := range list {
			for place := range len(l) + 1 {
				longer = append(longer, slices.Insert(slices.Clone(l), place, i))
			}
		}
		list = longer
	}
	return list
}

// allRenamed gives the graph in all ways to rename its blanks to the names.
func allRenamed(g []triple, names []string) [][]triple {
	blanks := plainBlanks(g)
	var list [][]triple
	for _, order := range permutations(len(blanks)) {
		var l []pair
		for i, blank := range blanks {
			l = append(l, pair{Var: blank, Term: names[order[i]]})
		}
		renamed, _ := plainRenamed(g, l)
		list = append(list, renamed)
	}
	return list
}

// plainCanonical is the document's sentence about Canonical, of a right graph.
func plainCanonical(g []triple) ([]triple, bool) {
	var names []string
	for i := range plainBlanks(g) {
		names = append(names, "_:b"+strconv.Itoa(i))
	}
	if len(names) > 5 {
		return nil, false
	}
	list := allRenamed(g, names)
	least := list[0]
	for _, renamed := range list {
		if textOfAll(renamed) < textOfAll(least) {
			least = renamed
		}
	}
	return least, true
}

// wantCanonical asks, too, whether what is canonical stays as it is.
func wantCanonical(t *testing.T, what string, g, want []triple) {
	t.Helper()
	got, ok := impl.Canonical(g)
	wantTriples(t, what, got, ok, want)
	plain, ok := plainCanonical(g)
	wantTriples(t, what+", told plainly", plain, ok, want)
	again, ok := impl.Canonical(got)
	wantTriples(t, what+", once more", again, ok, want)
	if !impl.GraphOk(got) || !impl.Alike(g, g) || !impl.Alike(g, got) || !impl.Alike(got, g) {
		t.Errorf("%s: %v is not like %v", what, g, got)
	}
}

func wantNoCanonical(t *testing.T, what string, g []triple) {
	t.Helper()
	got, ok := impl.Canonical(g)
	wantNoTriples(t, what, got, ok)
	for _, other := range [][]triple{g, nil, knot(), graphOf("_:x <p> _:y .")} {
		if impl.Alike(g, other) || impl.Alike(other, g) {
			t.Errorf("%s: is like %v", what, other)
		}
	}
}

func TestCanonicalGraphsOfAFewBlanks(t *testing.T) {
	for _, c := range []struct{ what, g, want string }{
		{"none", "", ""},
		{"no blanks", "<a> <p> <b> . <a> <p> \"_:b\" . <z> <p> <a> .", "<a> <p> <b> . <a> <p> \"_:b\" . <z> <p> <a> ."},
		{"one as S", "_:x <p> <a> .", "_:b0 <p> <a> ."},
		{"one as O", "<a> <p> _:x .", "<a> <p> _:b0 ."},
		{"one as both", "_:x <p> _:x .", "_:b0 <p> _:b0 ."},
		{"one that is named so already", "_:b0 <p> <a> .", "_:b0 <p> <a> ."},
		{"one that is named like the second", "_:b1 <p> <a> .", "_:b0 <p> <a> ."},
		{"one that is named like none", "_:b5 <p> <a> . <a> <p> \"_:b5\" .", "_:b0 <p> <a> . <a> <p> \"_:b5\" ."},
		{"one that begins like them", "_:b <p> _:b00 .", "_:b0 <p> _:b1 ."},
		{"named so already", "_:b0 <p> <a> . _:b1 <p> <b> . _:b2 <p> <c> .", "_:b0 <p> <a> . _:b1 <p> <b> . _:b2 <p> <c> ."},
		{"named so already, in another order", "_:b1 <p> <a> . _:b2 <p> <b> . _:b0 <p> <c> .", "_:b0 <p> <a> . _:b1 <p> <b> . _:b2 <p> <c> ."},
		{"named so, but with gaps", "_:b4 <p> <a> . _:b2 <p> <b> .", "_:b0 <p> <a> . _:b1 <p> <b> ."},
		{"an arrow", "_:x <p> _:y .", "_:b0 <p> _:b1 ."},
		{"an arrow back", "_:y <p> _:x .", "_:b0 <p> _:b1 ."},
		{"the one with the least P is the first", "_:x <q> <a> . _:y <p> <z> .", "_:b0 <p> <z> . _:b1 <q> <a> ."},
		{"the one with more triples is the first", "_:x <p> <a> . _:y <p> <a> . _:y <p> <b> .", "_:b0 <p> <a> . _:b0 <p> <b> . _:b1 <p> <a> ."},
		{"the one with fewer triples is the last, whatever comes then", "_:x <p> <a> . _:x <q> <z> . _:y <p> <a> . <c> <p> _:x .", "<c> <p> _:b0 . _:b0 <p> <a> . _:b0 <q> <z> . _:b1 <p> <a> ."},
		{"names come ahead of blanks", "_:x <p> _:y . _:y <p> <z> .", "_:b0 <p> <z> . _:b1 <p> _:b0 ."},
		{"one that stands for itself is the first", "_:y <p> _:y . _:x <p> _:y .", "_:b0 <p> _:b0 . _:b1 <p> _:b0 ."},
		{"what stands as O of a name", "<a> <p> _:x . <a> <q> _:y . _:y <p> <a> .", "<a> <p> _:b0 . <a> <q> _:b1 . _:b1 <p> <a> ."},
		{"two of them, told by what comes last", "<a> <p> _:x . <a> <p> _:y . _:x <p> <b> . _:y <p> <a> .", "<a> <p> _:b0 . <a> <p> _:b1 . _:b0 <p> <a> . _:b1 <p> <b> ."},
	} {
		wantCanonical(t, c.what, graphOf(c.g), graphOf(c.want))
	}
	if impl.MaxBlanks != 5 {
		t.Error("MaxBlanks")
	}
}

// Each of these has two blanks: as bytes, the object of _:y is less, though one could think otherwise.
func TestTheLeastTextIsLeastAsBytes(t *testing.T) {
	for _, c := range []struct{ what, x, y string }{
		{"what a text says", "\"\\n\"", "\"Z\""},
		{"what a text says, behind something", "\"a\\n\"", "\"a !\""},
		{"a text of nothing", "\"\"", "\" \""},
		{"a text of nothing, and a mark", "\"\"", "\"!\""},
		{"a text that begins like the other", "\"a\"", "\"a b\""},
		{"an escaped quote", "\"\\\"\"", "\"A\""},
		{"the number of a kind", "<a>", "\"z\""},
		{"a name that begins like the other", "<a>", "<a:b>"},
		{"a name that is longer by a digit", "<a>", "<a0>"},
		{"a sign is more than a figure", "<a:>", "<a9>"},
		{"a sign is less than a figure", "<a9>", "<a#>"},
		{"numbers as texts", "<9>", "<10>"},
		{"large letters ahead of small ones", "\"a\"", "\"Z\""},
		{"a long text ahead of a short one", "\"b\"", "\"aaaaaaaaaaaa\""},
	} {
		g := inOrder([]triple{{S: "_:x", P: "<p>", O: c.x}, {S: "_:y", P: "<p>", O: c.y}})
		wantCanonical(t, c.what, g, []triple{{S: "_:b0", P: "<p>", O: c.y}, {S: "_:b1", P: "<p>", O: c.x}})
		g = inOrder([]triple{{S: "_:x", P: "<p>", O: c.y}, {S: "_:y", P: "<p>", O: c.x}})
		wantCanonical(t, c.what+", the other way", g, []triple{{S: "_:b0", P: "<p>", O: c.y}, {S: "_:b1", P: "<p>", O: c.x}})
	}
	// The first triples decide, however much less the ones behind them could be.
	g := graphOf("_:x <p> <b> . _:x <q> <z> . _:y <p> <c> . _:y <p> <a> . _:y <q> <a> . _:x <o> _:x .")
	wantCanonical(t, "the first one", g, graphOf("_:b0 <o> _:b0 . _:b0 <p> <b> . _:b0 <q> <z> . _:b1 <p> <a> . _:b1 <p> <c> . _:b1 <q> <a> ."))
	// A blank behind which less stands as bytes is less, though its P is longer.
	g = graphOf("_:x <pp> <a> . _:y <p:p:p:p> <z> .")
	wantCanonical(t, "a long P", g, graphOf("_:b0 <p:p:p:p> <z> . _:b1 <pp> <a> ."))
}

func TestRingsHaveOneCanonicalGraphInManyWays(t *testing.T) {
	for _, c := range []struct{ what, g, want string }{
		{"two", "_:v <p> _:w . _:w <p> _:v .", "_:b0 <p> _:b1 . _:b1 <p> _:b0 ."},
		{"three", "_:v <p> _:w . _:w <p> _:x . _:x <p> _:v .", "_:b0 <p> _:b1 . _:b1 <p> _:b2 . _:b2 <p> _:b0 ."},
		{"five", "_:v <p> _:x . _:x <p> _:z . _:z <p> _:w . _:w <p> _:y . _:y <p> _:v .", "_:b0 <p> _:b1 . _:b1 <p> _:b2 . _:b2 <p> _:b3 . _:b3 <p> _:b4 . _:b4 <p> _:b0 ."},
		{"two and three", "_:v <p> _:x . _:x <p> _:v . _:z <p> _:w . _:w <p> _:y . _:y <p> _:z .", "_:b0 <p> _:b1 . _:b1 <p> _:b0 . _:b2 <p> _:b3 . _:b3 <p> _:b4 . _:b4 <p> _:b2 ."},
		{"two and two and one", "_:v <p> _:x . _:x <p> _:v . _:z <p> _:w . _:w <p> _:z . _:y <p> _:y .", "_:b0 <p> _:b0 . _:b1 <p> _:b2 . _:b2 <p> _:b1 . _:b3 <p> _:b4 . _:b4 <p> _:b3 ."},
		{"a ring with a mark", "_:v <p> _:w . _:w <p> _:x . _:x <p> _:v . _:w <q> <a> .", "_:b0 <p> _:b1 . _:b0 <q> <a> . _:b1 <p> _:b2 . _:b2 <p> _:b0 ."},
		{"each with each", "_:v <p> _:w . _:v <p> _:x . _:w <p> _:v . _:w <p> _:x . _:x <p> _:v . _:x <p> _:w .", "_:b0 <p> _:b1 . _:b0 <p> _:b2 . _:b1 <p> _:b0 . _:b1 <p> _:b2 . _:b2 <p> _:b0 . _:b2 <p> _:b1 ."},
		{"five alike", "<a> <p> _:v . <a> <p> _:w . <a> <p> _:x . <a> <p> _:y . <a> <p> _:z .", "<a> <p> _:b0 . <a> <p> _:b1 . <a> <p> _:b2 . <a> <p> _:b3 . <a> <p> _:b4 ."},
	} {
		g, want := graphOf(c.g), graphOf(c.want)
		wantCanonical(t, c.what, g, want)
		for _, renamed := range allRenamed(g, []string{"_:b3", "_:zzzzzz", "_:b0", "_:0", "_:b1"}[:len(plainBlanks(g))]) {
			got, ok := impl.Canonical(renamed)
			wantTriples(t, c.what, got, ok, want)
			if !impl.Alike(renamed, g) {
				t.Error(c.what, renamed)
			}
		}
	}
	five, parted := "_:v <p> _:x . _:x <p> _:z . _:z <p> _:w . _:w <p> _:y . _:y <p> _:v .", "_:v <p> _:x . _:x <p> _:v . _:z <p> _:w . _:w <p> _:y . _:y <p> _:z ."
	if impl.Alike(graphOf(five), graphOf(parted)) {
		t.Error("a ring of five is not two rings")
	}
}

func TestFiveBlanksAreNotTooMany(t *testing.T) {
	names := []string{"_:e", "_:d", "_:c", "_:b", "_:a", "_:b0"}
	var full []triple
	for i := range 80 {
		full = append(full, triple{S: names[i%5], P: "<p" + strconv.Itoa(i*i%7) + ">", O: []string{names[i*3%5], "<a>", "\"t u\"", "<" + strconv.Itoa(i) + ">"}[i%4]})
	}
	full = inOrder(full)
	for i := 0; len(full) < 80; i++ {
		full = inOrder(append(full, triple{S: "<z>", P: "<p>", O: "<" + strconv.Itoa(i) + ">"}))
	}
	want, _ := plainCanonical(full)
	wantCanonical(t, "5 blanks in 80 triples", full, want)
	for _, renamed := range allRenamed(full, []string{"_:x", "_:b4", "_:b2", "_:y", "_:b0"})[60:70] {
		got, ok := impl.Canonical(renamed)
		wantTriples(t, "5 blanks in 80 triples, renamed", got, ok, want)
	}
	wantNoCanonical(t, "81 triples", inOrder(append(slices.Clone(full), triple{S: "<z>", P: "<z>", O: "<z>"})))
	wantNoCanonical(t, "6 blanks in 80 triples", inOrder(append(slices.Clone(full)[1:], triple{S: "_:zz", P: "<p>", O: "<z>"})))

	all := graphOf("_:a <p> _:b . _:c <p> _:d . _:e <p> \"_:f\" .")
	want, _ = plainCanonical(all)
	wantCanonical(t, "5", all, want)
	for _, more := range []string{"_:f <p> <a> .", "<a> <p> _:f .", "_:f <p> _:f .", "_:a <q> _:f ."} {
		wantNoCanonical(t, "6: "+more, inOrder(append(slices.Clone(all), readPatterns(more)...)))
	}
	wantNoCanonical(t, "6 that are named so already", graphOf("_:b0 <p> _:b1 . _:b2 <p> _:b3 . _:b4 <p> _:b5 ."))
	var many []triple
	for i := range 80 {
		many = append(many, triple{S: "_:" + varName(i)[1:], P: "<p>", O: "_:z" + varName(i)[1:]})
	}
	wantNoCanonical(t, "160", many)
}

func TestGraphsThatAreNotAlike(t *testing.T) {
	for _, c := range []struct{ what, a, b string }{
		{"in one triple", "_:x <p> _:y . _:x <p> <a> .", "_:x <p> _:y . _:x <p> <b> ."},
		{"in one P", "_:x <p> _:y .", "_:x <q> _:y ."},
		{"in number", "_:x <p> _:y .", "_:x <p> _:y . _:y <p> _:x ."},
		{"in number, one of none", "", "_:x <p> _:y ."},
		{"in the number of blanks", "_:x <p> _:x .", "_:x <p> _:y ."},
		{"in where a blank stands", "_:x <p> _:y . _:x <p> <a> .", "_:x <p> _:y . _:y <p> <a> ."},
		{"in which one is named", "_:x <p> <a> . _:y <q> <a> .", "_:x <p> <a> . _:x <q> <a> ."},
		{"a name for a blank", "_:x <p> <a> .", "<x> <p> <a> ."},
		{"a text for a blank", "<a> <p> _:x .", "<a> <p> \"_:x\" ."},
		{"a text that looks like a blank", "_:x <p> \"_:x\" .", "_:y <p> \"_:y\" ."},
		{"without blanks", "<a> <p> <b> .", "<b> <p> <a> ."},
		{"a path and two arrows", "_:x <p> _:y . _:y <p> _:z .", "_:x <p> _:y . _:x <p> _:z ."},
		{"a path and two arrows in", "_:x <p> _:y . _:y <p> _:z .", "_:x <p> _:y . _:z <p> _:y ."},
		{"a blank of both rings", "_:x <p> _:y . _:y <p> _:x . _:z <q> _:z .", "_:x <p> _:y . _:y <p> _:x . _:x <q> _:x ."},
		{"one has too many", "_:v <p> _:w . _:x <p> _:y . _:z <p> <a> .", "_:v <p> _:w . _:x <p> _:y . _:z <p> _:a ."},
		{"both have too many", "_:v <p> _:w . _:x <p> _:y . _:z <p> _:a .", "_:v <p> _:w . _:x <p> _:y . _:z <p> _:a ."},
	} {
		a, b := graphOf(c.a), graphOf(c.b)
		if impl.Alike(a, b) || impl.Alike(b, a) {
			t.Errorf("%s: %v is like %v", c.what, a, b)
		}
	}
	for _, c := range [][2]string{{"", ""}, {"<a> <p> <b> .", "<a> <p> <b> ."}, {"_:x <p> _:y .", "_:y <p> _:x ."}, {"_:x <p> _:y . _:y <q> <a> .", "_:b1 <p> _:b0 . _:b0 <q> <a> ."}} {
		if !impl.Alike(graphOf(c[0]), graphOf(c[1])) {
			t.Errorf("%v is like %v", c[0], c[1])
		}
	}
	right, wrong := graphOf("_:x <p> _:y ."), readPatterns("_:y <p> _:x . _:x <p> _:y .")
	if impl.Alike(right, wrong) || impl.Alike(wrong, right) || impl.Alike(wrong, wrong) {
		t.Error("one that is not right")
	}
}

func TestGraphsThatDifferInNamesAloneHaveOneCanonicalGraph(t *testing.T) {
	dice := rand.New(rand.NewSource(73))
	names := []string{"_:v", "_:b1", "_:b0", "_:y", "_:zzzzzz"}
	later := []string{"_:b4", "_:b0", "_:b2", "_:y", "_:1"}
	apart := 0
	for range 300 {
		g := blankGraphBy(dice, dice.Intn(9), names[:dice.Intn(6)]...)
		want, _ := plainCanonical(g)
		wantCanonical(t, "Canonical", g, want)
		list := allRenamed(g, later[:len(plainBlanks(g))])
		renamed := list[dice.Intn(len(list))]
		got, ok := impl.Canonical(renamed)
		wantTriples(t, "renamed", got, ok, want)
		other := blankGraphBy(dice, len(g), names[:dice.Intn(6)]...)
		otherWant, _ := plainCanonical(other)
		alike := slices.Equal(want, otherWant)
		if impl.Alike(g, other) != alike || impl.Alike(other, renamed) != alike || !impl.Alike(g, renamed) {
			t.Errorf("Alike(%v, %v)", g, other)
		}
		if t.Failed() {
			t.Fatalf("of %v and %v", g, renamed)
		}
		if !alike && len(plainBlanks(g)) > 2 {
			apart++
		}
	}
	if apart < 60 {
		t.Errorf("only %d are not alike", apart)
	}
}

// All graphs of at most three blanks and up to four arrows: they are alike just where some renaming leads from one to the other.
func TestAlikeIsRenamedSomehow(t *testing.T) {
	names := []string{"_:x", "_:y", "_:z"}
	var arrows []triple
	for _, s := range names {
		for _, o := range names {
			arrows = append(arrows, triple{S: s, P: "<p>", O: o})
		}
	}
	var graphs [][]triple
	for mask := range 1 << 9 {
		if g := chosen(arrows, mask); len(g) <= 4 && len(plainBlanks(g)) == 3 {
			graphs = append(graphs, g)
		}
	}
	dice := rand.New(rand.NewSource(79))
	for range 2000 {
		a, b := graphs[dice.Intn(len(graphs))], graphs[dice.Intn(len(graphs))]
		want := slices.ContainsFunc(allRenamed(a, names), func(renamed []triple) bool { return slices.Equal(renamed, b) })
		if impl.Alike(a, b) != want {
			t.Fatalf("Alike(%v, %v) = %v", a, b, !want)
		}
	}
}
