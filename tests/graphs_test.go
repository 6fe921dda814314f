package tests

import (
	"slices"
	"strings"
	"testing"

	"loop.example/g00420/impl"
)

type triple = impl.Triple

// manyTriples gives that many right triples, in order, unlike in S, in P and in O by turns.
func manyTriples(n int) []triple {
	letters := "abcdefghijklmnopqrstuvwxyz"
	objects := []string{"\"\"", "\"t u\"", "<o>", "_:o"}
	var l []triple
	for i := range n {
		s := "<" + letters[i/8:i/8+1] + ">"
		p := "<p" + letters[i/4%2:i/4%2+1] + ">"
		l = append(l, triple{S: s, P: p, O: objects[i%4]})
	}
	return l
}

// smallWorld is some right triples, in order, with all that is awkward in a text.
func smallWorld() []triple {
	return []triple{
		{S: "<a>", P: "<p>", O: "\" . \""},
		{S: "<a>", P: "<p>", O: "\"\""},
		{S: "<a>", P: "<p>", O: "\"\\\"\\\\\\n\""},
		{S: "<a>", P: "<p>", O: "<a>"},
		{S: "<a>", P: "<q>", O: "_:b"},
		{S: "_:b", P: "<p>", O: "\"t u\""},
	}
}

// wrongTriples is one of each way in which a triple is not right.
func wrongTriples() []triple {
	return []triple{
		{},
		{S: "<a>", P: "<p>"},
		{S: "<a>", O: "<o>"},
		{P: "<p>", O: "<o>"},
		{S: "\"a\"", P: "<p>", O: "<o>"},
		{S: "?a", P: "<p>", O: "<o>"},
		{S: "<a>", P: "_:p", O: "<o>"},
		{S: "<a>", P: "\"p\"", O: "<o>"},
		{S: "<a>", P: "?p", O: "<o>"},
		{S: "<a>", P: "<p>", O: "?o"},
		{S: "<a>", P: "<p>", O: "o"},
		{S: "<a>", P: "<p>", O: "\"a\nb\""},
		{S: "<a>", P: "<p>", O: "\"\"\""},
		{S: "<a>", P: "<p>", O: "\"1234567890123\""},
		{S: "<1234567890123>", P: "<p>", O: "<o>"},
		{S: "_:1234567", P: "<p>", O: "<o>"},
		{S: "<a> <p>", P: "<p>", O: "<o>"},
	}
}

// wrongGraphs is one of each way in which a graph is not right.
func wrongGraphs() map[string][]triple {
	w := smallWorld()
	list := map[string][]triple{
		"two alike":         {w[0], w[1], w[1]},
		"not in order":      {w[1], w[0]},
		"the last too soon": {w[0], w[2], w[3], w[1]},
		"81":                manyTriples(81),
	}
	for _, x := range wrongTriples() {
		list["with "+x.S+" "+x.P+" "+x.O] = []triple{x}
	}
	list["a wrong one behind right ones"] = []triple{w[0], {S: "_:b", P: "<p>", O: "?x"}}
	return list
}

func textOf(x triple) string { return x.S + " " + x.P + " " + x.O + " ." }

func textOfAll(g []triple) string {
	s := ""
	for _, x := range g {
		s += textOf(x) + "\n"
	}
	return s
}

func TestATripleIsRightByTheKindsOfItsThreeTerms(t *testing.T) {
	words := map[string]int64{"<a>": impl.TmName, "\"a\"": impl.TmText, "_:a": impl.TmBlank, "?a": impl.TmVar, "a": impl.TmNone, "": impl.TmNone}
	for s, ks := range words {
		for p, kp := range words {
			for o, ko := range words {
				x := triple{S: s, P: p, O: o}
				want := (ks == impl.TmName || ks == impl.TmBlank) && kp == impl.TmName && (ko == impl.TmName || ko == impl.TmText || ko == impl.TmBlank)
				if impl.TripleOk(x) != want {
					t.Errorf("TripleOk(%v) = %v", x, !want)
				}
				text := ""
				if want {
					text = textOf(x)
				}
				if got := impl.TripleText(x); got != text {
					t.Errorf("TripleText(%v) = %q, want %q", x, got, text)
				}
			}
		}
	}
}

func TestTriplesAtTheLimits(t *testing.T) {
	full := triple{S: "<abcdefghijkl>", P: "<:/#012345678>", O: "\"\\\"\\\\\\n\\\"\\\\\\n\\\"\\\\\\n\\\"\\\\\\n\""}
	for _, x := range []triple{full, {S: "_:abcdef", P: full.P, O: "_:123456"}} {
		if got, ok := impl.ReadTriple(impl.TripleText(x)); !ok || got != x {
			t.Errorf("%v comes back as %v, %v", x, got, ok)
		}
	}
	for _, x := range append(wrongTriples(), triple{S: full.S, P: "<abcdefghijklm>", O: full.O}, triple{S: full.S, P: full.P, O: "_:abcdefg"}) {
		if impl.TripleOk(x) || impl.TripleText(x) != "" {
			t.Errorf("%v is not right", x)
		}
	}
}

func TestRightTriplesComeBack(t *testing.T) {
	list := append(smallWorld(), manyTriples(80)...)
	for _, s := range wordsOver("\"\\\n .", 4) {
		list = append(list, triple{S: "_:b", P: "<p>", O: "\"" + impl.Escaped(s) + "\""})
	}
	for _, x := range list {
		if got := impl.TripleText(x); got != textOf(x) {
			t.Errorf("TripleText(%v) = %q", x, got)
		}
		if got, ok := impl.ReadTriple(textOf(x)); !ok || got != x {
			t.Errorf("ReadTriple(%q) = %v, %v", textOf(x), got, ok)
		}
	}
}

func TestReadTripleReadsNothingElse(t *testing.T) {
	list := []string{"", " ", ".", " .", "  .", "   .", "<a>", "<a> <p>", "<a> <p> <o>", "<a> <p> .", "<a> <p>  .", "<a> <p> <o>.", "<a> <p> <o> . ", " <a> <p> <o> .",
		"<a>  <p> <o> .", "<a> <p>  <o> .", "<a> <p> <o>  .", "<a> <p> <o> .\n", "<a>\n<p> <o> .", "<a> <p> <o> <o> .", "<a> <p> <o> . .", "<a> <p> \"a\" \"b\" .", "<a> <p> \"a\nb\" .", "<a>\t<p> <o> ."}
	for _, x := range wrongTriples() {
		list = append(list, textOf(x))
	}
	for _, s := range list {
		if got, ok := impl.ReadTriple(s); ok || got != (triple{}) {
			t.Errorf("ReadTriple(%q) = %v, %v", s, got, ok)
		}
	}
}

// Of a text with one byte more, less or other, what is read has just that text, or nothing is read.
func TestReadTripleOfTextsThatAreNearlyRight(t *testing.T) {
	for _, x := range smallWorld() {
		s := textOf(x)
		for i := range len(s) + 1 {
			for _, c := range []string{"", " ", "\n", "\"", "\\", ".", "a", "<", ">", "?", "A"} {
				near := []string{s[:i] + c + s[i:]}
				if i < len(s) {
					near = append(near, s[:i]+c+s[i+1:])
				}
				for _, n := range near {
					if got, ok := impl.ReadTriple(n); ok && (!impl.TripleOk(got) || textOf(got) != n) || !ok && got != (triple{}) {
						t.Errorf("ReadTriple(%q) = %v, %v", n, got, ok)
					}
				}
			}
		}
	}
}

func TestAheadGoesByS_P_O(t *testing.T) {
	words := []string{"", "\"\"", "<a>", "<a>b", "<b>", "_:a", "a", "\xff"}
	slices.Sort(words)
	var list []triple
	for _, s := range words {
		for _, p := range words {
			for _, o := range words {
				list = append(list, triple{S: s, P: p, O: o})
			}
		}
	}
	for i, a := range list {
		for j, b := range list {
			if impl.Ahead(a, b) != (i < j) {
				t.Fatalf("Ahead(%v, %v) = %v", a, b, i >= j)
			}
		}
	}
}

func TestGraphsThatAreRight(t *testing.T) {
	for _, g := range [][]triple{nil, {}, smallWorld(), manyTriples(1), manyTriples(79), manyTriples(80)} {
		if !impl.GraphOk(g) {
			t.Errorf("%v is right", g)
		}
		if got := impl.GraphText(g); got != textOfAll(g) {
			t.Errorf("GraphText(%v) = %q", g, got)
		}
		if got, ok := impl.ReadGraph(textOfAll(g)); !ok || !slices.Equal(got, g) {
			t.Errorf("%v comes back as %v, %v", g, got, ok)
		}
	}
	if impl.MaxTriples != 80 {
		t.Error("MaxTriples")
	}
}

func TestGraphsThatAreNotRight(t *testing.T) {
	right := smallWorld()
	one := right[4]
	for why, g := range wrongGraphs() {
		if impl.GraphOk(g) || impl.GraphText(g) != "" {
			t.Error("a graph that is not right: " + why)
		}
		if got, ok := impl.ReadGraph(textOfAll(g)); ok || len(got) != 0 {
			t.Errorf("%s: ReadGraph = %v, %v", why, got, ok)
		}
		if got, ok := impl.With(g, one); ok || len(got) != 0 {
			t.Errorf("%s: With = %v, %v", why, got, ok)
		}
		for _, x := range append(g, one) {
			if got, ok := impl.Without(g, x); ok || len(got) != 0 {
				t.Errorf("%s: Without = %v, %v", why, got, ok)
			}
		}
		for _, other := range [][]triple{nil, right, g} {
			if got, ok := impl.Union(g, other); ok || len(got) != 0 {
				t.Errorf("%s: Union = %v, %v", why, got, ok)
			}
			if got, ok := impl.Union(other, g); ok || len(got) != 0 {
				t.Errorf("%s: Union = %v, %v", why, got, ok)
			}
		}
	}
}

func TestReadGraphReadsNothingElse(t *testing.T) {
	line := "<a> <p> <o> .\n"
	for _, s := range []string{"\n", " ", "x\n", line + "\n", "\n" + line, strings.TrimSuffix(line, "\n"), line + "<b> <p> <o> .", line + " ", line + line, "<b> <p> <o> .\n" + line, "<a> <p> \"x\ny\" .\n", "<a> <p> <o> .\r\n", "<a> <p> <o> .  \n"} {
		if got, ok := impl.ReadGraph(s); ok || len(got) != 0 {
			t.Errorf("ReadGraph(%q) = %v, %v", s, got, ok)
		}
	}
	if _, ok := impl.ReadGraph(strings.Repeat(line, 100000)); ok {
		t.Error("too many lines")
	}
}

func TestWithPutsOneIn(t *testing.T) {
	all := smallWorld()
	for mask := range 1 << len(all) {
		g := chosen(all, mask)
		for i, x := range all {
			got, ok := impl.With(g, x)
			if want := chosen(all, mask|1<<i); !ok || !slices.Equal(got, want) {
				t.Fatalf("With(%v, %v) = %v, %v", g, x, got, ok)
			}
		}
		for _, x := range wrongTriples() {
			if got, ok := impl.With(g, x); ok || len(got) != 0 {
				t.Fatalf("With(%v, %v) = %v, %v", g, x, got, ok)
			}
		}
	}
}

func TestWithoutTakesOneOut(t *testing.T) {
	all := smallWorld()
	for mask := range 1 << len(all) {
		g := chosen(all, mask)
		for i, x := range all {
			got, ok := impl.Without(g, x)
			var want []triple
			there := mask&(1<<i) != 0
			if there {
				want = chosen(all, mask&^(1<<i))
			}
			if ok != there || !slices.Equal(got, want) {
				t.Fatalf("Without(%v, %v) = %v, %v", g, x, got, ok)
			}
		}
		for _, x := range wrongTriples() {
			if got, ok := impl.Without(g, x); ok || len(got) != 0 {
				t.Fatalf("Without(%v, %v) = %v, %v", g, x, got, ok)
			}
		}
	}
}

func TestUnionHasAllOfBoth(t *testing.T) {
	all := smallWorld()
	for a := range 1 << len(all) {
		for b := range 1 << len(all) {
			got, ok := impl.Union(chosen(all, a), chosen(all, b))
			if want := chosen(all, a|b); !ok || !slices.Equal(got, want) {
				t.Fatalf("Union of %b and %b = %v, %v", a, b, got, ok)
			}
		}
	}
}

func TestEightyTriplesAreNotTooMany(t *testing.T) {
	all := manyTriples(81)
	for i, x := range all {
		less := slices.Concat(all[:i], all[i+1:])
		if got, ok := impl.With(less, x); ok || len(got) != 0 {
			t.Error("With makes 81", got)
		}
		if got, ok := impl.Union(less, []triple{x}); ok || len(got) != 0 {
			t.Error("Union makes 81", got)
		}
		if got, ok := impl.Without(less, x); ok || len(got) != 0 {
			t.Error("Without of what is not there", got)
		}
	}
	full := all[:80]
	for i, x := range full {
		less := slices.Concat(full[:i], full[i+1:])
		if got, ok := impl.With(less, x); !ok || !slices.Equal(got, full) {
			t.Error("With makes 80", got, ok)
		}
		if got, ok := impl.With(full, x); !ok || !slices.Equal(got, full) {
			t.Error("With of one of 80", got, ok)
		}
		if got, ok := impl.Without(full, x); !ok || !slices.Equal(got, less) {
			t.Error("Without of one of 80", got, ok)
		}
	}
	for cut := range 41 {
		if got, ok := impl.Union(full[cut:], full[:80-cut]); !ok || !slices.Equal(got, full) {
			t.Error("Union makes 80", got, ok)
		}
		if got, ok := impl.Union(all[cut:][:40], all[40:80]); !ok || len(got) != 80-cut {
			t.Error("Union of two halves", got, ok)
		}
	}
	if got, ok := impl.Union(all[:40], all[40:]); ok || len(got) != 0 {
		t.Error("Union makes 81", got)
	}
}

func chosen(all []triple, mask int) []triple {
	var g []triple
	for i, x := range all {
		if mask&(1<<i) != 0 {
			g = append(g, x)
		}
	}
	return g
}
