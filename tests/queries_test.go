package tests

import (
	"math/rand"
	"slices"
	"sort"
	"strings"
	"testing"

	"loop.example/g00420/impl"
)

type pair = impl.Pair

// wordsByKind has one word or more of each kind.
func wordsByKind() map[string]int64 {
	return map[string]int64{"<a>": impl.TmName, "\"a\"": impl.TmText, "\"\"": impl.TmText, "_:a": impl.TmBlank, "?a": impl.TmVar, "a": impl.TmNone, "": impl.TmNone, "?": impl.TmNone, "?A": impl.TmNone, "?abcdefg": impl.TmNone, "\"\n\"": impl.TmNone}
}

func isOneOf(kind int64, kinds ...int64) bool { return slices.Contains(kinds, kind) }

// readPatterns reads S, P and O of patterns, each ended by a point; no term has a blank in it.
func readPatterns(s string) []triple {
	var l []triple
	words := strings.Fields(s)
	for i := 0; i+3 < len(words); i += 4 {
		l = append(l, triple{S: words[i], P: words[i+1], O: words[i+2]})
	}
	return l
}

// readRow reads pairs, each a Var and a Term with = between them.
func readRow(s string) []pair {
	var r []pair
	for _, word := range strings.Fields(s) {
		name, term, _ := strings.Cut(word, "=")
		r = append(r, pair{Var: name, Term: term})
	}
	return r
}

func readRows(list ...string) [][]pair {
	var rows [][]pair
	for _, s := range list {
		rows = append(rows, readRow(s))
	}
	return rows
}

// rowKey is the text by which the document puts rows in order.
func rowKey(r []pair) string {
	s := ""
	for _, p := range r {
		s += p.Var + "\x00" + p.Term + "\x00"
	}
	return s
}

func keysOf(rows [][]pair) []string {
	keys := []string{}
	for _, r := range rows {
		keys = append(keys, rowKey(r))
	}
	return keys
}

func sameRows(a, b [][]pair) bool { return slices.Equal(keysOf(a), keysOf(b)) }

// plainInOrder sorts rows as the document wants it, each once.
func plainInOrder(rows [][]pair) [][]pair {
	l := slices.Clone(rows)
	sort.SliceStable(l, func(i, j int) bool { return rowKey(l[i]) < rowKey(l[j]) })
	return slices.CompactFunc(l, func(a, b []pair) bool { return rowKey(a) == rowKey(b) })
}

func wantRows(t *testing.T, what string, got [][]pair, ok bool, want [][]pair) {
	t.Helper()
	if !ok || !sameRows(got, want) {
		t.Errorf("%s: %v, %v, want %v", what, got, ok, want)
	}
}

func wantNoRows(t *testing.T, what string, got [][]pair, ok bool) {
	t.Helper()
	if ok || len(got) != 0 {
		t.Errorf("%s: %d rows, %v", what, len(got), ok)
	}
}

// wrongPatterns is one of each way in which a pattern is not right.
func wrongPatterns() []triple {
	return append(readPatterns("\"a\" <p> <o> . a <p> <o> . ? <p> <o> . <s> _:p <o> . <s> \"p\" <o> . <s> p <o> . <s> ?P <o> . <s> <p> o . <s> <p> ?O . ?abcdefg <p> <o> . <s> ?abcdefg <o> . <s> <p> _:abcdefg ."),
		triple{}, triple{S: "?x", P: "<p>"}, triple{S: "?x", O: "?y"}, triple{P: "<p>", O: "?y"}, triple{S: "?x ", P: "<p>", O: "?y"}, triple{S: "?x", P: "<p>", O: "\"a\nb\""})
}

// wrongBgps is one of each way in which a list of patterns is not right.
func wrongBgps() [][]triple {
	list := [][]triple{readPatterns(strings.Repeat("?x <p> ?y . ", 5)), readPatterns(strings.Repeat("<a> <p> <b> . ", 6))}
	right := readPatterns("?x <p> ?y . ?y ?p \"t\" . <a> <p> _:b .")
	for _, p := range wrongPatterns() {
		for i := range len(right) + 1 {
			list = append(list, slices.Insert(slices.Clone(right), i, p))
		}
		list = append(list, []triple{p})
	}
	return list
}

// varName gives names of variables that rise.
func varName(i int) string { return "?" + string([]byte{'a' + byte(i/26), 'a' + byte(i%26)}) }

func manyPairs(n int) []pair {
	var r []pair
	for i := range n {
		r = append(r, pair{Var: varName(i), Term: "<a>"})
	}
	return r
}

// wrongRows is one of each way in which a row is not right.
func wrongRows() [][]pair {
	list := [][]pair{manyPairs(13), manyPairs(30), readRow("?x=<a> ?x=<a>"), readRow("?x=<a> ?x=<b>"), readRow("?y=<a> ?x=<a>"), readRow("?x=<a> ?z=<a> ?y=<a>"), readRow("?9=<a> ?10=<a>"), readRow("?xy=<a> ?x=<a>")}
	for word, kind := range wordsByKind() {
		if kind != impl.TmVar {
			list = append(list, []pair{{Var: word, Term: "<a>"}}, []pair{{Var: word, Term: "<a>"}, {Var: "?zz", Term: "<a>"}})
		}
		if kind == impl.TmVar || kind == impl.TmNone {
			list = append(list, []pair{{Var: "?x", Term: word}}, []pair{{Var: "?a", Term: "<a>"}, {Var: "?x", Term: word}})
		}
	}
	return list
}

func TestThePatternsThatAreRight(t *testing.T) {
	for s, ks := range wordsByKind() {
		for p, kp := range wordsByKind() {
			for o, ko := range wordsByKind() {
				x := triple{S: s, P: p, O: o}
				want := isOneOf(ks, impl.TmName, impl.TmBlank, impl.TmVar) && isOneOf(kp, impl.TmName, impl.TmVar) && ko != impl.TmNone
				if impl.BgpOk([]triple{x}) != want || impl.BgpOk([]triple{{S: "?a", P: "<p>", O: "?b"}, x}) != want {
					t.Errorf("BgpOk of %v: %v", x, !want)
				}
			}
		}
	}
	for n := range 8 {
		if impl.BgpOk(slices.Repeat(readPatterns("?x <p> ?y ."), n)) != (n <= 4) {
			t.Errorf("%d patterns", n)
		}
	}
	for _, l := range wrongBgps() {
		if impl.BgpOk(l) {
			t.Errorf("%v is not right", l)
		}
	}
	if !impl.BgpOk(nil) || !impl.BgpOk([]triple{}) || impl.MaxBgp != 4 || impl.MaxRows != 300 {
		t.Error("no patterns, or a limit")
	}
}

func TestVarsOfPatterns(t *testing.T) {
	for s, want := range map[string]string{
		"":                          "",
		"<a> <p> \"?x\" .":          "",
		"?x ?x ?x .":                "?x",
		"?z ?y ?x .":                "?x ?y ?z",
		"<a> ?p _:b . ?10 <p> ?9 .": "?10 ?9 ?p",
		"?x <p> ?xy . ?xy ?a ?x . ?x <p> \"t\" .":     "?a ?x ?xy",
		"?l ?k ?j . ?i ?h ?g . ?f ?e ?d . ?c ?b ?a .": "?a ?b ?c ?d ?e ?f ?g ?h ?i ?j ?k ?l",
	} {
		if got := impl.VarsOf(readPatterns(s)); !slices.Equal(got, strings.Fields(want)) {
			t.Errorf("VarsOf(%s) = %v, want %s", s, got, want)
		}
	}
	for _, l := range wrongBgps() {
		if got := impl.VarsOf(l); len(got) != 0 {
			t.Errorf("VarsOf(%v) = %v", l, got)
		}
	}
}

func TestTheRowsThatAreRight(t *testing.T) {
	for name, kn := range wordsByKind() {
		for term, kt := range wordsByKind() {
			want := kn == impl.TmVar && isOneOf(kt, impl.TmName, impl.TmText, impl.TmBlank)
			if impl.RowOk([]pair{{Var: name, Term: term}}) != want || impl.RowOk([]pair{{Var: "?9", Term: "_:b"}, {Var: name, Term: term}}) != want {
				t.Errorf("RowOk of %q and %q: %v", name, term, !want)
			}
		}
	}
	for n := range 20 {
		if impl.RowOk(manyPairs(n)) != (n <= 12) {
			t.Errorf("%d pairs", n)
		}
	}
	for _, r := range wrongRows() {
		if impl.RowOk(r) {
			t.Errorf("%v is not right", r)
		}
	}
	for _, r := range readRows("", "?10=<a> ?9=<a>", "?x=<a> ?x1=<a> ?xy=\"t\" ?y=_:b") {
		if !impl.RowOk(r) {
			t.Errorf("%v is right", r)
		}
	}
}

func TestFilledPutsTermsInThePlaceOfVariables(t *testing.T) {
	r := readRow("?a=<a> ?b=_:b ?t=\"t\"")
	words := []string{"?a", "?b", "?t", "?c", "?ab", "<a>", "_:b", "\"?a\"", "", "a", "?", "=>"}
	filled := map[string]string{"?a": "<a>", "?b": "_:b", "?t": "\"t\""}
	value := func(word string) string {
		if term, there := filled[word]; there {
			return term
		}
		return word
	}
	for _, s := range words {
		for _, p := range words {
			for _, o := range words {
				x := triple{S: s, P: p, O: o}
				if got, want := impl.Filled(r, x), (triple{S: value(s), P: value(p), O: value(o)}); got != want {
					t.Errorf("Filled(%v, %v) = %v, want %v", r, x, got, want)
				}
				if got := impl.Filled(nil, x); got != x {
					t.Errorf("Filled by nothing: %v is %v", x, got)
				}
			}
		}
	}
	for _, wrong := range append(wrongRows(), readRow("?a=<a> ?b=b"), readRow("?b=<a> ?a=<a>")) {
		for _, x := range append(readPatterns("?a ?b ?c . ?x ?x ?x . ?aa ?ab ?am . <a> <p> ?a ."), triple{S: "a"}, triple{S: "_:a", P: "?zz", O: "?x"}) {
			if got := impl.Filled(wrong, x); got != x {
				t.Errorf("Filled(%v, %v) = %v", wrong, x, got)
			}
		}
	}
	x := triple{S: varName(0), P: varName(5), O: varName(11)}
	if got := impl.Filled(manyPairs(12), x); got != (triple{S: "<a>", P: "<a>", O: "<a>"}) {
		t.Error("a row of 12", got)
	}
	if got := impl.Filled(manyPairs(13), x); got != x {
		t.Error("a row of 13", got)
	}
}

// rowsOver gives all rows over these variables and terms, also those without some.
func rowsOver(names, terms []string) [][]pair {
	rows := [][]pair{nil}
	for _, name := range names {
		for _, r := range slices.Clone(rows) {
			for _, term := range terms {
				rows = append(rows, append(slices.Clone(r), pair{Var: name, Term: term}))
			}
		}
	}
	return rows
}

// plainMerged goes by a map; false when two pairs of one Var are unlike.
func plainMerged(a, b []pair) ([]pair, bool) {
	terms := map[string]string{}
	for _, p := range slices.Concat(a, b) {
		if term, there := terms[p.Var]; there && term != p.Term {
			return nil, false
		}
		terms[p.Var] = p.Term
	}
	return plainRow(terms), true
}

func plainRow(terms map[string]string) []pair {
	var r []pair
	for name, term := range terms {
		r = append(r, pair{Var: name, Term: term})
	}
	sort.Slice(r, func(i, j int) bool { return r[i].Var < r[j].Var })
	return r
}

func TestMergedRowsThatAgreeAndThatDoNot(t *testing.T) {
	rows := rowsOver([]string{"?10", "?9", "?x", "?xy"}, []string{"<a>", "\"t\""})
	for _, a := range rows {
		for _, b := range rows {
			want, agree := plainMerged(a, b)
			if got, ok := impl.Merged(a, b); ok != agree || !slices.Equal(got, want) {
				t.Fatalf("Merged(%v, %v) = %v, %v, want %v, %v", a, b, got, ok, want, agree)
			}
		}
	}
}

func TestTwelvePairsAreNotTooManyForAMergedRow(t *testing.T) {
	all := manyPairs(13)
	for cut := range 14 {
		if got, ok := impl.Merged(all[:cut], all[cut:]); ok || len(got) != 0 {
			t.Errorf("13 pairs cut at %d: %v", cut, got)
		}
	}
	all = all[:12]
	for cut := range 13 {
		for _, two := range [][2][]pair{{all[:cut], all[cut:]}, {all[cut:], all[:cut]}, {all, all[cut:]}, {all[:cut], all}} {
			if got, ok := impl.Merged(two[0], two[1]); !ok || !slices.Equal(got, all) {
				t.Errorf("12 pairs cut at %d: %v, %v", cut, got, ok)
			}
		}
	}
}

func TestMergedOfRowsThatAreNotRight(t *testing.T) {
	for _, wrong := range wrongRows() {
		for _, other := range append(readRows("", "?x=<a>", "?zz=_:b"), wrong) {
			if got, ok := impl.Merged(wrong, other); ok || len(got) != 0 {
				t.Errorf("Merged(%v, %v) = %v", wrong, other, got)
			}
			if got, ok := impl.Merged(other, wrong); ok || len(got) != 0 {
				t.Errorf("Merged(%v, %v) = %v", other, wrong, got)
			}
		}
	}
}

// plainSolutions tries each term of the graph for each variable; of 0 triples there are no terms.
func plainSolutions(g, l []triple, first []pair) [][]pair {
	terms := map[string]bool{}
	for _, x := range g {
		terms[x.S], terms[x.P], terms[x.O] = true, true, true
	}
	rows := [][]pair{first}
	for _, name := range impl.VarsOf(l) {
		if slices.ContainsFunc(first, func(p pair) bool { return p.Var == name }) {
			continue
		}
		var next [][]pair
		for _, r := range rows {
			for term := range terms {
				next = append(next, append(slices.Clone(r), pair{Var: name, Term: term}))
			}
		}
		rows = next
	}
	var fit [][]pair
	for _, r := range rows {
		sort.Slice(r, func(i, j int) bool { return r[i].Var < r[j].Var })
		if makesAll(g, l, r) {
			fit = append(fit, r)
		}
	}
	return plainInOrder(fit)
}

func makesAll(g, l []triple, r []pair) bool {
	for _, p := range l {
		if !slices.Contains(g, plainFilled(r, p)) {
			return false
		}
	}
	return true
}

func plainFilled(r []pair, x triple) triple {
	for _, p := range r {
		for _, place := range []*string{&x.S, &x.P, &x.O} {
			if *place == p.Var {
				*place = p.Term
			}
		}
	}
	return x
}

// knot is a graph in which the same few terms stand in all places.
func knot() []triple {
	list := readPatterns("<a> <a> <a> . <a> <a> <b> . <a> <p> \"t\" . <a> <p> <a> . <a> <p> _:b . <b> <a> <p> . <b> <p> <a> . <p> <a> <b> . <p> <p> <p> . _:b <p> \"t\" . _:b <p> _:b .")
	if !impl.GraphOk(list) {
		panic("the knot is not in order")
	}
	return list
}

func TestSolutionsOfAFewPatterns(t *testing.T) {
	g := knot()
	for _, c := range []struct {
		l    string
		want [][]pair
	}{
		{"", readRows("")},
		{"<a> <p> <a> .", readRows("")},
		{"<a> <p> <b> .", nil},
		{"_:b <p> \"t\" .", readRows("")},
		{"_:c <p> \"t\" .", nil},
		{"?x ?x ?x .", readRows("?x=<a>", "?x=<p>")},
		{"?x ?x <b> .", readRows("?x=<a>")},
		{"?x <p> ?x .", readRows("?x=<a>", "?x=<p>", "?x=_:b")},
		{"<a> ?x ?x .", readRows("?x=<a>")},
		{"<b> ?x <p> .", readRows("?x=<a>")},
		{"?x <p> \"t\" .", readRows("?x=<a>", "?x=_:b")},
		{"<a> <p> ?x .", readRows("?x=\"t\"", "?x=<a>", "?x=_:b")},
		{"?x <p> ?y . ?y <p> \"t\" .", readRows("?x=<a> ?y=<a>", "?x=<a> ?y=_:b", "?x=<b> ?y=<a>", "?x=_:b ?y=_:b")},
		{"?x <p> ?y . <a> <p> <b> .", nil},
		{"<b> ?q ?p . <p> ?p ?p .", readRows("?p=<p> ?q=<a>")},
		{"?z <a> ?y . ?y <a> ?x . ?x <p> _:b .", readRows("?x=<a> ?y=<a> ?z=<a>")},
	} {
		got, ok := impl.Solutions(g, readPatterns(c.l))
		wantRows(t, c.l, got, ok, c.want)
	}
	for _, l := range []string{"", "?x ?y ?z ."} {
		got, ok := impl.Solutions(nil, readPatterns(l))
		want := readRows("")
		if l != "" {
			want = nil
		}
		wantRows(t, "no triples: "+l, got, ok, want)
	}
}

// patternsBy gives patterns over few words, so that variables stand twice in one and in two.
func patternsBy(dice *rand.Rand, n int) []triple {
	pick := func(words ...string) string { return words[dice.Intn(len(words))] }
	var l []triple
	for range n {
		l = append(l, triple{S: pick("?x", "?y", "?z", "<a>", "_:b"), P: pick("?x", "?p", "<p>", "<p>", "<a>"), O: pick("?x", "?y", "?z", "?p", "<a>", "_:b", "\"t\"")})
	}
	return l
}

// graphBy leaves out a fourth of the triples.
func graphBy(dice *rand.Rand, all []triple) []triple {
	return chosen(all, dice.Intn(1<<len(all))|dice.Intn(1<<len(all)))
}

func TestSolutionsAreAllRowsThatMakeEachPatternATriple(t *testing.T) {
	dice := rand.New(rand.NewSource(5))
	found := 0
	for range 3000 {
		g, l := graphBy(dice, knot()), patternsBy(dice, dice.Intn(5))
		want := plainSolutions(g, l, nil)
		got, ok := impl.Solutions(g, l)
		if !ok || !sameRows(got, want) {
			t.Fatalf("Solutions(%v, %v) = %v, %v, want %v", g, l, got, ok, want)
		}
		for _, r := range got {
			var names []string
			for _, p := range r {
				names = append(names, p.Var)
			}
			if !impl.RowOk(r) || !slices.Equal(names, impl.VarsOf(l)) {
				t.Fatalf("Solutions(%v, %v) has %v", g, l, r)
			}
			for _, p := range l {
				if !slices.Contains(g, impl.Filled(r, p)) {
					t.Fatalf("%v does not make %v a triple of %v", r, p, g)
				}
			}
		}
		found += len(got)
	}
	if found < 3000 {
		t.Errorf("only %d rows", found)
	}
}

// Each way to choose a triple for each pattern either gives two terms to one variable, or is told.
func TestEachWayToChooseTriplesThatAgreesIsTold(t *testing.T) {
	g := knot()
	for _, s := range []string{"?x <p> ?y . ?y ?q ?z .", "?x ?p ?y . ?y ?p ?x .", "?x ?x ?y . ?y ?z ?z ."} {
		l := readPatterns(s)
		got, ok := impl.Solutions(g, l)
		if !ok {
			t.Fatal(s)
		}
		told := keysOf(got)
		for _, a := range g {
			for _, b := range g {
				terms, agrees := map[string]string{}, true
				for _, two := range [][2]string{{l[0].S, a.S}, {l[0].P, a.P}, {l[0].O, a.O}, {l[1].S, b.S}, {l[1].P, b.P}, {l[1].O, b.O}} {
					if term, there := terms[two[0]]; there && term != two[1] || two[0][0] != '?' && two[0] != two[1] {
						agrees = false
					}
					if two[0][0] == '?' {
						terms[two[0]] = two[1]
					}
				}
				if agrees && !slices.Contains(told, rowKey(plainRow(terms))) {
					t.Errorf("%s: %v is not told", s, terms)
				}
			}
		}
	}
}

func TestWithMoreTriplesNoRowIsLost(t *testing.T) {
	dice := rand.New(rand.NewSource(7))
	for range 1000 {
		all, l := knot(), patternsBy(dice, 1+dice.Intn(3))
		mask := dice.Intn(1 << len(all))
		few, ok := impl.Solutions(chosen(all, mask), l)
		more, ok2 := impl.Solutions(chosen(all, mask|dice.Intn(1<<len(all))), l)
		if !ok || !ok2 {
			t.Fatal(l)
		}
		keys := keysOf(more)
		for _, r := range few {
			if !slices.Contains(keys, rowKey(r)) {
				t.Fatalf("%v: %v is lost", l, r)
			}
		}
	}
}

func TestTheOrderOfPatternsMakesNoOtherRows(t *testing.T) {
	l := readPatterns("?x <p> ?y . ?y ?q ?z . ?z ?q ?y . <a> ?q ?x .")
	want, ok := impl.Solutions(knot(), l)
	if !ok || len(want) == 0 {
		t.Fatal(want)
	}
	for i := range l {
		for j := range l {
			other := slices.Clone(l)
			other[i], other[j] = other[j], other[i]
			got, ok := impl.Solutions(knot(), other)
			wantRows(t, "in another order", got, ok, want)
		}
	}
}

func TestRowsStandInOrderByVarAndTerm(t *testing.T) {
	g, ok := impl.ReadGraph("<a/> <p> <b> .\n<a1> <p> <b> .\n<a> <p> <b:> .\n<a> <p> <b> .\n_:a <p> <b> .\n_:a1 <p> <b> .\n")
	if !ok {
		t.Fatal("graph")
	}
	got, ok := impl.Solutions(g, readPatterns("?x <p> ?a ."))
	wantRows(t, "by the first Var first", got, ok, readRows("?a=<b:> ?x=<a>", "?a=<b> ?x=<a/>", "?a=<b> ?x=<a1>", "?a=<b> ?x=<a>", "?a=<b> ?x=_:a", "?a=<b> ?x=_:a1"))
	rows := readRows("?x1=<a>", "?x=<b>", "?x=<a> ?x1=<b>", "?x=<a> ?x1=<a>", "?x=<a>", "", "?y=<a>", "?x=<a> ?y=<a>", "?w=_:b ?y=<a>", "?x=_:b", "?x=_:b1", "?x=\"t\"")
	want := readRows("", "?w=_:b ?y=<a>", "?x=\"t\"", "?x=<a>", "?x=<a> ?x1=<a>", "?x=<a> ?x1=<b>", "?x=<a> ?y=<a>", "?x=<b>", "?x=_:b", "?x=_:b1", "?x1=<a>", "?y=<a>")
	got, ok = impl.Projected(rows, []string{"?w", "?x", "?x1", "?y"})
	wantRows(t, "Projected", got, ok, want)
	got, ok = impl.Extended(nil, rows, nil)
	wantRows(t, "Extended", got, ok, want)
}

// twoKinds gives m triples with <p> and n with <q>: two patterns make m times n rows of them.
func twoKinds(m, n int) []triple {
	var g []triple
	for i := range m {
		g = append(g, triple{S: "<a>", P: "<p>", O: "<" + varName(i)[1:] + ">"})
	}
	for i := range n {
		g = append(g, triple{S: "<a>", P: "<q>", O: "<" + varName(i)[1:] + ">"})
	}
	return g
}

func TestThreeHundredRowsAreNotTooMany(t *testing.T) {
	for _, c := range []struct {
		m, n int
		l    string
		rows int
	}{
		{15, 20, "<a> <p> ?x . <a> <q> ?y .", 300},
		{7, 43, "<a> <p> ?x . <a> <q> ?y .", -1},
		{7, 43, "<a> <p> ?x . <a> <p> ?x . <a> <q> ?y .", -1},
		{15, 20, "?a <p> ?x . ?a <p> ?x . ?b <q> ?y . ?a <p> ?x .", 300},
		{40, 40, "?a ?b ?c .", 80},
		{40, 40, "<a> <p> ?x . <a> <q> ?y .", -1},
		{15, 20, "<a> <p> ?x . <a> <q> ?y . <a> <q> ?x .", 300},
		{15, 20, "<a> <p> ?x . <a> <q> ?y . <a> <p> <aa> .", 300},
		// Where a later pattern has fewer again.
		{15, 20, "<a> <p> ?x . <a> <q> ?y . ?x <p> ?y .", 0},
		{15, 20, "<a> <p> ?x . <a> <q> ?y . <a> <p> ?y .", 225},
		{7, 43, "<a> <p> ?x . <a> <q> ?y . ?x <p> ?y .", -1},
		{7, 43, "<a> <p> ?x . ?x <p> ?y . <a> <q> ?y .", 0},
		{7, 43, "<a> <p> ?x . <a> <q> ?y . <a> <p> ?y .", -1},
		{7, 43, "<a> <p> ?x . <a> <p> ?y . <a> <q> ?y .", 49},
		{7, 43, "<a> <p> ?x . <a> <q> ?y . <a> <p> ?y . <a> <p> <none> .", -1},
		{7, 43, "<a> <p> <none> . <a> <p> ?x . <a> <q> ?y .", 0},
		{3, 0, "<a> <p> ?w . <a> <p> ?x . <a> <p> ?y . <a> <p> ?z .", 81},
		{4, 0, "?a ?b ?c . ?d ?e ?f . ?g ?h ?i . ?j ?k ?l .", 256},
		{5, 0, "?a ?b ?c . ?d ?e ?f . ?g ?h ?i .", 125},
		{5, 0, "?a ?b ?c . ?d ?e ?f . ?g ?h ?i . ?j ?k ?l .", -1},
		{7, 0, "?a ?b ?c . ?d ?e ?f . ?g ?h ?i . <a> <p> <none> .", -1},
		{3, 25, "<a> <p> ?w . <a> <q> ?x . <a> <p> ?y .", 225},
		{2, 76, "<a> <p> ?w . <a> <q> ?x . <a> <p> ?y .", -1},
		{2, 75, "<a> <p> ?w . <a> <p> ?x . <a> <q> ?y .", 300},
	} {
		got, ok := impl.Solutions(twoKinds(c.m, c.n), readPatterns(c.l))
		if c.rows < 0 {
			wantNoRows(t, c.l, got, ok)
			continue
		}
		if !ok || len(got) != c.rows {
			t.Errorf("%d, %d, %s: %d rows, %v, want %d", c.m, c.n, c.l, len(got), ok, c.rows)
		}
		if !sameRows(got, plainInOrder(got)) {
			t.Errorf("%s: not in order", c.l)
		}
	}
}

func TestSolutionsOfWhatIsNotRight(t *testing.T) {
	for why, g := range wrongGraphs() {
		for _, l := range []string{"", "?x ?y ?z .", "<a> <p> <a> ."} {
			got, ok := impl.Solutions(g, readPatterns(l))
			wantNoRows(t, why, got, ok)
		}
	}
	for _, l := range wrongBgps() {
		for _, g := range [][]triple{nil, knot(), manyTriples(81)} {
			got, ok := impl.Solutions(g, l)
			wantNoRows(t, "patterns that are not right", got, ok)
		}
	}
}

func TestProjectedHasWhatWasAskedFor(t *testing.T) {
	names := []string{"?10", "?9", "?x", "?xy"}
	all := rowsOver(names, []string{"<a>", "_:b"})
	dice := rand.New(rand.NewSource(9))
	for range 500 {
		var rows, plain [][]pair
		var vars []string
		for range dice.Intn(6) {
			vars = append(vars, append(names, "?none", "?y")[dice.Intn(6)])
		}
		for range dice.Intn(12) {
			r := all[dice.Intn(len(all))]
			rows = append(rows, r)
			plain = append(plain, slices.DeleteFunc(slices.Clone(r), func(p pair) bool { return !slices.Contains(vars, p.Var) }))
		}
		got, ok := impl.Projected(rows, vars)
		wantRows(t, strings.Join(vars, " "), got, ok, plainInOrder(plain))
	}
}

func TestProjectedAtTheEdges(t *testing.T) {
	rows := readRows("?x=<a> ?y=<b>", "?x=<a> ?y=<c>", "?x=<b> ?y=<c>")
	got, ok := impl.Projected(rows, nil)
	wantRows(t, "nothing asked for", got, ok, readRows(""))
	got, ok = impl.Projected(rows, []string{"?z", "?z"})
	wantRows(t, "what no row has", got, ok, readRows(""))
	got, ok = impl.Projected(nil, []string{"?x"})
	wantRows(t, "of none", got, ok, nil)
	got, ok = impl.Projected(nil, nil)
	wantRows(t, "nothing of none", got, ok, nil)
	got, ok = impl.Projected(rows, []string{"?y", "?z", "?y"})
	wantRows(t, "each once", got, ok, readRows("?y=<b>", "?y=<c>"))
	got, ok = impl.Projected([][]pair{manyPairs(12)}, []string{varName(11), varName(0)})
	wantRows(t, "of 12 pairs", got, ok, readRows("?aa=<a> ?al=<a>"))
	for n := range 3 {
		many := slices.Repeat(rows[:1], 299+n)
		got, ok = impl.Projected(many, []string{"?x"})
		if n < 2 {
			wantRows(t, "many rows", got, ok, readRows("?x=<a>"))
		} else {
			wantNoRows(t, "301 rows", got, ok)
		}
	}
	got, ok = impl.Projected(numberedRows(300), []string{"?n"})
	wantRows(t, "300 unlike rows", got, ok, numberedRows(300))
	got, ok = impl.Projected(numberedRows(301), nil)
	wantNoRows(t, "301 unlike rows", got, ok)
}

// numberedRows gives that many rows, in order.
func numberedRows(n int) [][]pair {
	var rows [][]pair
	for i := range n {
		rows = append(rows, []pair{{Var: "?n", Term: "<" + string([]byte{'a' + byte(i/26), 'a' + byte(i%26)}) + ">"}})
	}
	return rows
}

func TestProjectedOfWhatIsNotRight(t *testing.T) {
	for _, wrong := range wrongRows() {
		for _, rows := range [][][]pair{{wrong}, {nil, wrong}, {wrong, readRow("?x=<a>")}} {
			for _, vars := range [][]string{nil, {"?x"}, {"x"}} {
				got, ok := impl.Projected(rows, vars)
				wantNoRows(t, "a row that is not right", got, ok)
			}
		}
	}
	for word, kind := range wordsByKind() {
		for _, rows := range [][][]pair{nil, readRows("?x=<a>")} {
			for _, vars := range [][]string{{word}, {"?x", word}, {word, "?x"}} {
				got, ok := impl.Projected(rows, vars)
				if ok != (kind == impl.TmVar) || !ok && len(got) != 0 {
					t.Errorf("vars %q: %v, %v", vars, got, ok)
				}
			}
		}
	}
}
