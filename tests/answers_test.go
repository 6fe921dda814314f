package tests

import (
	"math/rand"
	"slices"
	"strings"
	"testing"

	"loop.example/g00420/impl"
)

// plainProjected keeps of each row the pairs that are asked for, in order, each row once.
func plainProjected(rows [][]pair, vars []string) [][]pair {
	var l [][]pair
	for _, r := range rows {
		l = append(l, slices.DeleteFunc(slices.Clone(r), func(p pair) bool { return !slices.Contains(vars, p.Var) }))
	}
	return plainInOrder(l)
}

// plainAnswer is the document's sentence about Answer, where no limit is met.
func plainAnswer(g []triple, q query) [][]pair {
	rows := plainSolutions(g, q.Where, nil)
	if len(q.Also) > 0 {
		rows = plainExtended(g, rows, q.Also)
	}
	return plainProjected(rows, q.Vars)
}

func TestAnswersToAFewQueries(t *testing.T) {
	g := knot()
	for _, c := range []struct {
		s    string
		want [][]pair
	}{
		{"select ?x where ?x <p> \"t\" .", readRows("?x=<a>", "?x=_:b")},
		{"select ?y where ?x <p> ?y .", readRows("?y=\"t\"", "?y=<a>", "?y=<p>", "?y=_:b")},
		{"select ?y ?x where ?x <p> ?y . ?y <p> \"t\" .", readRows("?x=<a> ?y=<a>", "?x=<a> ?y=_:b", "?x=<b> ?y=<a>", "?x=_:b ?y=_:b")},
		// Nothing fits.
		{"select ?x where ?x <p> <b> .", nil},
		{"select ?x where ?x <p> ?y . <a> <p> <none> .", nil},
		{"select ?x ?y where ?x <p> <b> . also ?x <p> ?y .", nil},
		{"select ?y where ?x <p> <b> . also <a> <p> ?y .", nil},
		// Some may have more, and stay when they have not.
		{"select ?x ?y where ?x <a> <b> . also ?x <p> ?y .", readRows("?x=<a> ?y=\"t\"", "?x=<a> ?y=<a>", "?x=<a> ?y=_:b", "?x=<p> ?y=<p>")},
		{"select ?x ?y where ?x <p> \"t\" . also ?x <a> ?y .", readRows("?x=<a> ?y=<a>", "?x=<a> ?y=<b>", "?x=_:b")},
		{"select ?x where ?x <p> \"t\" . also ?x <a> ?y .", readRows("?x=<a>", "?x=_:b")},
		{"select ?y where ?x <p> \"t\" . also ?x <a> ?y .", readRows("", "?y=<a>", "?y=<b>")},
		{"select ?y where ?x <p> \"t\" . also ?x <none> ?y .", readRows("")},
		{"select ?x ?y where ?x <p> \"t\" . also ?x <none> ?y .", readRows("?x=<a>", "?x=_:b")},
		// All of Also has to fit for a row to have more.
		{"select ?x ?y where ?x <p> \"t\" . also ?x <a> ?y . ?y <none> ?y .", readRows("?x=<a>", "?x=_:b")},
		{"select ?x ?y where ?x <p> \"t\" . also ?x <a> ?y . ?y <p> ?z .", readRows("?x=<a> ?y=<a>", "?x=<a> ?y=<b>", "?x=_:b")},
		{"select ?x ?z where ?x <p> \"t\" . also ?x <a> ?y . ?y <p> ?z .", readRows("?x=<a> ?z=\"t\"", "?x=<a> ?z=<a>", "?x=<a> ?z=_:b", "?x=_:b")},
		// Where has no variables.
		{"select ?x where <a> <p> <a> . also <b> <p> ?x .", readRows("?x=<a>")},
		{"select ?x where <a> <p> <a> . also <a> <none> ?x .", readRows("")},
		{"select ?x where <a> <p> <b> . also <b> <p> ?x .", nil},
		// Also has none, or none of its own.
		{"select ?x where ?x <p> \"t\" . also <a> <p> <none> .", readRows("?x=<a>", "?x=_:b")},
		{"select ?x where ?x <p> \"t\" . also <a> <p> <a> .", readRows("?x=<a>", "?x=_:b")},
		{"select ?x where ?x <p> \"t\" . also ?x <p> <a> .", readRows("?x=<a>", "?x=_:b")},
	} {
		q, ok := impl.ReadQuery(c.s)
		if !ok {
			t.Fatal(c.s)
		}
		got, ok := impl.Answer(g, q)
		wantRows(t, c.s, got, ok, c.want)
		wantRows(t, c.s+", told plainly", plainAnswer(g, q), true, c.want)
	}
	for _, q := range rightQueries() {
		got, ok := impl.Answer(nil, q)
		wantRows(t, "no triples", got, ok, nil)
	}
}

func TestAnswersHaveWhatWasAskedForAndKeepWhatMustFit(t *testing.T) {
	dice := rand.New(rand.NewSource(193))
	found, longer, kept := 0, 0, 0
	for range 6000 {
		g, q := graphBy(dice, knot()), queryBy(dice)
		q.Where, q.Also = q.Where[:min(len(q.Where), 2)], q.Also[:min(len(q.Also), 2)]
		if !impl.QueryOk(q) {
			continue
		}
		got, ok := impl.Answer(g, q)
		wantRows(t, plainQueryText(q), got, ok, plainAnswer(g, q))
		for _, r := range got {
			for _, p := range r {
				if !slices.Contains(q.Vars, p.Var) {
					t.Fatalf("%s: %v", plainQueryText(q), r)
				}
			}
		}
		found += len(got)
		must, _ := impl.Solutions(g, q.Where)
		for _, r := range plainProjected(must, q.Vars) {
			if !slices.ContainsFunc(got, func(more []pair) bool { return isPartOf(r, more) }) {
				t.Fatalf("%s: %v is lost", plainQueryText(q), r)
			}
			if slices.ContainsFunc(got, func(more []pair) bool { return slices.Equal(more, r) }) {
				kept++
			} else {
				longer++
			}
		}
		if t.Failed() {
			t.Fatalf("Answer(%v, %s)", g, plainQueryText(q))
		}
	}
	if found < 3000 || longer < 100 || kept < 1000 {
		t.Errorf("%d rows; %d have more, %d have not", found, longer, kept)
	}
}

// Where Solutions, Extended or Projected are false an answer is, too.
func TestAnswersOfTooManyRows(t *testing.T) {
	for _, c := range []struct {
		m, n int
		s    string
		want int
	}{
		{15, 20, "select ?x ?y where <a> <p> ?x . <a> <q> ?y .", 300},
		{7, 43, "select ?x ?y where <a> <p> ?x . <a> <q> ?y .", -1},
		{15, 20, "select ?y where <a> <p> ?x . <a> <q> ?y .", 20},
		{7, 43, "select ?x where <a> <p> ?x . <a> <q> ?y .", -1},
		{7, 43, "select ?x where <a> <p> ?x . <a> <q> ?y . <a> <p> ?y .", -1},
		{7, 43, "select ?x where <a> <p> ?x . <a> <p> ?y . <a> <q> ?y .", 7},
		{7, 43, "select ?x where <a> <p> ?x . <a> <q> ?y . <a> <p> <none> .", -1},
		{7, 43, "select ?x where <a> <p> ?x . <a> <q> ?y . <a> <p> <none> . also <a> <p> ?x .", -1},
		// Extended has too many: of one row, of all of them, on the way.
		{15, 20, "select ?x ?y where <a> <p> ?x . also <a> <q> ?y .", 300},
		{7, 43, "select ?x ?y where <a> <p> ?x . also <a> <q> ?y .", -1},
		{7, 43, "select ?x where <a> <p> ?x . also <a> <q> ?y .", -1},
		{7, 43, "select ?x where ?a <p> <aa> . also <a> <p> ?x . <a> <q> ?y .", -1},
		{7, 43, "select ?x where ?a <p> <aa> . also <a> <p> ?x . <a> <q> ?y . <a> <p> <none> .", -1},
		{7, 43, "select ?x where <a> <p> ?x . also <a> <q> ?y . <a> <p> <none> .", 7},
		{7, 43, "select ?x where <a> <p> ?x . also <a> <p> <none> . <a> <q> ?y .", 7},
		{15, 20, "select ?x ?y where <a> <p> ?x . <a> <q> ?y . also <a> <p> ?y .", 300},
		{15, 20, "select ?x ?z where <a> <p> ?x . <a> <q> ?y . also <a> <q> ?z .", -1},
		{15, 20, "select ?x where <a> <p> ?x . <a> <q> ?y . also <none> <q> ?z .", 15},
		{7, 43, "select ?x where <a> <p> <none> . also <a> <p> ?x . <a> <q> ?y .", 0},
		// Extended has a row of more than 12 pairs.
		{1, 0, "select ?a ?l where ?a ?b ?c . ?d ?e ?f . ?g ?h ?i . ?j ?k ?l .", 1},
		{1, 0, "select ?a ?l where ?a ?b ?c . ?d ?e ?f . ?g ?h ?i . ?j ?k ?l . also ?a ?b ?l .", 1},
		{1, 0, "select ?a where ?a ?b ?c . ?d ?e ?f . ?g ?h ?i . ?j ?k ?l . also ?a ?m ?c .", -1},
		{1, 0, "select ?a ?m where ?a ?b ?c . ?d ?e ?f . ?g ?h ?i . ?j ?k ?l . also ?a ?m <none> .", 1},
		{1, 0, "select ?a ?m where ?a ?b ?c . ?d ?e ?f . ?g ?h ?i . ?j ?k ?l . also ?a ?m ?c . ?a <none> ?m .", 1},
		{1, 0, "select ?a where ?a ?b ?c . ?d ?e ?f . ?g ?h ?i . also ?j ?k ?l .", 1},
		{1, 0, "select ?a where ?a ?b ?c . ?d ?e ?f . ?g ?h ?i . also ?j ?k ?l . ?m <p> <aa> .", -1},
	} {
		q, ok := impl.ReadQuery(c.s)
		if !ok {
			t.Fatal(c.s)
		}
		got, ok := impl.Answer(twoKinds(c.m, c.n), q)
		wantCount(t, c.s, got, ok, c.want)
	}
}

func TestAnswersOfGraphsThatAreNotRight(t *testing.T) {
	for why, g := range wrongGraphs() {
		for _, q := range rightQueries()[:10] {
			got, ok := impl.Answer(g, q)
			wantNoRows(t, why, got, ok)
		}
		got, ok := impl.Answer(g, aQuery("?x", "?x <none> <none> .", "?x <none> <none> ."))
		wantNoRows(t, why+", and nothing fits", got, ok)
		got, ok = impl.Answer(g, query{})
		wantNoRows(t, why+", and no query", got, ok)
	}
}

// plainRowsText is the document's sentence about RowsText.
func plainRowsText(rows [][]pair) string {
	s := ""
	for _, r := range rows {
		for i, p := range r {
			if i > 0 {
				s += " "
			}
			s += p.Var + "=" + p.Term
		}
		s += "\n"
	}
	return s
}

func wantRowsText(t *testing.T, rows [][]pair, want string) {
	t.Helper()
	if got := impl.RowsText(rows); got != want {
		t.Errorf("RowsText(%v) = %q, want %q", rows, got, want)
	}
}

func TestTheTextsOfRows(t *testing.T) {
	wantRowsText(t, nil, "")
	wantRowsText(t, [][]pair{}, "")
	wantRowsText(t, [][]pair{nil}, "\n")
	wantRowsText(t, [][]pair{{}, nil, {}}, "\n\n\n")
	wantRowsText(t, readRows("?x=<a>"), "?x=<a>\n")
	wantRowsText(t, readRows("?c=<c> ?x=<x>", "?c=<d> ?x=_:y"), "?c=<c> ?x=<x>\n?c=<d> ?x=_:y\n")
	wantRowsText(t, readRows("?x=<a>", "", "?10=\"t\" ?9=<a> ?x=_:b"), "?x=<a>\n\n?10=\"t\" ?9=<a> ?x=_:b\n")
	// Rows stay as they stand: out of order, and one twice.
	wantRowsText(t, readRows("?x=<b>", "?x=<a>", "?x=<b>"), "?x=<b>\n?x=<a>\n?x=<b>\n")
	wantRowsText(t, [][]pair{{{Var: "?x", Term: "\"a = ?y \\n\""}, {Var: "?y", Term: "\"\""}}}, "?x=\"a = ?y \\n\" ?y=\"\"\n")
	wantRowsText(t, [][]pair{manyPairs(12)}, plainRowsText([][]pair{manyPairs(12)}))
	wantRowsText(t, [][]pair{manyPairs(13)}, "")
	for n := 298; n < 303; n++ {
		want, empty := plainRowsText(numberedRows(n)), strings.Repeat("\n", n)
		if n > 300 {
			want, empty = "", ""
		}
		wantRowsText(t, numberedRows(n), want)
		wantRowsText(t, make([][]pair, n), empty)
	}
}

func TestTheTextsOfRowsThatAreNotRight(t *testing.T) {
	for _, wrong := range wrongRows() {
		for i := range 3 {
			wantRowsText(t, slices.Insert(readRows("?x=<a>", ""), i, wrong), "")
		}
		wantRowsText(t, [][]pair{wrong}, "")
	}
	for name, kn := range wordsByKind() {
		for term, kt := range wordsByKind() {
			r, want := []pair{{Var: name, Term: term}}, ""
			if kn == impl.TmVar && isOneOf(kt, impl.TmName, impl.TmText, impl.TmBlank) {
				want = name + "=" + term + "\n"
			}
			wantRowsText(t, [][]pair{r}, want)
		}
	}
	wantRowsText(t, append(numberedRows(300), readRow("?x=?y")), "")
	wantRowsText(t, append(numberedRows(299), readRow("?x=?y")), "")
}

func TestTheTextsOfAnswers(t *testing.T) {
	dice := rand.New(rand.NewSource(197))
	for range 600 {
		q := query{Vars: []string{"?x", "?y"}, Where: readPatterns("?x <p> ?y ."), Also: patternsBy(dice, dice.Intn(3))}
		rows, ok := impl.Answer(graphBy(dice, knot()), q)
		if !ok {
			t.Fatal(q)
		}
		wantRowsText(t, rows, plainRowsText(rows))
	}
}
