package tests

import (
	"math/rand"
	"slices"
	"testing"

	"loop.example/g00420/impl"
)

// plainExtended is the document's sentence about Extended, where no limit is met.
func plainExtended(g []triple, rows [][]pair, l []triple) [][]pair {
	var all [][]pair
	for _, r := range rows {
		more := plainSolutions(g, l, slices.Clone(r))
		if len(more) == 0 {
			more = [][]pair{r}
		}
		all = append(all, more...)
	}
	return plainInOrder(all)
}

func TestExtendedOfAFewRows(t *testing.T) {
	g := knot()
	for _, c := range []struct {
		rows [][]pair
		l    string
		want [][]pair
	}{
		{nil, "?x <p> ?y .", nil},
		{nil, "", nil},
		{readRows("?x=<b>", "?x=<a>", "?x=<a>"), "", readRows("?x=<a>", "?x=<b>")},
		{readRows(""), "<a> <p> ?y .", readRows("?y=\"t\"", "?y=<a>", "?y=_:b")},
		{readRows(""), "<b> <b> ?y .", readRows("")},
		{readRows("?x=<b>", "?x=<none>"), "?x <p> ?y .", readRows("?x=<b> ?y=<a>", "?x=<none>")},
		{readRows("?x=<b> ?y=<b>"), "?x <p> ?y .", readRows("?x=<b> ?y=<b>")},
		{readRows("?x=<b> ?y=<a>"), "?x <p> ?y .", readRows("?x=<b> ?y=<a>")},
		{readRows("?y=\"t\""), "?x <p> ?y .", readRows("?x=<a> ?y=\"t\"", "?x=_:b ?y=\"t\"")},
		// A term that can not stand in a place: nothing fits.
		{readRows("?y=\"t\""), "?y <p> ?x .", readRows("?y=\"t\"")},
		{readRows("?y=_:b"), "<a> ?y ?x .", readRows("?y=_:b")},
		{readRows("?y=<p>"), "<a> ?y ?x .", readRows("?x=\"t\" ?y=<p>", "?x=<a> ?y=<p>", "?x=_:b ?y=<p>")},
		// Rows that have no variable of the patterns, and rows of which one is a part of another.
		{readRows("?z=<z>", ""), "<b> ?q <p> .", readRows("?q=<a>", "?q=<a> ?z=<z>")},
		{readRows("?x=<b> ?y=<a>", "?x=<b>"), "?x <p> ?y .", readRows("?x=<b> ?y=<a>")},
		// The first pattern fits, the second one does not.
		{readRows("?x=<b>"), "?x <p> ?y . ?y <p> <p> .", readRows("?x=<b>")},
		{readRows("?x=<p>"), "?x <p> ?y . ?y <p> ?y .", readRows("?x=<p> ?y=<p>")},
	} {
		got, ok := impl.Extended(g, c.rows, readPatterns(c.l))
		wantRows(t, c.l, got, ok, c.want)
	}
}

// isPartOf asks whether all pairs of a row are in another.
func isPartOf(r, more []pair) bool {
	for _, p := range r {
		if !slices.Contains(more, p) {
			return false
		}
	}
	return true
}

func TestExtendedRows(t *testing.T) {
	dice := rand.New(rand.NewSource(11))
	all := rowsOver([]string{"?p", "?w", "?x", "?y"}, []string{"<a>", "_:b", "\"t\"", "<p>"})
	longer := 0
	for range 1500 {
		g, l := graphBy(dice, knot()), patternsBy(dice, dice.Intn(4))
		var rows [][]pair
		for range dice.Intn(6) {
			rows = append(rows, all[dice.Intn(len(all))])
		}
		want := plainExtended(g, rows, l)
		got, ok := impl.Extended(g, rows, l)
		if !ok || !sameRows(got, want) {
			t.Fatalf("Extended(%v, %v, %v) = %v, %v, want %v", g, rows, l, got, ok, want)
		}
		for _, r := range rows {
			if !slices.ContainsFunc(got, func(more []pair) bool { return isPartOf(r, more) }) {
				t.Fatalf("%v is no part of %v", r, got)
			}
		}
		for _, r := range got {
			if !slices.ContainsFunc(rows, func(less []pair) bool { return isPartOf(less, r) }) {
				t.Fatalf("%v has none of %v", r, rows)
			}
			if !slices.ContainsFunc(rows, func(less []pair) bool { return slices.Equal(less, r) }) {
				longer++
			}
		}
	}
	if longer < 500 {
		t.Errorf("only %d rows are longer", longer)
	}
}

func TestExtendedIsSolutionsOfTheEmptyRow(t *testing.T) {
	dice := rand.New(rand.NewSource(13))
	for range 500 {
		g, l := graphBy(dice, knot()), patternsBy(dice, dice.Intn(5))
		want, ok := impl.Solutions(g, l)
		if !ok {
			t.Fatal(l)
		}
		if len(want) == 0 {
			want = readRows("")
		}
		got, ok := impl.Extended(g, readRows(""), l)
		wantRows(t, "the empty row", got, ok, want)
	}
}

func wantCount(t *testing.T, what string, got [][]pair, ok bool, want int) {
	t.Helper()
	if want < 0 {
		wantNoRows(t, what, got, ok)
		return
	}
	if !ok || len(got) != want || !sameRows(got, plainInOrder(got)) {
		t.Errorf("%s: %d rows, %v, want %d", what, len(got), ok, want)
	}
}

// strangers gives rows whose ?m is the S of no triple.
func strangers(n int) [][]pair {
	rows := numberedRows(n)
	for i, r := range rows {
		rows[i] = append(readRow("?m=<none>"), r...)
	}
	return rows
}

func TestExtendedOfThreeHundredRows(t *testing.T) {
	pets := twoKinds(2, 0)
	one := readPatterns("<a> <p> <aa> .")
	for _, c := range []struct {
		what string
		rows [][]pair
		l    []triple
		want int
	}{
		{"300", numberedRows(300), one, 300},
		{"301", numberedRows(301), one, -1},
		{"300 alike", slices.Repeat(numberedRows(1), 300), one, 1},
		{"301 alike", slices.Repeat(numberedRows(1), 301), one, -1},
		{"301, no patterns", numberedRows(301), nil, -1},
		{"300 that nothing fits", numberedRows(300), readPatterns("?n <p> ?x ."), 300},
		{"150 that become two each", numberedRows(150), readPatterns("<a> <p> ?x ."), 300},
		{"151 that become two each", numberedRows(151), readPatterns("<a> <p> ?x ."), -1},
		{"300 that become two each", numberedRows(300), readPatterns("<a> <p> ?x ."), -1},
		{"one of 300 becomes two", append(strangers(299), readRow("?m=<a>")), readPatterns("?m <p> ?x ."), -1},
		{"one of 299 becomes two", append(strangers(298), readRow("?m=<a>")), readPatterns("?m <p> ?x ."), 300},
		{"two become alike", append(strangers(298), readRow("?m=<a> ?x=<aa>"), readRow("?m=<a>")), readPatterns("?m <p> ?x ."), 300},
	} {
		got, ok := impl.Extended(pets, c.rows, c.l)
		wantCount(t, c.what, got, ok, c.want)
	}
}

func TestExtendedOfOneRowPatternByPattern(t *testing.T) {
	two := readRows("?n=<n>", "?n=<o>")
	for _, c := range []struct {
		m, n int
		rows [][]pair
		l    string
		want int
	}{
		{15, 20, two[:1], "<a> <p> ?x . <a> <q> ?y .", 300},
		{7, 43, two[:1], "<a> <p> ?x . <a> <q> ?y .", -1},
		{15, 20, two, "<a> <p> ?x . <a> <q> ?y .", -1},
		{7, 43, two[:1], "<a> <p> ?x . <a> <q> ?y . ?n <p> ?x .", -1},
		{7, 43, two[:1], "?n <p> ?x . <a> <p> ?x . <a> <q> ?y .", 1},
		{7, 43, nil, "<a> <p> ?x . <a> <q> ?y .", 0},
		{7, 43, numberedRows(3), "?n <p> ?x . <a> <p> ?x . <a> <q> ?y .", 3},
		{7, 43, append(numberedRows(3), readRow("")), "?n <p> ?x . <a> <p> ?x . <a> <q> ?y .", -1},
		{7, 43, append(readRows(""), numberedRows(3)...), "?n <p> ?x . <a> <p> ?x . <a> <q> ?y .", -1},
		// Each row has 300 so far, and all of them more than 300, ahead of a pattern that has fewer again.
		{15, 20, two, "<a> <p> ?x . <a> <q> ?y . <none> <p> ?x .", 2},
		{15, 20, two[:1], "<a> <p> ?x . <a> <q> ?y . <a> <p> ?y .", 225},
		{15, 20, two, "<a> <p> ?x . <a> <q> ?y . <a> <p> ?y . ?x <p> ?y .", 2},
		// What is known already has fewer.
		{7, 43, readRows("?x=<aa>"), "<a> <p> ?x . <a> <q> ?y .", 43},
		{7, 43, readRows("?x=<aa>", "?x=<none>", "?x=<ab>"), "<a> <p> ?x . <a> <q> ?y .", 87},
	} {
		got, ok := impl.Extended(twoKinds(c.m, c.n), c.rows, readPatterns(c.l))
		wantCount(t, c.l, got, ok, c.want)
	}
}

func TestTwelvePairsAreNotTooManyForAnExtendedRow(t *testing.T) {
	g := twoKinds(2, 1)
	for n := 8; n <= 12; n++ {
		for more, l := range []string{"<a> <q> <aa> .", "<a> <q> ?x .", "<a> ?q ?x .", "<a> <p> ?x . <a> <p> ?y . <a> <q> ?z ."} {
			counts := []int{1, 1, 3, 4}
			want := counts[more]
			if n+more > 12 {
				want = -1
			}
			got, ok := impl.Extended(g, [][]pair{manyPairs(n)}, readPatterns(l))
			wantCount(t, l, got, ok, want)
			got, ok = impl.Extended(g, [][]pair{readRow("?zz=<a>"), manyPairs(n), nil}, readPatterns(l))
			if want > 0 {
				want *= 3
			}
			wantCount(t, l+" beside others", got, ok, want)
		}
	}
	got, ok := impl.Extended(g, [][]pair{manyPairs(12)}, readPatterns("<a> <p> ?aa ."))
	wantRows(t, "nothing fits a row of 12", got, ok, [][]pair{manyPairs(12)})
	got, ok = impl.Extended(g, [][]pair{manyPairs(12)}, readPatterns("?aa <p> ?x . ?x <p> ?y ."))
	wantRows(t, "what is too long comes to nothing", got, ok, [][]pair{manyPairs(12)})
	got, ok = impl.Extended(g, [][]pair{manyPairs(11)}, readPatterns("?aa <p> ?x . ?aa <p> ?y . ?aa <q> ?y . <a> <p> <none> ."))
	wantRows(t, "what is too long comes to nothing, later", got, ok, [][]pair{manyPairs(11)})
	got, ok = impl.Extended(g, [][]pair{manyPairs(13)}, nil)
	wantNoRows(t, "a row of 13", got, ok)
}

func TestExtendedOfWhatIsNotRight(t *testing.T) {
	for why, g := range wrongGraphs() {
		for _, rows := range [][][]pair{nil, readRows(""), readRows("?x=<a>")} {
			got, ok := impl.Extended(g, rows, readPatterns("?x <p> ?y ."))
			wantNoRows(t, why, got, ok)
			got, ok = impl.Extended(g, rows, nil)
			wantNoRows(t, why, got, ok)
		}
	}
	for _, l := range wrongBgps() {
		for _, rows := range [][][]pair{nil, readRows(""), readRows("?x=<a>")} {
			got, ok := impl.Extended(knot(), rows, l)
			wantNoRows(t, "patterns that are not right", got, ok)
		}
	}
	for _, wrong := range wrongRows() {
		for _, rows := range [][][]pair{{wrong}, {nil, wrong}, {wrong, readRow("?x=<a>")}} {
			for _, l := range []string{"", "?x <p> ?y .", "<a> <p> <none> ."} {
				got, ok := impl.Extended(knot(), rows, readPatterns(l))
				wantNoRows(t, "a row that is not right", got, ok)
			}
		}
	}
}
