package tests

import (
	"slices"
	"testing"

	"loop.example/g00420/impl"
)

// withRoom is a list with spare room behind it that is filled with spare.
func withRoom[T any](l []T, spare T) []T {
	all := slices.Concat(l, slices.Repeat([]T{spare}, 4))
	return all[:len(l):len(all)]
}

func whole[T any](l []T) []T { return l[:cap(l)] }

var (
	sparePair = pair{Var: "spare", Term: "spare"}
	spareRow  = []pair{sparePair}
)

// args is what the functions of rows and rules take, each list with spare room.
type args struct {
	g    []triple
	l    []triple
	rows [][]pair
	vars []string
	head triple
}

func roomyArgs(a args) args {
	b := args{g: withRoom(a.g, mark), l: withRoom(a.l, mark), vars: withRoom(a.vars, "spare"), head: a.head}
	var rows [][]pair
	for _, r := range a.rows {
		rows = append(rows, withRoom(r, sparePair))
	}
	b.rows = withRoom(rows, spareRow)
	return b
}

// memoryOf is all that stands in the lists and in the room behind them.
func memoryOf(a args) args {
	b := args{g: slices.Clone(whole(a.g)), l: slices.Clone(whole(a.l)), vars: slices.Clone(whole(a.vars))}
	for _, r := range whole(a.rows) {
		b.rows = append(b.rows, slices.Clone(whole(r)))
	}
	return b
}

func sameMemory(a, b args) bool {
	same := slices.Equal(a.g, b.g) && slices.Equal(a.l, b.l) && slices.Equal(a.vars, b.vars)
	return same && slices.EqualFunc(a.rows, b.rows, slices.Equal[[]pair])
}

func scribbleArgs(a args) {
	scribble(a.g)
	scribble(a.l)
	for i := range whole(a.vars) {
		whole(a.vars)[i] = "scribbled"
	}
	scribbleRows(a.rows)
}

func scribbleRow(r []pair) {
	for i := range whole(r) {
		whole(r)[i] = pair{Var: "scribbled", Term: "scribbled"}
	}
}

// scribbleRows writes over the rows, and then over the list that they are in.
func scribbleRows(rows [][]pair) {
	for _, r := range rows {
		scribbleRow(r)
	}
	for i := range whole(rows) {
		whole(rows)[i] = nil
	}
}

func cloneRows(rows [][]pair) [][]pair {
	var l [][]pair
	for _, r := range rows {
		l = append(l, slices.Clone(r))
	}
	return l
}

func equalRows(a, b [][]pair) bool { return slices.EqualFunc(a, b, slices.Equal[[]pair]) }

// checkRowsApart calls f with lists that have spare room and sees that no list of an answer is one of an argument, of another answer, or another of its own.
func checkRowsApart(t *testing.T, name string, given args, f func(a args) [][]pair) {
	t.Helper()
	a := roomyArgs(given)
	kept := memoryOf(a)
	first := f(a)
	want := cloneRows(first)
	if !sameMemory(memoryOf(a), kept) {
		t.Errorf("%s writes into an argument or behind it", name)
	}
	second := f(a)
	if !equalRows(second, want) {
		t.Errorf("%s: the same arguments give %v and %v", name, want, second)
	}
	for i := range second {
		scribbleRow(second[i])
		if !equalRows(second[i+1:], want[i+1:]) {
			t.Fatalf("%s: two lists of one answer share memory", name)
		}
	}
	scribbleRows(second)
	if !equalRows(first, want) {
		t.Errorf("%s: two answers share memory", name)
	}
	scribbleRows(first)
	if !sameMemory(memoryOf(a), kept) {
		t.Errorf("%s: an answer shares memory with an argument", name)
	}
	third := f(a)
	scribbleArgs(a)
	if !equalRows(third, want) {
		t.Errorf("%s: an argument shares memory with an answer", name)
	}
}

func rowsIf(rows [][]pair, ok bool) [][]pair {
	if !ok && len(rows) != 0 {
		panic("rows beside a false")
	}
	return rows
}

func rowIf(r []pair, ok bool) [][]pair {
	if !ok && len(r) != 0 {
		panic("a row beside a false")
	}
	return [][]pair{r}
}

// asRow lets answers of texts and of triples be checked as rows are.
func asRow(words ...string) [][]pair {
	var r []pair
	for _, word := range words {
		r = append(r, pair{Var: word})
	}
	return [][]pair{r}
}

// someArgs is arguments that are right and that are not.
func someArgs() []args {
	var list []args
	rows := [][][]pair{nil, readRows(""), readRows("?x=<a>", "?x=<a>", "?x=<b> ?y=<a>", "", "?z=\"t\""), readRows("?y=<a> ?x=<a>"), numberedRows(300), numberedRows(301), {manyPairs(12), manyPairs(11)}}
	patterns := [][]triple{nil, readPatterns("<a> <p> <a> ."), readPatterns("?x <p> ?y ."), readPatterns("?x <p> ?y . ?y ?p ?x ."), readPatterns("?x <p> <a> . ?x <p> <none> ."), readPatterns("?x _:p ?y ."), slices.Repeat(readPatterns("?x <p> ?y ."), 5)}
	for _, g := range [][]triple{nil, knot(), knot()[2:5], twoKinds(15, 20), manyTriples(81), {knot()[1], knot()[0]}} {
		for _, l := range patterns {
			for _, r := range rows {
				list = append(list, args{g: g, l: l, rows: r, vars: []string{"?y", "?x", "?y"}, head: triple{S: "?x", P: "<new>", O: "?y"}})
			}
		}
	}
	return append(list, args{vars: []string{"x"}}, args{rows: rows[2]}, args{rows: rows[2], vars: []string{"?none"}})
}

func TestNothingIsWrittenIntoRowsAndPatternsAndNothingShared(t *testing.T) {
	for _, a := range someArgs() {
		checkRowsApart(t, "BgpOk and VarsOf", a, func(a args) [][]pair {
			impl.BgpOk(a.l)
			return asRow(impl.VarsOf(a.l)...)
		})
		checkRowsApart(t, "Solutions", a, func(a args) [][]pair { return rowsIf(impl.Solutions(a.g, a.l)) })
		checkRowsApart(t, "Projected", a, func(a args) [][]pair { return rowsIf(impl.Projected(a.rows, a.vars)) })
		checkRowsApart(t, "Extended", a, func(a args) [][]pair { return rowsIf(impl.Extended(a.g, a.rows, a.l)) })
		for i := range min(len(a.rows), 4) {
			checkRowsApart(t, "Merged", a, func(a args) [][]pair { return rowIf(impl.Merged(a.rows[0], a.rows[i])) })
			checkRowsApart(t, "RowOk and Filled", a, func(a args) [][]pair {
				impl.RowOk(a.rows[i])
				x := impl.Filled(a.rows[i], a.head)
				return asRow(x.S, x.P, x.O)
			})
		}
	}
}

func TestNothingIsWrittenIntoARuleAndNothingShared(t *testing.T) {
	for _, a := range someArgs() {
		if len(a.rows) > 0 {
			continue
		}
		checkRowsApart(t, "RuleOk and RuleText", a, func(a args) [][]pair {
			impl.RuleOk(rule{Body: a.l, Head: a.head})
			return asRow(impl.RuleText(rule{Body: a.l, Head: a.head}))
		})
		checkApart(t, "Fired", func(g, l []triple) []triple { return listOf(impl.Fired(g, rule{Body: l, Head: a.head})) }, a.g, a.l)
		checkApart(t, "ReadRule", func(_, l []triple) []triple {
			r, ok := impl.ReadRule(impl.RuleText(rule{Body: l, Head: a.head}))
			if !ok && r.Head != (triple{}) {
				panic("a head beside a false")
			}
			return listOf(r.Body, ok)
		}, nil, a.l)
	}
}

// The list that VarsOf gives is no part of anything that is kept.
func TestTheListsOfVarsOfAreApart(t *testing.T) {
	l := readPatterns("?x <p> ?y .")
	first := impl.VarsOf(l)
	for i := range whole(first) {
		whole(first)[i] = "scribbled"
	}
	if got := impl.VarsOf(l); !slices.Equal(got, []string{"?x", "?y"}) {
		t.Error(got)
	}
}

// Rows that are parts of one list have the next ones as their spare room, and a row may be there twice.
func TestRowsThatArePartsOfOneListLeaveTheRestAlone(t *testing.T) {
	g := knot()
	all := readRow("?x=<a> ?y=<a> ?x=<b> ?y=<a> ?z=\"t\" ?x=_:b")
	kept := slices.Clone(all)
	rows := [][]pair{all[:2], all[2:3], all[4:5], all[5:], all[:2], all[:1], all[3:3], all[:0]}
	for range 2 {
		for _, l := range []string{"", "?x <p> ?y .", "?w ?p ?x .", "?a <p> \"t\" . ?a ?b ?c ."} {
			got, ok := impl.Extended(g, rows, readPatterns(l))
			if want := plainExtended(g, rows, readPatterns(l)); !ok || !sameRows(got, want) {
				t.Errorf("%s: %v, %v", l, got, ok)
			}
			scribbleRows(got)
		}
		got, ok := impl.Projected(rows, []string{"?x", "?y", "?z"})
		if !ok {
			t.Error("right rows")
		}
		scribbleRows(got)
		for _, a := range rows {
			for _, b := range rows {
				r, _ := impl.Merged(a, b)
				scribbleRow(r)
			}
		}
		if !slices.Equal(all, kept) {
			t.Fatal(all)
		}
	}
}

func TestQueriesAndRulesGiveTheSameAnswers(t *testing.T) {
	g, l := knot(), readPatterns("?x <p> ?y . ?y ?q ?z .")
	rows, ok := impl.Solutions(g, l)
	if !ok || len(rows) < 5 {
		t.Fatal(rows)
	}
	r := rule{Body: l, Head: triple{S: "?z", P: "<new>", O: "?x"}}
	made, ok := impl.Fired(g, r)
	if !ok || len(made) < 3 {
		t.Fatal(made)
	}
	for range 200 {
		again, ok := impl.Solutions(g, l)
		wantRows(t, "Solutions", again, ok, rows)
		again, ok = impl.Extended(g, rows, readPatterns("?z ?q ?y ."))
		wantRows(t, "Extended", again, ok, plainExtended(g, rows, readPatterns("?z ?q ?y .")))
		again, ok = impl.Projected(rows, []string{"?q"})
		wantRows(t, "Projected", again, ok, readRows("?q=<a>", "?q=<p>"))
		if fresh, ok := impl.Fired(g, r); !ok || !slices.Equal(fresh, made) {
			t.Fatal(fresh)
		}
		// A call that refuses leaves nothing behind.
		wantRefused(t, g)
	}
}

func wantRefused(t *testing.T, g []triple) {
	t.Helper()
	rows, ok := impl.Solutions(g, slices.Repeat(readPatterns("?x ?y ?z ."), 5))
	wantNoRows(t, "five patterns", rows, ok)
	if r, ok := impl.ReadRule("?x <p> ?y . => ?x <p> ?z ."); ok || !sameRule(r, rule{}) {
		t.Error(r)
	}
}
