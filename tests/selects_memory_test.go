package tests

import (
	"slices"
	"strings"
	"sync"
	"testing"

	"loop.example/g00420/impl"
)

// someQueries is queries that are right and that are not.
func someQueries() []query {
	list := []query{
		{}, {Vars: []string{}, Where: []triple{}, Also: []triple{}}, aQuery("?x ?y", "?x <p> ?y .", "?y <p> ?z . ?z ?q ?x ."), aQuery("?z", "?x <p> ?y .", "?y <p> ?z ."), aQuery("?y", "?x <p> ?y .", ""), aQuery("?x", "?x <none> ?y .", ""), aQuery("?x", "?x <p> \"t\" .", "?x <none> ?y ."),
		aQuery("?x ?x", "?x <p> ?y .", ""), aQuery("?w", "?x <p> ?y .", ""), aQuery("?a", "?a ?b ?c . ?d ?e ?f . ?g ?h ?i .", ""), aQuery("?a", "?a ?b ?c .", "?d ?e ?f . ?g ?h ?i ."), aQuery("?x ?y ?z ?q", "?x <p> ?y . ?y <p> ?z . ?z ?q \"t\" . <a> ?q ?z .", "?x ?q ?q ."),
		{Vars: []string{"?x"}, Where: slices.Repeat(readPatterns("?x <p> ?y ."), 5)}, {Vars: []string{"?x"}, Where: []triple{{}}},
	}
	return append(list, rightQueries()[:14]...)
}

func TestNothingIsWrittenIntoAQueryAndNothingShared(t *testing.T) {
	graphs := [][]triple{nil, {}, knot(), knot()[2:5], twoKinds(15, 20), manyTriples(80), manyTriples(81), {knot()[1], knot()[0]}, {{}}}
	for _, q := range someQueries() {
		checkAllApart(t, "QueryOk", []any{q}, func(args []any) []any { return []any{impl.QueryOk(args[0].(query))} })
		checkAllApart(t, "QueryText", []any{q}, func(args []any) []any { return []any{impl.QueryText(args[0].(query))} })
		checkAllApart(t, "ReadQuery", []any{plainQueryText(q)}, func(args []any) []any {
			got, ok := impl.ReadQuery(args[0].(string))
			return []any{got, ok}
		})
		for _, g := range graphs {
			checkAllApart(t, "Answer", []any{g, q}, func(args []any) []any {
				rows, ok := impl.Answer(args[0].([]triple), args[1].(query))
				return []any{rowsIf(rows, ok), ok}
			})
		}
	}
}

func TestNothingIsWrittenIntoRowsOfAText(t *testing.T) {
	lists := [][][]pair{nil, {}, {nil}, {nil, {}, nil}, readRows("?x=<a>", "?y=_:b ?z=\"t\"", ""), {manyPairs(12)}, {manyPairs(13)}, numberedRows(300), numberedRows(301), readRows("?x=<a>", "?y=<b> ?x=<a>")}
	for _, rows := range lists {
		checkAllApart(t, "RowsText", []any{rows}, func(args []any) []any { return []any{impl.RowsText(args[0].([][]pair))} })
	}
}

// The lists of a query may be parts of one list, each the spare room of the one ahead, and of the graph that it is asked of.
func TestAQueryWhoseListsAreOne(t *testing.T) {
	all := readPatterns("<a> <p> <b> . <a> <q> <c> . ?x <p> ?y . ?x <q> ?z . ?y <p> ?z .")
	names := strings.Fields("?x ?y ?z ?w")
	before := told(valueOf(all, names), true)
	for cut := 1; cut < 4; cut++ {
		for end := cut; end <= 3; end++ {
			for n := 1; n < 4; n++ {
				q := query{Vars: names[:n], Where: all[2:][:cut], Also: all[2:][cut:end]}
				want := plainAnswer(all[:2], q)
				if !impl.QueryOk(q) {
					continue
				}
				rows, ok := impl.Answer(all[:2], q)
				wantRows(t, plainQueryText(q), rows, ok, want)
				back, ok := impl.ReadQuery(impl.QueryText(q))
				if !ok || !sameQuery(back, q) {
					t.Errorf("%v came back as %v", q, back)
				}
				if n := sharing(spansIn(valueOf(rows, back))[1:], spansIn(valueOf(all, names))); n > 0 {
					t.Errorf("%d lists share memory", n)
				}
				if told(valueOf(all, names), true) != before {
					t.Fatal("an argument is written into")
				}
			}
		}
	}
}

// Answers that are written over change no other answer.
func TestAnswersThatAreWrittenOver(t *testing.T) {
	q, g := aQuery("?x ?y", "?x <p> ?y .", "?y <p> ?z ."), knot()
	first, _ := impl.Answer(g, q)
	want := cloneRows(first)
	scribbleRows(first)
	second, ok := impl.Answer(g, q)
	wantRows(t, "behind one that is written over", second, ok, want)
	scribble(g)
	wantRows(t, "of a graph that is written over", second, ok, want)
	s := impl.QueryText(q)
	one, _ := impl.ReadQuery(s)
	scribble(one.Where)
	scribble(one.Also)
	one.Vars[0] = "scribbled"
	if two, ok := impl.ReadQuery(s); !ok || !sameQuery(two, q) {
		t.Error(two)
	}
}

func TestSelectsAndScriptsAtTheSameTime(t *testing.T) {
	q, g := aQuery("?x ?z", "?x <p> ?y .", "?y <q> ?z ."), knot()
	want, s := plainAnswer(g, q), impl.QueryText(q)
	text := script("owl", "+ <c> <sub> <d> .", "+ <x> <type> <c> .", "why <x> <type> <d> .", "- <c> <sub> <d> .", "size", "select ?c where <x> <type> ?c .")
	said := script("ok", "ok", "ok", "why <c> <sub> <d> . <x> <type> <c> .", "ok", "16 1 1", "rows 1", "?c=<c>", "end")
	var all sync.WaitGroup
	for range 8 {
		all.Go(func() {
			for range 30 {
				rows, ok := impl.Answer(g, q)
				wantRows(t, "Answer", rows, ok, want)
				wantScript(t, "RunScript", text, said)
				// A reader that gave up has left nothing behind.
				if _, ok := impl.ReadQuery(s + " also"); ok {
					t.Error("a text that ends too soon")
				}
				if back, ok := impl.ReadQuery(s); !ok || !sameQuery(back, q) || impl.RunScript("size\n") != "0 0 0\n" || impl.RunScript("size") != "too long\n" {
					t.Error(back, ok)
				}
			}
		})
	}
	all.Wait()
}
