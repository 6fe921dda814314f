package tests

import (
	"slices"
	"sync"
	"testing"

	"loop.example/g00420/impl"
)

// netIf gives a net and what came of it as an answer, and sees that nothing stands beside a false.
func netIf(t *testing.T, what string, n rete, heads []triple, ok bool) []any {
	t.Helper()
	if !ok {
		wantNoNet(t, what, n, ok)
		wantNoTriples(t, what, heads, ok)
	}
	return []any{n, heads, ok}
}

// someNets is nets that are right and that are not.
func someNets() []rete {
	two := readRules("<a> <p> ?x . <a> <q> ?y . => ?x <r> ?y .", "<a> <p> <aa> . ?x <z> ?y . => ?y <r> ?x .")
	nets := []rete{{}, someNet(), plainNet(two, twoKinds(15, 20)), plainNet(two, twoKinds(15, 19)), plainNet(two, twoKinds(7, 43)), plainNet(nil, manyTriples(80)), plainNet(two, manyTriples(81))}
	for _, rules := range someRules() {
		for _, g := range [][]triple{nil, knot(), knot()[2:5], {knot()[1], knot()[0]}} {
			nets = append(nets, plainNet(rules, g))
		}
	}
	wrong := someNet()
	wrong.Mems[1].Rows = wrong.Mems[1].Rows[1:]
	return append(nets, wrong)
}

func TestNothingIsWrittenIntoANetAndNothingShared(t *testing.T) {
	lists := [][]triple{nil, readPatterns("<a> <q> <new> . <b> <p> <b> . <c> <z> _:b ."), readPatterns("<a> <q> <new> . <b> <p> <b> . <a> <q> <new> . <c> <z> _:b ."), knot(), {triple{}}, append(knot()[:2], triple{}), manyTriples(81)}
	for _, n := range someNets() {
		for _, l := range append(lists, n.Facts) {
			given := []any{n, l}
			checkAllApart(t, "ReteOk", given, func(args []any) []any { return []any{impl.ReteOk(args[0].(rete))} })
			checkAllApart(t, "ReteNew", given, func(args []any) []any {
				m, ok := impl.ReteNew(args[0].(rete).Rules)
				return netIf(t, "ReteNew", m, nil, ok)
			})
			checkAllApart(t, "ReteRun", given, func(args []any) []any {
				m, ok := impl.ReteRun(args[0].(rete), args[1].([]triple))
				return netIf(t, "ReteRun", m, nil, ok)
			})
			for _, x := range l[:min(len(l), 5)] {
				checkAllApart(t, "ReteAdd", given, func(args []any) []any {
					m, heads, ok := impl.ReteAdd(args[0].(rete), x)
					return netIf(t, "ReteAdd", m, heads, ok)
				})
			}
		}
	}
}

// The lists of a net that is told may be one another, and the facts be what it is told.
func TestANetWhoseListsAreOneAnother(t *testing.T) {
	body := readPatterns("?x <p> ?y . ?x <p> ?y . ?x <p> ?y . ?x <p> ?y .")
	var rules []rule
	for i := range body {
		rules = append(rules, rule{Body: body[:i+1], Head: body[0]}, rule{Body: body[i:], Head: triple{S: "?y", P: "<q>", O: "?x"}})
	}
	l := readPatterns("<a> <p> <b> . <a> <p> <c> . <b> <p> <a> . <b> <p> <b> .")
	rows := plainMemory(l[:2], body[:1])
	n := rete{Rules: rules, Facts: l[:2], Mems: slices.Repeat([]memory{{Rows: rows}}, 20)}
	before := told(valueOf(n, l, rows), true)
	for range 2 {
		got, ok := impl.ReteRun(n, l)
		want, _ := impl.Closure(l, rules)
		if fits := plainNet(rules, inOrder(append(slices.Clone(l), readPatterns("<a> <q> <b> . <b> <q> <b> .")...))); !ok || len(want) != 8 || !sameNet(got, fits) {
			t.Error(got, ok)
		}
		more, heads, ok := impl.ReteAdd(n, l[2])
		if !ok || !slices.Equal(heads, readPatterns("<a> <q> <b> .")) || !impl.ReteOk(more) {
			t.Error(more, heads, ok)
		}
		if n := sharing(spansIn(valueOf(got, more, heads))[1:], spansIn(valueOf(n, l, rows))); n > 0 {
			t.Errorf("%d lists share memory", n)
		}
		if told(valueOf(n, l, rows), true) != before {
			t.Fatal("an argument is written into")
		}
	}
}

// A net that another one was made of can be told something else.
func TestTwoNetsOfOneDoNotMeet(t *testing.T) {
	rules := readRules("?x <p> ?y . ?y <p> ?z . => ?x <q> ?z .")
	first := plainNet(rules, readPatterns("<b> <p> <c> ."))
	left, leftHeads, ok := impl.ReteAdd(first, readPatterns("<a> <p> <b> .")[0])
	right, rightHeads, ok2 := impl.ReteAdd(first, readPatterns("<c> <p> <d> .")[0])
	third, ok3 := impl.ReteRun(left, readPatterns("<c> <p> <d> ."))
	wantNet(t, "the first one", first, true, plainNet(rules, readPatterns("<b> <p> <c> .")))
	wantNet(t, "left", left, ok, plainNet(rules, readPatterns("<a> <p> <b> . <b> <p> <c> .")))
	wantNet(t, "right", right, ok2, plainNet(rules, readPatterns("<b> <p> <c> . <c> <p> <d> .")))
	wantNet(t, "a run", third, ok3, plainNet(rules, readPatterns("<a> <p> <b> . <b> <p> <c> . <b> <q> <d> . <c> <p> <d> .")))
	wantTriples(t, "left", leftHeads, ok, readPatterns("<a> <q> <c> ."))
	wantTriples(t, "right", rightHeads, ok2, readPatterns("<b> <q> <d> ."))
}

func TestNetsAndProofsAtTheSameTime(t *testing.T) {
	rules := readRules("?x <p> ?y . ?y <p> ?z . => ?x <p> ?z .", "?x <p> ?y . => ?y <q> ?x .")
	g := readPatterns("<a> <p> <b> . <b> <p> <c> . <c> <p> <d> .")
	start := mustNew(t, rules)
	want, ok := impl.Closure(g, rules)
	if !ok || len(want) != 12 {
		t.Fatal(want)
	}
	net, goal := plainNet(rules, want), triple{S: "<d>", P: "<q>", O: "<a>"}
	proof, _ := impl.ProofOf(g, rules, goal)
	var all sync.WaitGroup
	for range 8 {
		all.Go(func() {
			for range 40 {
				got, ok := impl.ReteRun(start, g)
				wantNet(t, "ReteRun", got, ok, net)
				p, ok := impl.ProofOf(g, rules, goal)
				wantProof(t, "ProofOf", p, ok, proof)
				// A call that refuses leaves nothing behind.
				if _, ok := impl.ReteRun(start, append(manyTriples(80), g...)); ok || !impl.ProofOk(g, rules, proof) || impl.ProofOk(g[1:], rules, proof) {
					t.Error("a refusal")
				}
			}
		})
	}
	all.Wait()
}

func TestNothingIsWrittenIntoAProofAndNothingShared(t *testing.T) {
	g, rules, p := aProof()
	ladder, steps := aLadder(20)
	goals := append(readPatterns("<x> <type> <c> . <c> <has> <x> . <a> <sub> <c> . <all> <is> <good> . <none> <none> <none> ."), triple{})
	for _, c := range []struct {
		g     []triple
		rules []rule
	}{{g, rules}, {nil, nil}, {g, nil}, {nil, rules}, {ladder, steps}, {knot(), impl.OwlRules()}, {knot(), numberedRules(31)}, {g, []rule{{}}}, {manyTriples(81), nil}, {[]triple{g[1], g[0]}, rules}, {twoKinds(15, 20), readRules("<a> <p> ?x . <a> <q> ?y . => ?x <r> ?y .")}} {
		for _, x := range slices.Concat(goals, c.g[:min(len(c.g), 3)]) {
			checkAllApart(t, "ProofOf", []any{c.g, c.rules}, func(args []any) []any {
				got, ok := impl.ProofOf(args[0].([]triple), args[1].([]rule), x)
				if !ok {
					wantNoProof(t, "ProofOf", got, ok)
				}
				return []any{got, ok}
			})
		}
		wrong := slices.Clone(p)
		slices.Reverse(wrong)
		for _, q := range [][]pstep{nil, p, p[:3], p[2:], wrong, given(manyTriples(81)...), slices.Repeat(p, 20), append(given(c.g...), pstep{})} {
			checkAllApart(t, "ProofOk", []any{c.g, c.rules, q}, func(args []any) []any {
				return []any{impl.ProofOk(args[0].([]triple), args[1].([]rule), args[2].([]pstep))}
			})
			checkAllApart(t, "LeavesOf", []any{q}, func(args []any) []any { return []any{impl.LeavesOf(args[0].([]pstep))} })
		}
	}
}

// Steps that use the same list of places, which is a part of a longer one, leave it alone.
func TestAProofWhoseListsAreOneAnother(t *testing.T) {
	g, rules, p := aProof()
	uses := []int64{0, 1, 2, 3, 4, 0}
	p[3].Uses, p[4].Uses, p[5].Uses = uses[:2], uses[2:4], uses[4:5]
	p = append(p, pstep{Triple: p[3].Triple, Rule: 0, Uses: uses[:2]}, given(g[0])[0])
	p[7].Uses = uses[5:5]
	before := told(valueOf(g, p, uses), true)
	if !impl.ProofOk(g, rules, p) || impl.ProofOk(g[:2], rules, p) {
		t.Error(p)
	}
	wantTriples(t, "LeavesOf", impl.LeavesOf(p), true, []triple{g[0], g[1], g[3]})
	if told(valueOf(g, p, uses), true) != before {
		t.Error("an argument is written into")
	}
}
