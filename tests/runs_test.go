package tests

import (
	"math/rand"
	"slices"
	"testing"

	"loop.example/g00420/impl"
)

// plainListOk is the document's sentence about a list of triples that is right.
func plainListOk(l []triple) bool {
	return len(l) <= 80 && slices.Equal(l, inOrder(l)) && !slices.ContainsFunc(l, func(x triple) bool { return !impl.TripleOk(x) })
}

// plainRun is the document's sentence about ReteRun; it gives the facts at the end.
func plainRun(n rete, l []triple) ([]triple, bool) {
	if !plainListOk(l) {
		return nil, false
	}
	facts := n.Facts
	for waiting := slices.Clone(l); len(waiting) > 0; waiting = waiting[1:] {
		more := inOrder(append(slices.Clone(facts), waiting[0]))
		if !impl.TripleOk(waiting[0]) || len(more) > 80 || !plainRoom(more, n.Rules) {
			return nil, false
		}
		waiting = append(waiting, plainHeads(n.Rules, facts, more)...)
		facts = more
	}
	return facts, true
}

// risingParts cuts a list at each triple that the one in front of it is not ahead of.
func risingParts(l []triple) [][]triple {
	var parts [][]triple
	start := 0
	for i := range l {
		if i+1 == len(l) || !impl.Ahead(l[i], l[i+1]) {
			parts = append(parts, l[start:i+1])
			start = i + 1
		}
	}
	return parts
}

// runByParts tells a net a list in any order in several runs, and sees that one run refuses it when it is not in order.
func runByParts(t *testing.T, n rete, l []triple) (rete, bool) {
	t.Helper()
	parts := risingParts(l)
	if len(parts) > 1 {
		got, ok := impl.ReteRun(n, l)
		wantNoNet(t, "a list that is not in order", got, ok)
	}
	return runAll(n, parts)
}

func runAll(n rete, parts [][]triple) (rete, bool) {
	for _, part := range parts {
		more, ok := impl.ReteRun(n, part)
		if !ok {
			return more, false
		}
		n = more
	}
	return n, true
}

func orders(l []triple) [][]triple {
	if len(l) == 0 {
		return [][]triple{nil}
	}
	var list [][]triple
	for _, rest := range orders(l[1:]) {
		for i := range len(rest) + 1 {
			list = append(list, slices.Insert(slices.Clone(rest), i, l[0]))
		}
	}
	return list
}

func TestANetComesToHaveTheClosureInWhateverOrder(t *testing.T) {
	for _, c := range []struct {
		g    string
		list []string
		want int
	}{
		{"<a> <p> <b> . <a> <sub> <b> . <b> <sub> <c> .", []string{"?x <sub> ?y . ?y <sub> ?z . => ?x <sub> ?z .", "?x <p> ?y . => ?y <p> ?x ."}, 5},
		{"<a> <sub> <b> . <b> <sub> <c> . <c> <sub> <d> . <d> <sub> <e> . <x> <type> <a> .", owlTable(), 15},
		{"<a> <p> <a> . <a> <p> <b> . <b> <p> \"t\" . <b> <q> _:c .", []string{"?x <p> ?y . ?y <p> ?z . ?z <q> ?w . => ?w <q> ?x .", "?x <q> ?y . => ?x <p> ?y ."}, 19},
		{"<a> <p> <b> . <b> <p> <c> . <c> <p> <a> . <z> <z> <z> .", []string{"?x <p> ?y . ?y <p> ?z . => ?x <p> ?z .", "?x ?p ?x . => ?x <loop> ?p ."}, 15},
	} {
		g, rules := readPatterns(c.g), readRules(c.list...)
		want, ok := impl.Closure(g, rules)
		if plain, fits := plainClosure(g, rules); !ok || !fits || !slices.Equal(want, plain) || len(want) != c.want {
			t.Fatal(len(want), want)
		}
		net := plainNet(rules, want)
		for _, l := range orders(g) {
			got, ok := runByParts(t, mustNew(t, rules), l)
			wantNet(t, "in another order", got, ok, net)
			got, ok = runAll(mustNew(t, rules), slices.Collect(slices.Chunk(l, 1)))
			wantNet(t, "one by one", got, ok, net)
			for i := range len(l) + 1 {
				got, ok := runAll(mustNew(t, rules), [][]triple{inOrder(l[:i]), inOrder(l[i:])})
				wantNet(t, "in two runs", got, ok, net)
			}
		}
	}
}

// What comes is told in the order in which it comes, whatever order that is, and may come twice.
func TestWhatComesNeedNotBeInOrder(t *testing.T) {
	back := readRules("?x <c> ?y . => ?x <b> ?y .", "?x <b> ?y . => ?x <a> ?y .", "?x <a> ?y . => ?x <d> ?y .")
	for _, c := range []struct {
		what, l, want string
		rules         []rule
	}{
		{"what comes is ahead of what is told", "<z> <c> <y> .", "<z> <a> <y> . <z> <b> <y> . <z> <c> <y> . <z> <d> <y> .", back},
		{"what comes is between two that are told", "<z> <a> <y> . <z> <c> <y> .", "<z> <a> <y> . <z> <b> <y> . <z> <c> <y> . <z> <d> <y> .", back},
		{"what comes first is behind what comes then", "<a> <p> <z> . <b> <p> <a> .", "<a> <p> <z> . <a> <q> <b> . <b> <p> <a> . <z> <q> <a> .", readRules("?x <p> ?y . => ?y <q> ?x .")},
		{"one comes twice", "<a> <p> <b> . <a> <p> <c> .", "<a> <p> <b> . <a> <p> <c> . <z> <q> <z> .", readRules("?x <p> ?y . => <z> <q> <z> .")},
		{"one that is told comes, too", "<a> <p> <b> . <b> <p> <a> .", "<a> <p> <b> . <b> <p> <a> .", readRules("?x <p> ?y . => ?y <p> ?x .")},
	} {
		got, ok := impl.ReteRun(mustNew(t, c.rules), readPatterns(c.l))
		wantNet(t, c.what, got, ok, plainNet(c.rules, readPatterns(c.want)))
	}
}

// A net that is told all it made, in whatever order, comes to the same.
func TestANetIsToldWhatCameOfIt(t *testing.T) {
	dice := rand.New(rand.NewSource(41))
	rules := readRules("?x <p> ?y . ?y <p> ?z . => ?x <p> ?z .", "?x <p> ?y . => ?y <q> ?x .", "?x <q> ?y . ?x <p> ?z . => ?z <r> ?y .")
	g := readPatterns("<a> <p> <b> . <b> <p> <c> . <c> <p> <d> . <d> <p> \"t\" .")
	want, ok := impl.Closure(g, rules)
	if !ok || len(want) < 19 {
		t.Fatal(want)
	}
	for range 100 {
		n, waiting := mustNew(t, rules), slices.Clone(g)
		for len(waiting) > 0 {
			i := dice.Intn(len(waiting))
			more, heads, ok := impl.ReteAdd(n, waiting[i])
			if !ok {
				t.Fatal(waiting[i])
			}
			n, waiting = more, append(slices.Delete(waiting, i, i+1), heads...)
		}
		wantNet(t, "told by and by", n, true, plainNet(rules, want))
	}
}

func TestRunsOfManyNets(t *testing.T) {
	dice := rand.New(rand.NewSource(43))
	whole, grown, refused := 0, 0, 0
	for range 400 {
		rules := rulesBy(dice, dice.Intn(6))
		g := graphBy(dice, knot())
		want, fits := impl.Closure(g, rules)
		l := append(slices.Clone(g), chosen(g, dice.Intn(1<<len(g)))...)
		dice.Shuffle(len(l), func(i, j int) { l[i], l[j] = l[j], l[i] })
		got, ok := impl.ReteRun(mustNew(t, rules), g)
		again, ok2 := runByParts(t, mustNew(t, rules), l)
		if ok != fits || ok2 != fits {
			t.Fatalf("ReteRun(%v, %v) = %v, of %v %v, Closure %v", rules, g, ok, l, ok2, fits)
		}
		if !ok {
			wantNoNet(t, "a run without room", got, ok)
			wantNoNet(t, "runs without room", again, ok2)
			refused++
			continue
		}
		wantNet(t, "a run", got, ok, plainNet(rules, want))
		wantNet(t, "runs", again, ok2, plainNet(rules, want))
		if t.Failed() {
			t.Fatalf("ReteRun(%v, %v), and of %v", rules, g, l)
		}
		whole++
		if len(want) > len(g)+2 {
			grown++
		}
	}
	if whole < 200 || grown < 50 || refused < 10 {
		t.Errorf("%d runs, %d grown, %d refused", whole, grown, refused)
	}
}

// What came of triples that were added ahead of a run, and was not told, is no part of it.
func TestRunsOfNetsThatAreNotClosed(t *testing.T) {
	rules := readRules("?x <p> ?y . => ?y <q> ?x .")
	n := plainNet(rules, readPatterns("<a> <p> <b> ."))
	for _, c := range []struct{ l, want string }{
		{"", "<a> <p> <b> ."},
		{"<a> <p> <b> .", "<a> <p> <b> ."},
		{"<c> <p> <d> .", "<a> <p> <b> . <c> <p> <d> . <d> <q> <c> ."},
		{"<b> <q> <a> .", "<a> <p> <b> . <b> <q> <a> ."},
	} {
		got, ok := impl.ReteRun(n, readPatterns(c.l))
		wantNet(t, c.l, got, ok, plainNet(rules, readPatterns(c.want)))
	}
	dice := rand.New(rand.NewSource(47))
	runs, refused := 0, 0
	for range 200 {
		rules := rulesBy(dice, 1+dice.Intn(4))
		n := plainNet(rules, chosen(knot(), dice.Intn(1<<11)&dice.Intn(1<<11)))
		l := chosen(knot(), dice.Intn(1<<11)&dice.Intn(1<<11))
		if dice.Intn(4) == 0 {
			dice.Shuffle(len(l), func(i, j int) { l[i], l[j] = l[j], l[i] })
		}
		want, fits := plainRun(n, l)
		got, ok := impl.ReteRun(n, l)
		if !fits || !plainRoom(n.Facts, rules) {
			wantNoNet(t, "no room, or not in order", got, ok)
			refused++
		} else {
			wantNet(t, "a run", got, ok, plainNet(rules, want))
			runs++
		}
		if t.Failed() {
			t.Fatalf("ReteRun(%v, %v)", n, l)
		}
	}
	if runs < 100 || refused < 30 {
		t.Errorf("%d runs, %d refused", runs, refused)
	}
}

func TestRunsAtTheEdges(t *testing.T) {
	rules := readRules("?x <p> ?y . => ?y <q> ?x .")
	one := readPatterns("<a> <p> <b> .")
	both := plainNet(rules, readPatterns("<a> <p> <b> . <b> <q> <a> ."))
	for _, l := range [][]triple{one, both.Facts} {
		got, ok := impl.ReteRun(mustNew(t, rules), l)
		wantNet(t, "one triple", got, ok, both)
	}
	for _, n := range []rete{{}, both, someNet(), plainNet(rules, manyTriples(80))} {
		got, ok := impl.ReteRun(n, nil)
		wantNet(t, "an empty list", got, ok, n)
		got, ok = impl.ReteRun(n, n.Facts)
		wantNet(t, "what is there", got, ok, n)
	}
	for _, x := range wrongTriples() {
		for _, l := range [][]triple{{x}, {one[0], x}, {x, one[0]}, {one[0], one[0], x, one[0]}, append(manyTriples(80), x), {both.Facts[0], both.Facts[1], x}, inOrder(append(manyTriples(79), x))} {
			for _, n := range []rete{{}, mustNew(t, rules), both} {
				got, ok := impl.ReteRun(n, l)
				wantNoNet(t, textOf(x), got, ok)
			}
		}
	}
}

// A list that is not right is refused also where each of its triples could be added, or is there.
func TestRunsOfListsThatAreNotRight(t *testing.T) {
	rules := readRules("?x <p> ?y . => ?y <q> ?x .")
	lists := wrongGraphs()
	for _, s := range []string{
		"<fa> <sub> <c> . <a> <type> _:b . <c> <sub> <q> .",
		"<c> <sub> <q> . <a> <type> _:b .",
		"<a> <type> _:b . <a> <type> _:b .",
		"<a> <p> <b> . <a> <p> <a> .",
		"<a> <q> <a> . <a> <p> <b> .",
		"_:a <p> <a> . <a> <p> <b> .",
		"<a> <p> <b> . <b> <q> <a> . <a> <p> <b> .",
		"<a> <p> <b> . <b> <q> <a> . <b> <q> <a> .",
		"<b> <q> <a> . <a> <p> <b> . <b> <q> <a> .",
	} {
		lists[s] = readPatterns(s)
	}
	turned := manyTriples(80)
	turned[78], turned[79] = turned[79], turned[78]
	lists["the last two changed"] = turned
	lists["80, and the last again"] = append(manyTriples(80), manyTriples(80)[79])
	lists["one 500 times"] = slices.Repeat(manyTriples(1), 500)
	for why, l := range lists {
		facts := []triple{}
		for _, x := range l {
			if impl.TripleOk(x) {
				facts = append(facts, x)
			}
		}
		facts = inOrder(facts)
		for _, n := range []rete{{}, mustNew(t, rules), someNet(), plainNet(nil, facts[:min(len(facts), 80)]), plainNet(rules, facts[:len(facts)/2])} {
			if !impl.ReteOk(n) || plainListOk(l) {
				t.Fatal(why)
			}
			got, ok := impl.ReteRun(n, l)
			wantNoNet(t, why, got, ok)
		}
	}
}

func TestRunsOfEightyTriples(t *testing.T) {
	both := readRules("?x <p> ?y . => ?y <r> ?x .")
	chain := readRules("?x <p> ?y . => ?x <r> ?y .", "?x <r> ?y . => ?x <s> ?y .", "?x <s> ?y . => ?x <t> ?y .")
	for _, c := range []struct {
		what  string
		l     []triple
		rules []rule
		want  int
	}{
		{"80", manyTriples(80), nil, 80},
		{"80, and some again", append(manyTriples(80), manyTriples(40)...), nil, 80},
		{"81", manyTriples(81), nil, -1},
		{"just 80 with what comes", twoKinds(40, 0), both, 80},
		{"just 80 with what comes and is told", twoKinds(39, 2), both, 80},
		{"81 with what comes", twoKinds(40, 1), both, -1},
		{"82 with what comes", twoKinds(41, 0), both, -1},
		{"just 80 at the end of a chain", twoKinds(20, 0), chain, 80},
		{"81 at the end of a chain", twoKinds(20, 1), chain, -1},
		{"301 rows of what comes", twoKinds(43, 0), readRules("?x <p> <aa> . => <a> <q> <b> .", "?x <q> ?y . ?v <p> ?w . ?z <p> ?c . => <a> <q> <b> ."), -1},
	} {
		turned := slices.Clone(c.l)
		slices.Reverse(turned)
		want, _ := impl.Closure(inOrder(c.l), c.rules)
		for _, l := range [][]triple{c.l, turned} {
			got, ok := runByParts(t, mustNew(t, c.rules), l)
			if c.want < 0 {
				wantNoNet(t, c.what, got, ok)
			} else if wantNet(t, c.what, got, ok, plainNet(c.rules, want)); len(got.Facts) != c.want {
				t.Errorf("%s: %d triples", c.what, len(got.Facts))
			}
		}
	}
}

// What comes has no room in a full net: not in the run that told of it, either.
func TestAFullNetHasNoRoomForWhatComes(t *testing.T) {
	rules := readRules("<a> <p> ?x . => <z> <r> <z> .")
	n := plainNet(rules, twoKinds(0, 79))
	got, heads, ok := impl.ReteAdd(n, triple{S: "<a>", P: "<p>", O: "<b>"})
	if !ok || len(got.Facts) != 80 || len(heads) != 1 {
		t.Error(heads, ok)
	}
	run, ok := impl.ReteRun(n, []triple{{S: "<a>", P: "<p>", O: "<b>"}})
	wantNoNet(t, "79, one, and what comes of it", run, ok)
	run, ok = impl.ReteRun(n, heads)
	wantNet(t, "79 and one of which nothing comes", run, ok, plainNet(rules, append(twoKinds(0, 79), heads...)))
}
