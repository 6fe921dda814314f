package tests

import (
	"math/rand"
	"slices"
	"testing"

	"loop.example/g00420/impl"
)

func without(l, some []triple) []triple {
	return slices.DeleteFunc(slices.Clone(l), func(x triple) bool { return slices.Contains(some, x) })
}

// plainDoubted is the document's sentence about Doubted, round by round.
func plainDoubted(g, all []triple, rules []rule, x triple) []triple {
	open, doubted := without(all, g), []triple{x}
	for grown := true; grown; {
		grown = false
		for _, r := range rules {
			rows, _ := plainRows(all, r.Body)
			for _, row := range rows {
				touched := slices.ContainsFunc(r.Body, func(p triple) bool { return slices.Contains(doubted, plainFilled(plainRow(row), p)) })
				head := plainFilled(plainRow(row), r.Head)
				if touched && slices.Contains(open, head) && !slices.Contains(doubted, head) {
					doubted, grown = append(doubted, head), true
				}
			}
		}
	}
	return inOrder(doubted)
}

func wantRetracted(t *testing.T, what string, left, next []triple, ok bool, wantLeft, wantNext []triple) {
	t.Helper()
	if !ok || !slices.Equal(left, wantLeft) || !slices.Equal(next, wantNext) {
		t.Errorf("%s: %v, %v, %v, want %v and %v", what, left, next, ok, wantLeft, wantNext)
	}
}

// wantNotRetracted asks both functions of the chapter.
func wantNotRetracted(t *testing.T, what string, g, all []triple, rules []rule, x triple) {
	t.Helper()
	doubted, ok := impl.Doubted(g, all, rules, x)
	wantNoTriples(t, what+": Doubted", doubted, ok)
	left, next, ok := impl.Retracted(g, all, rules, x)
	wantNoTriples(t, what+": Retracted, what is given", left, ok)
	wantNoTriples(t, what+": Retracted, all", next, ok)
}

func TestRetractingFromAFewGraphs(t *testing.T) {
	makesR := []string{"?x <p> ?y . => ?x <r> ?y .", "?x <q> ?y . => ?x <r> ?y ."}
	ring := []string{"?x <p> ?y . => ?x <q> ?y .", "?x <q> ?y . => ?x <r> ?y .", "?x <r> ?y . => ?x <q> ?y ."}
	for _, c := range []struct {
		what, g, all string
		rules        []string
		x            string
		doubted      string
		next         string
	}{
		{"no rules", "<a> <p> <b> . <c> <p> <d> .", "<a> <p> <b> . <c> <p> <d> .", nil, "<a> <p> <b> .", "<a> <p> <b> .", "<c> <p> <d> ."},
		{"the one triple, no rules", "<a> <p> <b> .", "<a> <p> <b> .", nil, "<a> <p> <b> .", "<a> <p> <b> .", ""},
		{"nothing but the triple goes", "<a> <p> <b> . <c> <o> <d> .", "<a> <p> <b> . <a> <r> <b> . <c> <o> <d> .", makesR, "<c> <o> <d> .", "<c> <o> <d> .", "<a> <p> <b> . <a> <r> <b> ."},
		{"all goes", "<a> <p> <b> .", "<a> <p> <b> . <a> <q> <b> . <b> <p> <a> . <b> <q> <a> .", []string{"?x <p> ?y . => ?y <p> ?x .", "?x <p> ?y . => ?x <q> ?y ."}, "<a> <p> <b> .",
			"<a> <p> <b> . <a> <q> <b> . <b> <p> <a> . <b> <q> <a> .", ""},
		{"in the third step", "<a> <p> <b> . <c> <p> <d> .", "<a> <p> <b> . <a> <q> <b> . <a> <r> <b> . <a> <s> <b> . <c> <p> <d> . <c> <q> <d> . <c> <r> <d> . <c> <s> <d> .",
			[]string{"?x <r> ?y . => ?x <s> ?y .", "?x <q> ?y . => ?x <r> ?y .", "?x <p> ?y . => ?x <q> ?y ."}, "<c> <p> <d> .",
			"<c> <p> <d> . <c> <q> <d> . <c> <r> <d> . <c> <s> <d> .", "<a> <p> <b> . <a> <q> <b> . <a> <r> <b> . <a> <s> <b> ."},
		{"two rules make it, one of which does not doubt it", "<a> <p> <b> . <a> <q> <b> .", "<a> <p> <b> . <a> <q> <b> . <a> <r> <b> .", makesR, "<a> <p> <b> .",
			"<a> <p> <b> . <a> <r> <b> .", "<a> <q> <b> . <a> <r> <b> ."},
		{"the same, the other one", "<a> <p> <b> . <a> <q> <b> .", "<a> <p> <b> . <a> <q> <b> . <a> <r> <b> .", makesR, "<a> <q> <b> .",
			"<a> <q> <b> . <a> <r> <b> .", "<a> <p> <b> . <a> <r> <b> ."},
		{"what is made of it comes again, too", "<a> <p> <b> . <a> <q> <b> .", "<a> <p> <b> . <a> <q> <b> . <a> <r> <b> . <a> <s> <b> .", append(makesR, "?x <r> ?y . => ?x <s> ?y ."), "<a> <p> <b> .",
			"<a> <p> <b> . <a> <r> <b> . <a> <s> <b> .", "<a> <q> <b> . <a> <r> <b> . <a> <s> <b> ."},
		{"two rows of one rule make it", "<a> <p> <b> . <a> <p> <c> .", "<a> <p> <b> . <a> <p> <c> . <a> <r> <a> .", []string{"?x <p> ?y . => ?x <r> ?x ."}, "<a> <p> <b> .",
			"<a> <p> <b> . <a> <r> <a> .", "<a> <p> <c> . <a> <r> <a> ."},
		{"given, and made too", "<a> <p> <b> . <a> <r> <b> .", "<a> <p> <b> . <a> <r> <b> .", makesR, "<a> <r> <b> .", "<a> <r> <b> .", "<a> <p> <b> . <a> <r> <b> ."},
		{"given, and made too, and something is made of it", "<a> <p> <b> . <a> <r> <b> .", "<a> <p> <b> . <a> <r> <b> . <a> <s> <b> .", append(makesR, "?x <r> ?y . => ?x <s> ?y ."), "<a> <r> <b> .",
			"<a> <r> <b> . <a> <s> <b> .", "<a> <p> <b> . <a> <r> <b> . <a> <s> <b> ."},
		{"what is given is not doubted, nor what is made of it", "<a> <p> <b> . <a> <r> <b> .", "<a> <p> <b> . <a> <r> <b> . <a> <s> <b> .", append(makesR, "?x <r> ?y . => ?x <s> ?y ."), "<a> <p> <b> .",
			"<a> <p> <b> .", "<a> <r> <b> . <a> <s> <b> ."},
		{"two make one another, and none is given", "<a> <p> <b> .", "<a> <p> <b> . <a> <q> <b> . <a> <r> <b> .", ring, "<a> <p> <b> .", "<a> <p> <b> . <a> <q> <b> . <a> <r> <b> .", ""},
		{"two make one another, and one is given", "<a> <p> <b> . <a> <r> <b> .", "<a> <p> <b> . <a> <q> <b> . <a> <r> <b> .", ring, "<a> <p> <b> .", "<a> <p> <b> . <a> <q> <b> .", "<a> <q> <b> . <a> <r> <b> ."},
		{"given in a ring, and given no more", "<a> <r> <b> .", "<a> <q> <b> . <a> <r> <b> .", ring, "<a> <r> <b> .", "<a> <q> <b> . <a> <r> <b> .", ""},
		{"one makes itself", "<a> <p> <b> .", "<a> <p> <b> .", []string{"?x <p> ?y . => ?x <p> ?y ."}, "<a> <p> <b> .", "<a> <p> <b> .", ""},
		{"the second pattern alone", "<a> <p> <b> . <b> <q> <c> .", "<a> <p> <b> . <a> <r> <c> . <b> <q> <c> .", []string{"?x <p> ?y . ?y <q> ?z . => ?x <r> ?z ."}, "<b> <q> <c> .",
			"<a> <r> <c> . <b> <q> <c> .", "<a> <p> <b> ."},
		{"the last of four patterns", "<a> <p> <b> . <b> <q> <c> .", "<a> <p> <b> . <a> <r> <c> . <b> <q> <c> .", []string{"?x <p> ?y . <a> <p> ?v . ?x ?w ?v . ?y <q> ?z . => ?x <r> ?z ."}, "<b> <q> <c> .",
			"<a> <r> <c> . <b> <q> <c> .", "<a> <p> <b> ."},
		{"two of the patterns", "<a> <p> <a> . <b> <p> <a> .", "<a> <p> <a> . <a> <r> <a> . <a> <r> <b> . <b> <p> <a> .", []string{"?x <p> ?y . ?y <p> ?z . => ?z <r> ?x ."}, "<a> <p> <a> .",
			"<a> <p> <a> . <a> <r> <a> . <a> <r> <b> .", "<b> <p> <a> ."},
		{"the second pattern, in the second step", "<a> <p> <b> . <b> <q> <c> .", "<a> <o> <b> . <a> <p> <b> . <b> <q> <c> . <c> <s> <a> .", []string{"?y <q> ?z . ?x <o> ?y . => ?z <s> ?x .", "?x <p> ?y . => ?x <o> ?y ."}, "<a> <p> <b> .",
			"<a> <o> <b> . <a> <p> <b> . <c> <s> <a> .", "<b> <q> <c> ."},
		{"two that are doubted in unlike steps", "<a> <p> <b> .", "<a> <p> <b> . <a> <q> <b> . <b> <r> <a> .", []string{"?x <p> ?y . => ?x <q> ?y .", "?x <p> ?y . ?x <q> ?y . => ?y <r> ?x ."}, "<a> <p> <b> .",
			"<a> <p> <b> . <a> <q> <b> . <b> <r> <a> .", ""},
		{"no variables", "<a> <p> <b> . <b> <p> \"t\" .", "<a> <p> <b> . <b> <p> \"t\" . _:z <z> \"z\" .", []string{"<b> <p> \"t\" . <a> <p> <b> . => _:z <z> \"z\" ."}, "<a> <p> <b> .",
			"<a> <p> <b> . _:z <z> \"z\" .", "<b> <p> \"t\" ."},
		{"a head that is no triple", "<a> <p> \"t\" . <a> <p> <b> .", "<a> <p> \"t\" . <a> <p> <b> . <b> <q> <a> .", []string{"?x <p> ?y . => ?y <q> ?x ."}, "<a> <p> \"t\" .", "<a> <p> \"t\" .", "<a> <p> <b> . <b> <q> <a> ."},
		{"more is there than is given and made", "<a> <p> <b> .", "<a> <p> <b> . <a> <r> <b> . <c> <q> <d> . <c> <r> <d> .", makesR, "<a> <p> <b> .", "<a> <p> <b> . <a> <r> <b> .", "<c> <q> <d> . <c> <r> <d> ."},
		{"and it makes what is doubted", "<a> <p> <b> .", "<a> <p> <b> . <a> <q> <b> . <a> <r> <b> .", makesR, "<a> <p> <b> .", "<a> <p> <b> . <a> <r> <b> .", "<a> <q> <b> . <a> <r> <b> ."},
		{"and it is doubted itself", "<a> <p> <b> .", "<a> <p> <b> . <a> <q> <b> .", []string{"?x <p> ?y . => ?x <q> ?y ."}, "<a> <p> <b> .", "<a> <p> <b> . <a> <q> <b> .", ""},
	} {
		g, all, rules, x := inOrder(readPatterns(c.g)), inOrder(readPatterns(c.all)), readRules(c.rules...), readPatterns(c.x)[0]
		doubted, ok := impl.Doubted(g, all, rules, x)
		wantTriples(t, c.what, doubted, ok, inOrder(readPatterns(c.doubted)))
		wantTriples(t, c.what+", told plainly", plainDoubted(g, all, rules, x), true, doubted)
		left, next, ok := impl.Retracted(g, all, rules, x)
		wantRetracted(t, c.what, left, next, ok, without(g, []triple{x}), inOrder(readPatterns(c.next)))
	}
}

func TestWhatIsLeftIsTheClosureOfWhatIsStillGiven(t *testing.T) {
	dice := rand.New(rand.NewSource(61))
	retracted, again, gone := 0, 0, 0
	for range 300 {
		g, rules := chosen(knot(), dice.Intn(1<<11)|1<<dice.Intn(11)), rulesBy(dice, dice.Intn(6))
		all, fits := plainClosure(g, rules)
		if !fits {
			for _, x := range g {
				wantNotRetracted(t, "no closure", g, g, rules, x)
			}
			continue
		}
		for _, x := range g {
			less := without(g, []triple{x})
			want, _ := plainClosure(less, rules)
			doubted, ok := impl.Doubted(g, all, rules, x)
			wantTriples(t, "Doubted", doubted, ok, plainDoubted(g, all, rules, x))
			left, next, ok := impl.Retracted(g, all, rules, x)
			wantRetracted(t, "Retracted", left, next, ok, less, want)
			if t.Failed() {
				t.Fatalf("of %v, %v, %v, %v", g, all, rules, x)
			}
			retracted++
			if len(without(doubted, next)) < len(doubted) {
				again++
			}
			if len(all)-len(next) > 1 {
				gone++
			}
		}
	}
	if retracted < 800 || again < 100 || gone < 100 {
		t.Errorf("%d retracted; of %d something comes again, of %d something else is gone", retracted, again, gone)
	}
}

// All may have more than comes of what is given: that stays as far as it is not doubted.
func TestRetractingFromAGraphThatHasMoreThanComesOfWhatIsGiven(t *testing.T) {
	dice := rand.New(rand.NewSource(67))
	more := 0
	for range 400 {
		mask := dice.Intn(1<<11) | 1<<dice.Intn(11)
		g, rules := chosen(knot(), mask&dice.Intn(1<<11)|mask&-mask), rulesBy(dice, 1+dice.Intn(4))
		all, fits := plainClosure(chosen(knot(), mask), rules)
		if !fits {
			continue
		}
		x := g[dice.Intn(len(g))]
		doubted, ok := impl.Doubted(g, all, rules, x)
		wantTriples(t, "Doubted", doubted, ok, plainDoubted(g, all, rules, x))
		want, _ := plainClosure(without(all, doubted), rules)
		left, next, ok := impl.Retracted(g, all, rules, x)
		wantRetracted(t, "Retracted", left, next, ok, without(g, []triple{x}), want)
		if t.Failed() {
			t.Fatalf("of %v, %v, %v, %v", g, all, rules, x)
		}
		if len(next) > 0 && len(next)+len(doubted) > len(g)+1 && len(doubted) > 1 {
			more++
		}
	}
	if more < 50 {
		t.Errorf("only %d have more", more)
	}
}

func TestRetractingOneByOneUntilNothingIsLeft(t *testing.T) {
	g := readPatterns("<c> <sub> <e> . <p> <dom> <c> . <p> <inv> <q> . <q> <dom> <d> . <x> <p> <y> . <x> <same> <z> . <x> <type> <d> .")
	rules := impl.OwlRules()
	for turn := range g {
		left := slices.Clone(g)
		all, ok := plainClosure(left, rules)
		if !ok || len(all) < 20 {
			t.Fatal(all)
		}
		for len(left) > 0 {
			x := left[turn%len(left)]
			less, next, ok := impl.Retracted(left, all, rules, x)
			want, _ := plainClosure(without(left, []triple{x}), rules)
			wantRetracted(t, "without "+textOf(x), less, next, ok, without(left, []triple{x}), want)
			left, all = less, next
			if t.Failed() {
				return
			}
		}
		wantTriples(t, "without all", all, true, nil)
	}
}

func TestRetractingWhatIsNotGiven(t *testing.T) {
	g, rules := readPatterns("<a> <p> <b> . <b> <p> <c> . <c> <q> \"t\" ."), readRules("?x <p> ?y . ?y <p> ?z . => ?x <p> ?z .", "?x <q> ?y . => ?y <q> ?x .")
	all := readPatterns("<a> <p> <b> . <a> <p> <c> . <b> <p> <c> . <c> <q> \"t\" .")
	for _, x := range slices.Concat(wrongTriples(), manyTriples(9), []triple{all[1], rules[0].Head, {S: "\"t\"", P: "<q>", O: "<c>"}}) {
		wantNotRetracted(t, "not given: "+textOf(x), g, all, rules, x)
		wantNotRetracted(t, "nothing is given", nil, all, rules, x)
		wantNotRetracted(t, "nothing is there", nil, nil, nil, x)
	}
	for i, x := range g {
		wantNotRetracted(t, "nothing is given", nil, all, rules, x)
		wantNotRetracted(t, "just this is not given", slices.Delete(slices.Clone(g), i, i+1), all, rules, x)
		if _, ok := impl.Doubted(g, all, rules, x); !ok {
			t.Error("given: " + textOf(x))
		}
	}
}

func TestRetractingFromGraphsThatAreNotRight(t *testing.T) {
	right := smallWorld()
	for why, wrong := range wrongGraphs() {
		for _, rules := range [][]rule{nil, readRules("?x <none> ?y . => ?y <none> ?x .")} {
			for _, x := range []triple{wrong[0], wrong[len(wrong)-1], right[0]} {
				wantNotRetracted(t, "given and all: "+why, wrong, wrong, rules, x)
				wantNotRetracted(t, "given: "+why, wrong, right, rules, x)
				wantNotRetracted(t, "all: "+why, right, wrong, rules, x)
				wantNotRetracted(t, "all: "+why, []triple{x}, wrong, rules, x)
			}
		}
	}
	for n := 79; n <= 81; n++ {
		all := manyTriples(n)
		doubted, ok := impl.Doubted(all, all, nil, all[n-1])
		left, next, ok2 := impl.Retracted(all[:3], all, nil, all[1])
		if n <= 80 {
			wantTriples(t, "80 triples", doubted, ok, all[n-1:])
			wantRetracted(t, "80 triples", left, next, ok2, []triple{all[0], all[2]}, without(all, all[1:2]))
		} else {
			wantNotRetracted(t, "81 triples", all, all, nil, all[n-1])
			wantNotRetracted(t, "81 triples in all", all[:3], all, nil, all[1])
		}
	}
}

func TestRetractingFromWhatIsNotClosed(t *testing.T) {
	g, rules := readPatterns("<a> <p> <b> . <b> <p> <c> . <c> <p> <d> . <x> <o> <y> ."), readRules("?x <p> ?y . ?y <p> ?z . => ?x <q> ?z .", "?x <q> ?y . => ?y <r> ?x .")
	all, ok := plainClosure(g, rules)
	if !ok || len(all) != 8 {
		t.Fatal(all)
	}
	for _, x := range g {
		wantNotRetracted(t, "nothing is made yet", g, g, rules, x)
		wantNotRetracted(t, "a rule that makes something else", g, all, append(slices.Clone(rules), readRules("?x <r> ?y . => ?x <s> ?y .")...), x)
		wantNotRetracted(t, "something of the triple alone", g, all, append(readRules(textOf(x)+" => <new> <new> <new> ."), rules...), x)
		for i := range all {
			// Without a triple that was made it is not closed, and without one that is given it has not all that is.
			wantNotRetracted(t, "without "+textOf(all[i]), g, slices.Delete(slices.Clone(all), i, i+1), rules, x)
		}
	}
	for i, x := range g {
		less := slices.Delete(slices.Clone(g), i, i+1)
		closed, _ := plainClosure(less, rules)
		for _, y := range g {
			wantNotRetracted(t, "closed, without "+textOf(x), g, closed, rules, y)
			wantNotRetracted(t, "no rules, without "+textOf(x), g, less, nil, y)
		}
		wantNotRetracted(t, "nothing is there", g, nil, nil, x)
		wantNotRetracted(t, "nothing is there", []triple{x}, nil, rules, x)
	}
}

func TestRetractingByRulesThatAreNotRight(t *testing.T) {
	g := readPatterns("<a> <p> <b> . <c> <o> <d> .")
	for n := range 34 {
		rules := numberedRules(n)
		all := inOrder(append(slices.Clone(g), twoKinds(0, n)...))
		if n > 30 {
			wantNotRetracted(t, "too many rules", g, all, rules, g[0])
			wantNotRetracted(t, "one rule too many times", g, g, slices.Repeat(readRules("?x <none> ?y . => ?y <none> ?x ."), n), g[1])
			continue
		}
		doubted, ok := impl.Doubted(g, all, rules, g[0])
		wantTriples(t, "many rules", doubted, ok, all[:len(all)-1])
		left, next, ok := impl.Retracted(g, all, rules, g[0])
		wantRetracted(t, "many rules", left, next, ok, g[1:], g[1:])
	}
	for why, r := range wrongRules() {
		for i := range 3 {
			rules := slices.Insert(readRules("?x <none> ?y . => ?y <none> ?x .", "?x <p> ?y . => ?x <p> ?y ."), i, r)
			wantNotRetracted(t, why, g, g, rules, g[1])
		}
		wantNotRetracted(t, why+", alone", g, g, []rule{r}, g[0])
	}
}

// A graph in which a body has more rows than are told is not closed, whatever the rule would make.
func TestRetractingWhereABodyHasTooManyRows(t *testing.T) {
	rules := readRules("<a> <p> ?x . <a> <q> ?y . => <a> <p> <aa> .")
	for _, c := range []struct {
		m, n int
		fits bool
	}{{15, 20, true}, {20, 15, true}, {7, 43, false}, {43, 7, false}, {17, 18, false}} {
		all := twoKinds(c.m, c.n)
		for _, g := range [][]triple{all, all[1:3], all[:1]} {
			x := g[0]
			if !c.fits {
				wantNotRetracted(t, "301 rows", g, all, rules, x)
				continue
			}
			left, next, ok := impl.Retracted(g, all, rules, x)
			want, _ := plainClosure(without(all, []triple{x}), rules)
			wantRetracted(t, "300 rows", left, next, ok, g[1:], want)
			doubted, ok := impl.Doubted(g, all, rules, x)
			wantTriples(t, "300 rows", doubted, ok, plainDoubted(g, all, rules, x))
		}
	}
	// The head is made by 300 rows, and comes again as long as there is one.
	all := twoKinds(15, 20)
	doubted, ok := impl.Doubted(all[1:], all, rules, all[20])
	wantTriples(t, "one of 300 rows is enough", doubted, ok, []triple{all[0], all[20]})
	left, next, ok := impl.Retracted(all[1:], all, rules, all[20])
	wantRetracted(t, "one of 300 rows is enough", left, next, ok, without(all[1:], all[20:21]), without(all, all[20:21]))
}

// A ladder of 80 triples goes, rung by rung, when the first thing that is known goes.
func TestRetractingInManySteps(t *testing.T) {
	g, rules := aLadder(39)
	all, ok := plainClosure(g, rules)
	if !ok || len(all) != 80 {
		t.Fatal(all)
	}
	first := triple{S: "<aa>", P: "<is>", O: "<good>"}
	doubted, ok := impl.Doubted(g, all, rules, first)
	wantTriples(t, "the first", doubted, ok, without(all, without(g, []triple{first})))
	left, next, ok := impl.Retracted(g, all, rules, first)
	wantRetracted(t, "the first", left, next, ok, without(g, []triple{first}), without(g, []triple{first}))
	for i, x := range g[1:] {
		doubted, ok := impl.Doubted(g, all, rules, x)
		wantTriples(t, textOf(x), doubted, ok, plainDoubted(g, all, rules, x))
		if i == 20 && len(doubted) < 10 {
			t.Error(doubted)
		}
		left, next, ok := impl.Retracted(g, all, rules, x)
		wantRetracted(t, textOf(x), left, next, ok, without(g, []triple{x}), without(all, doubted))
	}
}
