package tests

import (
	"math/rand"
	"slices"
	"testing"

	"loop.example/g00420/impl"
)

func TestStepFromAFewFreshTriples(t *testing.T) {
	const chain, two = "?x <p> ?y . ?y <p> ?z . => ?x <q> ?z .", "?x <p> ?y . ?x <r> ?z . => ?y <s> ?z ."
	for _, c := range []struct{ what, g, fresh, want string }{
		{"nothing at all", "", "", ""},
		{"none is fresh", "<a> <p> <b> . <b> <p> <c> .", "", ""},
		{"none is there", "", "<a> <p> <b> . <b> <p> <c> .", ""},
		{"the first pattern", "<a> <p> <b> . <b> <p> <c> .", "<a> <p> <b> .", "<a> <q> <c> ."},
		{"the last pattern", "<a> <p> <b> . <b> <p> <c> .", "<b> <p> <c> .", "<a> <q> <c> ."},
		{"two in one row", "<a> <p> <b> . <b> <p> <c> .", "<a> <p> <b> . <b> <p> <c> .", "<a> <q> <c> ."},
		{"one that is not there is no part of a row", "<a> <p> <b> . <b> <p> <c> .", "<b> <p> <d> .", ""},
		{"one that is there beside one that is not", "<a> <p> <b> . <b> <p> <c> .", "<b> <p> <c> . <b> <p> <d> .", "<a> <q> <c> ."},
		{"two that are not there", "<a> <p> <b> .", "<b> <p> <a> . <b> <p> <d> .", ""},
		{"one triple fits both patterns", "<a> <p> <a> .", "<a> <p> <a> .", "<a> <q> <a> ."},
		{"one triple fits each of both", "<a> <p> <b> . <b> <p> <c> . <c> <p> <d> .", "<b> <p> <c> .", "<a> <q> <c> . <b> <q> <d> ."},
		{"one that is in no row", "<a> <p> <b> . <b> <p> <c> . <d> <p> <e> .", "<d> <p> <e> .", ""},
		{"what is made is there", "<a> <p> <b> . <a> <q> <c> . <b> <p> <c> .", "<b> <p> <c> .", ""},
		{"what is made is fresh, and not there", "<a> <p> <b> . <b> <p> <c> .", "<a> <p> <b> . <a> <q> <c> .", "<a> <q> <c> ."},
		{"of what is old nothing comes", "<a> <p> <b> . <b> <p> <c> . <x> <p> <y> . <x> <r> <z> .", "<x> <r> <z> .", "<y> <s> <z> ."},
		{"of two rules together, in order", "<a> <p> <b> . <a> <r> <c> . <z> <p> <a> .", "<a> <p> <b> .", "<b> <s> <c> . <z> <q> <b> ."},
		{"no right triple", "<a> <p> \"t\" . <a> <r> <c> .", "<a> <p> \"t\" .", ""},
		{"a text and a blank", "<a> <p> _:b . <a> <r> \"t\" .", "<a> <r> \"t\" .", "_:b <s> \"t\" ."},
	} {
		g, fresh := inOrder(readPatterns(c.g)), inOrder(readPatterns(c.fresh))
		for _, rules := range [][]rule{readRules(chain, two), readRules(two, chain, two)} {
			got, ok := impl.StepFrom(g, fresh, rules)
			wantTriples(t, c.what, got, ok, readPatterns(c.want))
		}
		got, ok := impl.StepFrom(g, fresh, nil)
		wantTriples(t, c.what+": no rules", got, ok, nil)
	}
}

// A rule without variables and one that asks twice for the same have rows, too.
func TestStepFromOfBodiesThatAreSpecial(t *testing.T) {
	g := readPatterns("<a> <p> <b> . <b> <p> <a> .")
	for _, c := range []struct{ rule, fresh, want string }{
		{"<a> <p> <b> . => <z> <z> <z> .", "<a> <p> <b> .", "<z> <z> <z> ."},
		{"<a> <p> <b> . => <z> <z> <z> .", "<b> <p> <a> .", ""},
		{"<a> <p> <b> . <b> <p> <a> . => <z> <z> <z> .", "<b> <p> <a> .", "<z> <z> <z> ."},
		{"?x <p> ?y . ?x <p> ?y . ?x <p> ?y . => ?x <q> ?y .", "<b> <p> <a> .", "<b> <q> <a> ."},
		{"?x <p> ?y . ?y <p> ?x . => ?x <q> ?x .", "<b> <p> <a> .", "<a> <q> <a> . <b> <q> <b> ."},
		{"?x ?p ?y . ?w <p> ?z . => ?x <q> ?z .", "<b> <p> <a> .", "<a> <q> <a> . <b> <q> <a> . <b> <q> <b> ."},
		{"?x <p> <b> . ?x ?p ?w . ?y ?p <a> . ?v ?p ?v . => ?x <q> ?y .", "<a> <p> <b> .", ""},
		{"?x <p> <b> . ?x ?p ?w . ?y ?p <a> . ?w ?p ?v . => ?x <q> ?y .", "<b> <p> <a> .", "<a> <q> <b> ."},
	} {
		got, ok := impl.StepFrom(g, readPatterns(c.fresh), readRules(c.rule))
		wantTriples(t, c.rule+" from "+c.fresh, got, ok, readPatterns(c.want))
	}
}

// strangersTo is triples that are in no part of the knot.
func strangersTo(dice *rand.Rand) []triple {
	return chosen(readPatterns("<a> <p> <p> . <b> <b> <b> . <p> <p> \"t\" . _:b <a> <b> ."), dice.Intn(16))
}

func TestWhatComesOfNewTriplesComesOfThemAlone(t *testing.T) {
	dice := rand.New(rand.NewSource(23))
	made, less := 0, 0
	for range 800 {
		g, rules := graphBy(dice, knot()), rulesBy(dice, dice.Intn(4))
		fresh := inOrder(append(strangersTo(dice), chosen(knot(), dice.Intn(1<<11)&dice.Intn(1<<11)&dice.Intn(1<<11))...))
		want, fits := plainStep(g, fresh, rules), plainRoom(g, rules)
		if !fits {
			want = nil
		}
		got, ok := impl.StepFrom(g, fresh, rules)
		if ok != fits || !slices.Equal(got, want) {
			t.Fatalf("StepFrom(%v, %v, %v) = %v, %v, want %v, %v", g, fresh, rules, got, ok, want, fits)
		}
		if len(got) > 0 {
			made++
		}
		all, ok := impl.StepFrom(g, g, rules)
		if ok != fits || !hasAll(all, got) {
			t.Fatalf("StepFrom(%v, all, %v) = %v, %v", g, rules, all, ok)
		}
		if len(got) > 0 && len(got) < len(all) {
			less++
		}
	}
	if made < 100 || less < 50 {
		t.Errorf("%d steps make something, %d less than all", made, less)
	}
}

// All that is fired behind new triples in a closed graph is a step from these, and a step from all is what each rule fires.
func TestAStepFromNewTriplesInAClosedGraph(t *testing.T) {
	dice := rand.New(rand.NewSource(29))
	steps := 0
	for range 600 {
		rules := rulesBy(dice, 1+dice.Intn(3))
		old, ok := impl.Closure(chosen(knot(), dice.Intn(1<<11)&dice.Intn(1<<11)), rules)
		if !ok {
			continue
		}
		fresh := slices.DeleteFunc(graphBy(dice, knot()), func(x triple) bool { return slices.Contains(old, x) })
		g := inOrder(append(slices.Clone(old), fresh...))
		var fired []triple
		fits := len(g) <= 80
		for _, r := range rules {
			made, ok := impl.Fired(g, r)
			fired, fits = append(fired, made...), fits && ok
		}
		for _, from := range [][]triple{fresh, g} {
			got, ok := impl.StepFrom(g, from, rules)
			if ok != fits || ok && !slices.Equal(got, inOrder(fired)) {
				t.Fatalf("StepFrom(%v, %v, %v) = %v, %v, want %v", g, from, rules, got, ok, inOrder(fired))
			}
		}
		if fits && len(fired) > 0 {
			steps++
		}
	}
	if steps < 50 {
		t.Errorf("only %d steps make something", steps)
	}
}

// What comes of some fresh triples and what comes of others is all that comes of both.
func TestAStepFromTwoIsBothStepsTogether(t *testing.T) {
	g, rules := knot(), readRules("?x <p> ?y . ?y ?p ?z . => ?z ?p ?x .", "?x ?p ?p . => ?p <q> ?x .", "?x <a> ?y . => ?y <a> ?y .")
	dice := rand.New(rand.NewSource(31))
	for range 300 {
		a, b := dice.Intn(1<<11), dice.Intn(1<<11)
		one, ok1 := impl.StepFrom(g, chosen(g, a), rules)
		two, ok2 := impl.StepFrom(g, chosen(g, b), rules)
		both, ok := impl.StepFrom(g, chosen(g, a|b), rules)
		if !ok1 || !ok2 {
			t.Fatal("a step is refused")
		}
		wantTriples(t, "both", both, ok, inOrder(slices.Concat(one, two)))
	}
}

func TestStepFromFreshTriplesThatAreNotRight(t *testing.T) {
	for why, fresh := range wrongGraphs() {
		for _, g := range [][]triple{nil, knot(), fresh} {
			for _, rules := range [][]rule{nil, numberedRules(2), {{}}} {
				got, ok := impl.StepFrom(g, fresh, rules)
				wantNoTriples(t, why, got, ok)
			}
		}
	}
	for n := 79; n <= 81; n++ {
		got, ok := impl.StepFrom(readPatterns("<a> <p> <b> ."), twoKinds(n, 0), readRules("?x <p> ?y . => ?y <p> ?x ."))
		if n <= 80 {
			wantTriples(t, "fresh ones that are not there", got, ok, nil)
		} else {
			wantNoTriples(t, "81 fresh ones", got, ok)
		}
	}
}
