package tests

import (
	"math/rand"
	"slices"
	"testing"

	"loop.example/g00420/impl"
)

func TestReasonsOfAFewTriples(t *testing.T) {
	chain := []string{"?x <p> ?y . ?y <p> ?z . => ?x <p> ?z ."}
	for _, c := range []struct {
		what, g string
		rules   []string
		x, want string
	}{
		{"given", "<a> <p> <b> . <b> <p> <c> .", chain, "<b> <p> <c> .", "<b> <p> <c> ."},
		{"given, and no rules", "<a> <p> <b> . <b> <p> \"t\" .", nil, "<b> <p> \"t\" .", "<b> <p> \"t\" ."},
		{"given, and made too", "<a> <p> <b> . <a> <p> <c> . <b> <p> <c> .", chain, "<a> <p> <c> .", "<a> <p> <c> ."},
		{"made", "<a> <p> <b> . <b> <p> <c> . <x> <p> <y> .", chain, "<a> <p> <c> .", "<a> <p> <b> . <b> <p> <c> ."},
		{"made in two rounds", "<a> <p> <b> . <b> <p> <c> . <c> <p> <d> . <x> <p> <y> .", chain, "<a> <p> <d> .", "<a> <p> <b> . <b> <p> <c> . <c> <p> <d> ."},
		{"made by patterns in another order", "<b> <p> <c> . <c> <p> <a> .", chain, "<b> <p> <a> .", "<b> <p> <c> . <c> <p> <a> ."},
		{"made of one triple twice", "<a> <p> <a> . <b> <p> <b> .", []string{"?x <p> ?y . ?y <p> ?x . => ?x <q> ?x ."}, "<b> <q> <b> .", "<b> <p> <b> ."},
		{"two reasons, by two rules", "<a> <p> <b> . <a> <q> <b> .", []string{"?x <q> ?y . => ?x <r> ?y .", "?x <p> ?y . => ?x <r> ?y ."}, "<a> <r> <b> .", "<a> <q> <b> ."},
		{"two reasons, the rules the other way", "<a> <p> <b> . <a> <q> <b> .", []string{"?x <p> ?y . => ?x <r> ?y .", "?x <q> ?y . => ?x <r> ?y ."}, "<a> <r> <b> .", "<a> <p> <b> ."},
		{"two reasons, by two rows", "<a> <p> <d> . <b> <p> <c> .", []string{"?y <p> ?x . => <z> <z> <z> ."}, "<z> <z> <z> .", "<b> <p> <c> ."},
		{"two reasons, in unlike rounds", "<a> <o> <c> . <a> <p> <b> .", []string{"?x <q> ?y . => <z> <z> <z> .", "?x <o> ?y . => <z> <z> <z> .", "?x <p> ?y . => ?x <q> ?y ."}, "<z> <z> <z> .", "<a> <o> <c> ."},
		{"a blank and a text", "_:a <p> \"t\" . _:a <q> _:b .", []string{"?x <p> ?t . ?x <q> ?y . => ?y <r> ?t ."}, "_:b <r> \"t\" .", "_:a <p> \"t\" . _:a <q> _:b ."},
	} {
		got, ok := impl.Why(plainBase(readRules(c.rules...), readPatterns(c.g)), readPatterns(c.x)[0])
		wantTriples(t, c.what, got, ok, readPatterns(c.want))
	}
}

func TestNoReasonOfWhatIsNotThere(t *testing.T) {
	b := someBase()
	for _, x := range slices.Concat(wrongTriples(), manyTriples(5), readPatterns("<c> <p> <a> . <a> <o> \"t\" . <c> <o> <t> ."), []triple{b.Rules[0].Head, {S: "\"t\"", P: "<p>", O: "<c>"}}) {
		got, ok := impl.Why(b, x)
		wantNoTriples(t, "not there: "+textOf(x), got, ok)
		got, ok = impl.Why(base{}, x)
		wantNoTriples(t, "nothing is there: "+textOf(x), got, ok)
	}
	for _, x := range b.All {
		got, ok := impl.Why(base{Rules: b.Rules, Given: b.Given, All: b.Given}, x)
		wantNoTriples(t, "not closed", got, ok)
		got, ok = impl.Why(base{Rules: b.Rules, Given: b.Given, All: inOrder(append(manyTriples(3), b.All...))}, x)
		wantNoTriples(t, "more than the closure", got, ok)
		got, ok = impl.Why(base{Rules: append(slices.Clone(b.Rules), rule{}), Given: b.Given, All: b.All}, x)
		wantNoTriples(t, "a rule that is none", got, ok)
	}
}

func TestThereIsAReasonForJustWhatIsThere(t *testing.T) {
	dice := rand.New(rand.NewSource(79))
	reasons, none, less := 0, 0, 0
	for range 120 {
		g, rules := graphBy(dice, knot()), rulesBy(dice, dice.Intn(6))
		come, fits := plainSteps(g, rules)
		if !fits {
			continue
		}
		b := plainBase(rules, g)
		for i, s := range come {
			var want []triple
			for _, step := range plainProof(come, i) {
				if step.Rule == -1 {
					want = append(want, step.Triple)
				}
			}
			got, ok := impl.Why(b, s.Triple)
			wantTriples(t, "Why", got, ok, want)
			// A reason is enough: nothing else has to be given.
			if closed, fits := plainClosure(got, rules); !fits || !slices.Contains(closed, s.Triple) || !hasAll(g, got) {
				t.Errorf("%v is no reason", got)
			}
			if t.Failed() {
				t.Fatalf("Why(%v, %v)", b, s.Triple)
			}
			reasons++
			if len(got) < len(g) && s.Rule >= 0 {
				less++
			}
		}
		for _, x := range slices.Concat(knot(), strangersTo(dice)) {
			if !slices.Contains(b.All, x) {
				got, ok := impl.Why(b, x)
				wantNoTriples(t, textOf(x), got, ok)
				none++
			}
		}
	}
	if reasons < 800 || none < 100 || less < 200 {
		t.Errorf("%d reasons, %d of them less than what is given; %d without", reasons, less, none)
	}
}

func TestAReasonOfManyTriples(t *testing.T) {
	g, rules := aLadder(39)
	b := plainBase(rules, g)
	got, ok := impl.Why(b, triple{S: "<all>", P: "<is>", O: "<good>"})
	wantTriples(t, "all of the ladder", got, ok, g)
	got, ok = impl.Why(b, triple{S: "<ac>", P: "<is>", O: "<good>"})
	wantTriples(t, "three rungs", got, ok, g[:3])
	all := manyTriples(80)
	for _, x := range manyTriples(81) {
		got, ok := impl.Why(base{Given: all, All: all}, x)
		if slices.Contains(all, x) {
			wantTriples(t, "one of 80", got, ok, []triple{x})
		} else {
			wantNoTriples(t, "an 81st", got, ok)
		}
	}
}
