package tests

import (
	"math/rand"
	"slices"
	"strings"
	"testing"

	"loop.example/g00420/impl"
)

// owlTable is the document's table, line by line, with => between body and head.
func owlTable() []string {
	return []string{
		"?c <sub> ?d . ?x <type> ?c . => ?x <type> ?d .",
		"?c <sub> ?d . ?d <sub> ?e . => ?c <sub> ?e .",
		"?p <sp> ?q . ?x ?p ?y . => ?x ?q ?y .",
		"?p <sp> ?q . ?q <sp> ?r . => ?p <sp> ?r .",
		"?p <dom> ?c . ?x ?p ?y . => ?x <type> ?c .",
		"?p <range> ?c . ?x ?p ?y . => ?y <type> ?c .",
		"?p <inv> ?q . ?x ?p ?y . => ?y ?q ?x .",
		"?p <inv> ?q . => ?q <inv> ?p .",
		"?p <type> <symm> . ?x ?p ?y . => ?y ?p ?x .",
		"?p <type> <trans> . ?x ?p ?y . ?y ?p ?z . => ?x ?p ?z .",
		"?x <same> ?y . => ?y <same> ?x .",
		"?x <same> ?y . ?y <same> ?z . => ?x <same> ?z .",
		"?x <same> ?y . ?x ?p ?o . => ?y ?p ?o .",
		"?x <same> ?y . ?s ?p ?x . => ?s ?p ?y .",
		"?c <equiv> ?d . => ?c <sub> ?d .",
		"?c <equiv> ?d . => ?d <sub> ?c .",
	}
}

func TestTheRulesOfTheOntology(t *testing.T) {
	rules := impl.OwlRules()
	if len(rules) != len(owlTable()) {
		t.Fatalf("%d rules", len(rules))
	}
	for i, s := range owlTable() {
		if got := impl.RuleText(rules[i]); got != s || !sameRule(rules[i], readRule(s)) {
			t.Errorf("rule %d is %q, want %q", i, got, s)
		}
	}
}

// Of each rule: what it makes alone, and the closure by all rules.
func TestWhatEachRuleOfTheOntologyMakes(t *testing.T) {
	for i, c := range []struct{ g, made, more string }{
		{"<c> <sub> <d> . <x> <type> <c> .", "<x> <type> <d> .", ""},
		{"<c> <sub> <d> . <d> <sub> _:e .", "<c> <sub> _:e .", ""},
		{"<p> <sp> <q> . <x> <p> \"t\" .", "<x> <q> \"t\" .", ""},
		{"<p> <sp> <q> . <q> <sp> <r> .", "<p> <sp> <r> .", ""},
		{"<p> <dom> <c> . <x> <p> \"t\" .", "<x> <type> <c> .", ""},
		{"<p> <range> <c> . <x> <p> _:y . <x> <p> \"t\" .", "_:y <type> <c> .", ""},
		{"<p> <inv> <q> . <x> <p> <y> . <x> <p> \"t\" .", "<y> <q> <x> .", "<q> <inv> <p> ."},
		{"<p> <inv> <q> . <p> <inv> \"t\" .", "<q> <inv> <p> .", ""},
		{"<p> <type> <symm> . <x> <p> <y> . <x> <p> \"t\" .", "<y> <p> <x> .", ""},
		{"<p> <type> <trans> . <x> <p> <y> . <y> <p> \"t\" .", "<x> <p> \"t\" .", ""},
		{"<x> <same> <y> . <x> <same> \"t\" .", "<y> <same> <x> .", "<x> <same> <x> . <y> <same> <y> . <y> <same> \"t\" ."},
		{"<x> <same> <y> . <y> <same> _:z .", "<x> <same> _:z .", "<x> <same> <x> . <y> <same> <x> . <y> <same> <y> . _:z <same> <x> . _:z <same> <y> . _:z <same> _:z ."},
		{"<x> <p> \"t\" . <x> <same> <y> .", "<y> <p> \"t\" . <y> <same> <y> .", "<x> <same> <x> . <y> <same> <x> ."},
		{"<s> <p> <x> . <x> <same> <y> .", "<s> <p> <y> .", "<x> <same> <x> . <y> <same> <x> . <y> <same> <y> ."},
		{"<c> <equiv> <d> .", "<c> <sub> <d> .", "<c> <sub> <c> . <d> <sub> <c> . <d> <sub> <d> ."},
		{"<c> <equiv> <d> .", "<d> <sub> <c> .", "<c> <sub> <c> . <c> <sub> <d> . <d> <sub> <d> ."},
	} {
		g, made := inOrder(readPatterns(c.g)), inOrder(readPatterns(c.made))
		got, ok := impl.StepFrom(g, g, impl.OwlRules()[i:i+1])
		wantTriples(t, owlTable()[i], got, ok, made)
		got, ok = impl.Closure(g, impl.OwlRules())
		wantTriples(t, "the closure for "+owlTable()[i], got, ok, inOrder(slices.Concat(g, made, readPatterns(c.more))))
		if !impl.Closed(got, impl.OwlRules()) || impl.Closed(g, impl.OwlRules()) {
			t.Error(owlTable()[i] + ": Closed")
		}
	}
}

// someOf gives right triples over few terms, in order.
func someOf(dice *rand.Rand, n int, ss, ps, os string) []triple {
	pick := func(words string) string {
		l := strings.Fields(words)
		return l[dice.Intn(len(l))]
	}
	var l []triple
	for range n {
		l = append(l, triple{S: pick(ss), P: pick(ps), O: pick(os)})
	}
	return inOrder(l)
}

func TestAClassOfAClassIsItsThingsClass(t *testing.T) {
	dice := rand.New(rand.NewSource(37))
	whole, typed := 0, 0
	for range 400 {
		g := someOf(dice, 1+dice.Intn(7), "<a> <b> <c> <d> <x> _:y", "<sub> <sub> <type> <type> <equiv> <dom> <same> <p>", "<b> <c> <d> <e> <x> <p>")
		all, ok := impl.Closure(g, impl.OwlRules())
		if !ok {
			continue
		}
		whole++
		for _, class := range all {
			for _, thing := range all {
				if class.P != "<sub>" && class.P != "<equiv>" || thing.P != "<type>" || thing.O != class.S {
					continue
				}
				typed++
				if !slices.Contains(all, triple{S: thing.S, P: "<type>", O: class.O}) {
					t.Fatalf("%v: %v, and not of the class of %v", all, thing, class)
				}
			}
		}
		if want, fits := plainClosure(g, impl.OwlRules()); !fits || !slices.Equal(all, want) {
			t.Fatalf("Closure(%v) = %v, want %v", g, all, want)
		}
	}
	if whole < 200 || typed < 300 {
		t.Errorf("%d closures, %d things of classes", whole, typed)
	}
}

func wantClashes(t *testing.T, what string, g []triple, want []string) {
	t.Helper()
	got, ok := impl.ClashesOf(g)
	if !ok || !slices.Equal(got, want) {
		t.Errorf("%s: ClashesOf(%v) = %q, %v, want %q", what, g, got, ok, want)
	}
	if impl.Consistent(g) != (len(want) == 0) {
		t.Errorf("%s: Consistent(%v)", what, g)
	}
}

func TestClashesOfAFewGraphs(t *testing.T) {
	for _, c := range []struct {
		g    string
		want []string
	}{
		{"", nil},
		{"<a> <p> <b> . <a> <type> <c> .", nil},
		{"<a> <type> <nothing> .", []string{"nothing <a>"}},
		{"_:b <type> <nothing> . <a> <type> <nothing> . <nothing> <type> <nothing> .", []string{"nothing <a>", "nothing <nothing>", "nothing _:b"}},
		{"<nothing> <type> <a> . <a> <sub> <nothing> . <a> <type> \"nothing\" . <a> <type> _:nothin .", nil},
		{"<a> <same> <b> .", nil},
		{"<a> <diff> <b> .", nil},
		{"<a> <diff> <b> . <a> <same> <b> .", []string{"same <a> <b>"}},
		{"<a> <diff> <b> . <b> <same> <a> .", nil},
		{"<a> <diff> <b> . <a> <same> <c> . <c> <same> <b> .", nil},
		{"<a> <diff> <a> . <a> <same> <a> .", []string{"same <a> <a>"}},
		{"_:a <diff> \"t\" . _:a <same> \"t\" . _:a <same> <t> . _:a <diff> _:t .", []string{"same _:a \"t\""}},
		{"<a> <diff> <b> . <a> <same> <b> . <b> <diff> <a> . <b> <same> <a> .", []string{"same <a> <b>", "same <b> <a>"}},
		{"<c> <disj> <d> .", nil},
		{"<c> <disj> <d> . <x> <type> <c> .", nil},
		{"<c> <disj> <d> . <x> <type> <d> .", nil},
		{"<c> <disj> <d> . <x> <type> <c> . <y> <type> <d> .", nil},
		{"<c> <disj> <d> . <x> <type> <c> . <x> <type> <d> .", []string{"disj <x> <c> <d>"}},
		{"<d> <disj> <c> . <x> <type> <c> . <x> <type> <d> .", []string{"disj <x> <d> <c>"}},
		{"<c> <disj> <d> . <d> <disj> <c> . <x> <type> <c> . <x> <type> <d> .", []string{"disj <x> <c> <d>", "disj <x> <d> <c>"}},
		{"<c> <disj> <d> . <x> <p> <c> . <x> <type> <d> . <c> <type> <x> . <d> <type> <x> .", nil},
		{"<c> <disj> <c> . <x> <type> <c> .", []string{"disj <x> <c> <c>"}},
		{"_:c <disj> \"d\" . _:x <type> _:c . _:x <type> \"d\" .", []string{"disj _:x _:c \"d\""}},
		{"<c> <disj> <d> . <c> <disj> <e> . <x> <type> <c> . <x> <type> <d> . <x> <type> <e> . _:y <type> <e> . _:y <type> <c> . <z> <type> <d> .", []string{"disj <x> <c> <d>", "disj <x> <c> <e>", "disj _:y <c> <e>"}},
		{"<type> <disj> <disj> . <type> <type> <type> . <type> <type> <disj> .", []string{"disj <type> <type> <disj>"}},
		{"<x> <type> <nothing> . <nothing> <disj> <c> . <x> <type> <c> . <x> <same> <c> . <x> <diff> <c> .", []string{"disj <x> <nothing> <c>", "nothing <x>", "same <x> <c>"}},
	} {
		wantClashes(t, c.g, inOrder(readPatterns(c.g)), c.want)
	}
}

// Clashes rise by their texts, which is another order than that of the triples.
func TestClashesRise(t *testing.T) {
	g := inOrder(readPatterns("<a/> <type> <nothing> . <a1> <type> <nothing> . <a> <type> <nothing> . <b> <disj> <a> . <a> <disj> <b> . <z> <type> <a> . <z> <type> <b> . <y> <type> <a> . <y> <type> <b> . <a> <same> <b> . <a> <diff> <b> . <a1> <same> <b> . <a1> <diff> <b> ."))
	want := []string{"disj <y> <a> <b>", "disj <y> <b> <a>", "disj <z> <a> <b>", "disj <z> <b> <a>", "nothing <a/>", "nothing <a1>", "nothing <a>", "same <a1> <b>", "same <a> <b>"}
	wantClashes(t, "in order", g, want)
	spaced := inOrder([]triple{{S: "<c>", P: "<disj>", O: "\"a b\""}, {S: "<x>", P: "<type>", O: "<c>"}, {S: "<x>", P: "<type>", O: "\"a b\""}, {S: "<x>", P: "<same>", O: "\"\\\"\\n\""}, {S: "<x>", P: "<diff>", O: "\"\\\"\\n\""}})
	wantClashes(t, "texts", spaced, []string{"disj <x> <c> \"a b\"", "same <x> \"\\\"\\n\""})
}

// plainClashes is the document's sentence about ClashesOf.
func plainClashes(g []triple) []string {
	var l []string
	for _, a := range g {
		if a.P == "<type>" && a.O == "<nothing>" {
			l = append(l, "nothing "+a.S)
		}
		for _, b := range g {
			if a.P == "<same>" && b.P == "<diff>" && a.S == b.S && a.O == b.O {
				l = append(l, "same "+a.S+" "+a.O)
			}
			for _, c := range g {
				if a.P == "<disj>" && b.P == "<type>" && c.P == "<type>" && b.S == c.S && b.O == a.S && c.O == a.O {
					l = append(l, "disj "+b.S+" "+a.S+" "+a.O)
				}
			}
		}
	}
	slices.Sort(l)
	return slices.Compact(l)
}

func TestAGraphIsConsistentWhereNothingClashes(t *testing.T) {
	dice := rand.New(rand.NewSource(41))
	kinds, clear := map[string]int{}, 0
	for range 2000 {
		g := someOf(dice, dice.Intn(14), "<a> <b> <c> _:x", "<type> <type> <type> <disj> <disj> <same> <diff> <p>", "<a> <b> <c> \"t\" _:x <nothing>")
		want := plainClashes(g)
		wantClashes(t, "some triples", g, want)
		for _, s := range want {
			kind, _, _ := strings.Cut(s, " ")
			kinds[kind]++
		}
		if len(want) == 0 {
			clear++
		}
	}
	if clear < 200 || kinds["nothing"] < 200 || kinds["same"] < 50 || kinds["disj"] < 200 {
		t.Errorf("%v, %d consistent", kinds, clear)
	}
}

func TestWithMoreTriplesNoClashIsLost(t *testing.T) {
	dice := rand.New(rand.NewSource(43))
	lost := func(few, more []triple) bool {
		some, ok1 := impl.ClashesOf(few)
		all, ok2 := impl.ClashesOf(more)
		for _, s := range some {
			if !slices.Contains(all, s) {
				return true
			}
		}
		return !ok1 || !ok2 || impl.Consistent(more) && !impl.Consistent(few)
	}
	for range 500 {
		a := someOf(dice, dice.Intn(14), "<a> <b> <c>", "<type> <type> <disj> <same> <diff> <sub>", "<a> <b> <c> <nothing>")
		b := someOf(dice, dice.Intn(14), "<a> <b> <d>", "<type> <type> <disj> <same> <diff> <sub>", "<a> <b> <d> <nothing>")
		both, ok := impl.Union(a, b)
		if !ok || lost(a, both) || lost(b, both) {
			t.Fatalf("%v and %v", a, b)
		}
		if all, ok := impl.Closure(a, impl.OwlRules()); ok && lost(a, all) {
			t.Fatalf("%v and its closure %v", a, all)
		}
	}
}

// A thing may be of two classes only by the closure, and what is the same both ways clashes both ways.
func TestClashesThatAreOnlyInTheClosure(t *testing.T) {
	for _, c := range []struct {
		g    string
		want []string
	}{
		{"<c> <disj> <d> . <e> <sub> <d> . <x> <type> <c> . <x> <type> <e> .", []string{"disj <x> <c> <d>"}},
		{"<a> <same> <b> . <b> <same> <c> . <a> <diff> <c> .", []string{"same <a> <a>", "same <a> <b>", "same <a> <c>", "same <b> <a>", "same <b> <b>", "same <b> <c>", "same <c> <a>", "same <c> <b>", "same <c> <c>"}},
		{"<a> <diff> <b> . <b> <same> <a> .", []string{"same <a> <a>", "same <a> <b>", "same <b> <a>", "same <b> <b>"}},
		{"<c> <equiv> <nothing> . <p> <dom> <c> . <x> <p> <y> .", []string{"nothing <x>"}},
		{"<c> <equiv> <nothing> . <p> <dom> <c> . <y> <q> <z> .", nil},
	} {
		g := inOrder(readPatterns(c.g))
		wantClashes(t, c.g, g, nil)
		all, ok := impl.Closure(g, impl.OwlRules())
		if !ok {
			t.Fatal(c.g)
		}
		wantClashes(t, "the closure of "+c.g, all, c.want)
	}
}

// There is no limit of rows: of the patterns of disj there would be 729 and more.
func TestClashesOfAFullGraph(t *testing.T) {
	var g []triple
	var want []string
	for i := range 26 {
		d, x := "<d"+varName(i)[1:]+">", "<x"+varName(i)[1:]+">"
		g = append(g, triple{S: "<c>", P: "<disj>", O: d}, triple{S: x, P: "<type>", O: "<c>"}, triple{S: x, P: "<type>", O: d})
		want = append(want, "disj "+x+" <c> "+d)
	}
	g = inOrder(append(g, readPatterns("<z> <type> <nothing> . <c> <disj> <c> .")...))
	for i := range 26 {
		want = append(want, "disj <x"+varName(i)[1:]+"> <c> <c>")
	}
	slices.Sort(want)
	wantClashes(t, "80 triples", g, append(want, "nothing <z>"))
	if len(g) != 80 {
		t.Error(len(g))
	}
}

func TestClashesOfGraphsThatAreNotRight(t *testing.T) {
	clash := readPatterns("<a> <type> <nothing> . <b> <diff> <c> . <b> <same> <c> .")
	wrong := wrongGraphs()
	wrong["no clash, not in order"] = []triple{clash[1], clash[0]}
	wrong["81 that clash"] = append(readPatterns("<a/> <type> <nothing> ."), twoKinds(80, 0)...)
	for _, x := range wrongTriples() {
		wrong["a wrong one behind: "+textOf(x)] = append(slices.Clone(clash), x)
		wrong["a wrong one ahead: "+textOf(x)] = append([]triple{x}, clash...)
	}
	for why, g := range wrong {
		if got, ok := impl.ClashesOf(g); ok || len(got) != 0 {
			t.Errorf("%s: ClashesOf = %q, %v", why, got, ok)
		}
		if impl.Consistent(g) {
			t.Error(why + ": Consistent")
		}
	}
	wantClashes(t, "80 triples", inOrder(append(readPatterns("<a/> <type> <nothing> ."), twoKinds(79, 0)...)), []string{"nothing <a/>"})
}
