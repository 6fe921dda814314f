package tests

import (
	"runtime"
	"slices"
	"sync"
	"testing"
	"time"

	"loop.example/g00420/impl"
)

var spareRule = rule{Body: []triple{mark}, Head: mark}

// roomyRules has spare room behind the list of rules and behind each body.
func roomyRules(rules []rule) []rule {
	var l []rule
	for _, r := range rules {
		l = append(l, rule{Body: withRoom(r.Body, mark), Head: r.Head})
	}
	return withRoom(l, spareRule)
}

// allOfRules is a copy of all that stands in the rules and in the room behind them.
func allOfRules(rules []rule) []rule {
	var l []rule
	for _, r := range whole(rules) {
		l = append(l, rule{Body: slices.Clone(whole(r.Body)), Head: r.Head})
	}
	return l
}

func sameRules(a, b []rule) bool { return slices.EqualFunc(a, b, sameRule) }

func scribbleRules(rules []rule) {
	for i, r := range whole(rules) {
		if !sameRule(r, spareRule) {
			scribble(r.Body)
		}
		whole(rules)[i] = rule{Head: triple{S: "scribbled"}}
	}
}

// checkRulesApart calls f with rules that have spare room and sees that they stay as they are, and that the answer is apart from them.
func checkRulesApart(t *testing.T, name string, rules []rule, f func(rules []rule) []triple) {
	t.Helper()
	given := roomyRules(rules)
	kept := allOfRules(given)
	first := f(given)
	want := slices.Clone(first)
	if !sameRules(allOfRules(given), kept) {
		t.Errorf("%s writes into a rule or behind it", name)
	}
	scribble(first)
	if !sameRules(allOfRules(given), kept) {
		t.Errorf("%s: an answer shares memory with a rule", name)
	}
	second := f(given)
	scribbleRules(given)
	if !slices.Equal(second, want) {
		t.Errorf("%s: %v and %v of the same rules", name, want, second)
	}
}

// someRules is rules that are right and that are not, for graphs over <p>, <q> and the knot.
func someRules() [][]rule {
	return [][]rule{
		nil,
		readRules("<none> <none> <none> . => <a> <p> <b> ."),
		readRules("?x <p> ?y . => ?y <q> ?x ."),
		readRules("?x <p> ?y . ?y <p> ?z . => ?x <q> ?z .", "?x <q> ?y . => ?y <r> ?x .", "?x ?p \"t\" . => ?x ?p ?x ."),
		readRules("<a> <p> ?x . <a> <q> ?y . => ?x <r> ?y ."),
		impl.OwlRules(),
		numberedRules(30),
		numberedRules(31),
		append(numberedRules(2), rule{}),
	}
}

func TestNothingIsWrittenIntoWhatIsClosedAndNothingShared(t *testing.T) {
	graphs := [][]triple{nil, knot(), knot()[2:5], twoKinds(15, 20), twoKinds(40, 0), manyTriples(80), manyTriples(81), {knot()[1], knot()[0]}}
	for _, g := range graphs {
		for _, rules := range someRules() {
			closure := func(g, _ []triple) []triple { return listOf(impl.Closure(g, rules)) }
			closed := func(g, _ []triple) []triple {
				impl.Closed(g, rules)
				return nil
			}
			checkApart(t, "Closure", closure, g, nil)
			checkApart(t, "Closed", closed, g, nil)
			checkRulesApart(t, "Closure", rules, func(rules []rule) []triple { return listOf(impl.Closure(g, rules)) })
			checkRulesApart(t, "Closed", rules, func(rules []rule) []triple {
				impl.Closed(g, rules)
				return nil
			})
			for _, fresh := range [][]triple{nil, g, knot()[1:8], twoKinds(2, 2), manyTriples(81)} {
				checkApart(t, "StepFrom", func(g, fresh []triple) []triple { return listOf(impl.StepFrom(g, fresh, rules)) }, g, fresh)
				checkRulesApart(t, "StepFrom", rules, func(rules []rule) []triple { return listOf(impl.StepFrom(g, fresh, rules)) })
			}
			checkApart(t, "StepFrom the graph itself", func(g, _ []triple) []triple { return listOf(impl.StepFrom(g, g, rules)) }, g, nil)
		}
	}
}

// Parts of one list have the next ones as their spare room.
func TestClosuresOfPartsOfOneListLeaveTheRestAlone(t *testing.T) {
	all, rules := knot(), readRules("?x <p> ?y . => ?y <q> ?x .", "?x <q> ?y . ?x <a> ?z . => ?z <r> ?y .", "?x <r> ?y . => ?y <r> ?y .")
	body := readPatterns("?x <p> ?y . ?y <p> ?z . ?z <p> ?x .")
	for i := range body {
		rules = append(rules, rule{Body: body[:i+1], Head: triple{S: "?y", P: "<s>", O: "?x"}})
	}
	kept, keptRules := slices.Clone(all), allOfRules(rules)
	for n := range len(all) + 1 {
		for k := range len(rules) + 1 {
			if _, ok := impl.Closure(all[:n], rules[:k]); !ok {
				t.Fatalf("%d triples, %d rules", n, k)
			}
			impl.Closed(all[:n], rules[:k])
			impl.StepFrom(all[:n], all[:n/2], rules[:k])
			impl.StepFrom(all[n:], all[:n], rules[:k])
			impl.ClashesOf(all[:n])
		}
		if !slices.Equal(all, kept) || !sameRules(allOfRules(rules), keptRules) {
			t.Fatalf("with %d triples: %v", n, all)
		}
	}
}

func TestOwlRulesAreNewMemoryAtEachCall(t *testing.T) {
	want := readRules(owlTable()...)
	first, second := impl.OwlRules(), impl.OwlRules()
	for i, r := range second {
		scribble(r.Body)
		if !sameRules(second[i+1:], want[i+1:]) {
			t.Fatalf("the body of rule %d shares memory with another", i)
		}
	}
	for i := range whole(second) {
		whole(second)[i] = spareRule
	}
	if !sameRules(first, want) {
		t.Error("two answers share memory")
	}
	if !sameRules(impl.OwlRules(), want) {
		t.Error("another answer behind one that was written into")
	}
}

func TestNothingIsWrittenIntoWhatClashesAndNothingShared(t *testing.T) {
	clash := inOrder(readPatterns("<a> <type> <nothing> . <b> <diff> <c> . <b> <same> <c> . <c> <disj> <d> . <x> <type> <c> . <x> <type> <d> ."))
	for _, g := range [][]triple{nil, clash, clash[:1], knot(), manyTriples(80), manyTriples(81), {clash[1], clash[0]}} {
		checkApart(t, "ClashesOf and Consistent", func(g, _ []triple) []triple {
			impl.Consistent(g)
			var l []triple
			list, ok := impl.ClashesOf(g)
			for _, s := range list {
				l = append(l, triple{S: s})
			}
			return listOf(l, ok)
		}, g, nil)
	}
	first, _ := impl.ClashesOf(clash)
	for i := range whole(first) {
		whole(first)[i] = "scribbled"
	}
	wantClashes(t, "behind an answer that was written into", clash, []string{"disj <x> <c> <d>", "nothing <a>", "same <b> <c>"})
}

func TestClosuresGiveTheSameAnswers(t *testing.T) {
	g := inOrder(readPatterns("<c> <disj> <d> . <c> <sub> <e> . <p> <dom> <c> . <p> <inv> <q> . <q> <dom> <d> . <x> <p> <y> . <x> <type> <d> . <x> <same> <z> ."))
	rules := impl.OwlRules()
	want, ok := impl.Closure(g, rules)
	step, ok2 := impl.StepFrom(g, g, rules)
	clashes, ok3 := impl.ClashesOf(want)
	if !ok || !ok2 || !ok3 || len(want) < 20 || len(step) < 5 || len(clashes) < 2 {
		t.Fatal(want, step, clashes)
	}
	for range 100 {
		got, ok := impl.Closure(g, rules)
		wantTriples(t, "Closure", got, ok, want)
		got, ok = impl.StepFrom(g, g, rules)
		wantTriples(t, "StepFrom", got, ok, step)
		wantClashes(t, "ClashesOf", want, clashes)
		// A call that refuses leaves nothing behind.
		wantRefusedAtOnce(t, "31 rules", g, numberedRules(31))
		wantRefusedAtOnce(t, "too many rows", twoKinds(18, 0), readRules("?a <p> ?b . ?c <p> ?d . => <z> <r> <z> ."))
	}
}

// Calls that are made at the same time, of the same arguments, do not meet.
func TestClosuresAtTheSameTime(t *testing.T) {
	g, rules := knot(), readRules("?x <p> ?y . => ?y <q> ?x .", "?x <q> ?y . ?x <a> ?z . => ?z <r> ?y .")
	want, ok := impl.Closure(g, rules)
	if !ok || len(want) < 15 {
		t.Fatal(want)
	}
	var all sync.WaitGroup
	for range 8 {
		all.Go(func() {
			for range 50 {
				got, ok := impl.Closure(g, rules)
				wantTriples(t, "Closure", got, ok, want)
				if !impl.Closed(want, rules) || impl.Closed(g, rules) {
					t.Error("Closed")
				}
			}
		})
	}
	all.Wait()
}

// Each goroutine that a call starts ends: also where much is made, nothing is, and where the call refuses.
func TestNoGoroutineIsLeft(t *testing.T) {
	before := runtime.NumGoroutine()
	for range 300 {
		impl.Closure(twoKinds(15, 20), readRules("<a> <p> ?x . <a> <q> ?y . => ?x <r> ?y ."))
		impl.Closure(twoKinds(3, 3), readRules("?x <p> ?y . => ?y <q> ?x ."))
		impl.Closed(twoKinds(40, 0), readRules("?x <p> ?y . => ?y <q> ?x ."))
		impl.StepFrom(twoKinds(18, 0), nil, readRules("?x <p> ?y . => ?y <q> ?x .", "?a <p> ?b . ?c <p> ?d . => <z> <r> <z> ."))
		impl.StepFrom(twoKinds(18, 0), twoKinds(9, 0), nil)
	}
	for range 100 {
		if runtime.NumGoroutine() <= before {
			return
		}
		time.Sleep(10 * time.Millisecond)
	}
	t.Errorf("%d goroutines, %d before", runtime.NumGoroutine(), before)
}
