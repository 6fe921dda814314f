package tests

import (
	"maps"
	"math/rand"
	"slices"
	"strings"
	"testing"

	"loop.example/g00420/impl"
)

func readRules(list ...string) []rule {
	var rules []rule
	for _, s := range list {
		rules = append(rules, readRule(s))
	}
	return rules
}

// inOrder sorts triples by S, P and O, each once.
func inOrder(l []triple) []triple {
	l = slices.Clone(l)
	slices.SortFunc(l, func(a, b triple) int {
		return strings.Compare(a.S+"\x00"+a.P+"\x00"+a.O, b.S+"\x00"+b.P+"\x00"+b.O)
	})
	return slices.Compact(l)
}

func hasAll(l, some []triple) bool {
	for _, x := range some {
		if !slices.Contains(l, x) {
			return false
		}
	}
	return true
}

func wantTriples(t *testing.T, what string, got []triple, ok bool, want []triple) {
	t.Helper()
	if !ok || !slices.Equal(got, want) {
		t.Errorf("%s: %v, %v, want %v", what, got, ok, want)
	}
}

func wantNoTriples(t *testing.T, what string, got []triple, ok bool) {
	t.Helper()
	if ok || len(got) != 0 {
		t.Errorf("%s: %d triples, %v", what, len(got), ok)
	}
}

// wantRefusedAtOnce asks all functions of the chapter, also with fresh triples that would need no row.
func wantRefusedAtOnce(t *testing.T, what string, g []triple, rules []rule) {
	t.Helper()
	got, ok := impl.Closure(g, rules)
	wantNoTriples(t, what+": Closure", got, ok)
	if impl.Closed(g, rules) {
		t.Error(what + ": Closed")
	}
	for _, fresh := range [][]triple{nil, g, readPatterns("<none> <none> <none> .")} {
		got, ok = impl.StepFrom(g, fresh, rules)
		wantNoTriples(t, what+": StepFrom", got, ok)
	}
}

// plainRows tries each triple for each pattern; it gives the rows of all patterns, and the most that the first one, the first two and so on have.
func plainRows(g, l []triple) ([]map[string]string, int) {
	rows, most := []map[string]string{{}}, 0
	for _, p := range l {
		var next []map[string]string
		for _, row := range rows {
			for _, x := range g {
				if more, fits := plainBound(row, p, x); fits {
					next = append(next, more)
				}
			}
		}
		rows, most = next, max(most, len(next))
	}
	return rows, most
}

func plainBound(row map[string]string, p, x triple) (map[string]string, bool) {
	more := maps.Clone(row)
	for _, two := range [][2]string{{p.S, x.S}, {p.P, x.P}, {p.O, x.O}} {
		if two[0][0] == '?' && more[two[0]] == "" {
			more[two[0]] = two[1]
		}
		if term := more[two[0]]; term != two[1] && (term != "" || two[0] != two[1]) {
			return nil, false
		}
	}
	return more, true
}

// plainRoom asks for each body whether its first pattern, its first two and so on have at most 300 rows.
func plainRoom(g []triple, rules []rule) bool {
	for _, r := range rules {
		if _, most := plainRows(g, r.Body); most > 300 {
			return false
		}
	}
	return true
}

// plainStep is the document's sentence about StepFrom, where no limit is met.
func plainStep(g, fresh []triple, rules []rule) []triple {
	var l []triple
	for _, r := range rules {
		rows, _ := plainRows(g, r.Body)
		for _, row := range rows {
			touched := slices.ContainsFunc(r.Body, func(p triple) bool { return slices.Contains(fresh, plainFilled(plainRow(row), p)) })
			if x := plainFilled(plainRow(row), r.Head); touched && impl.TripleOk(x) && !slices.Contains(g, x) {
				l = append(l, x)
			}
		}
	}
	return inOrder(l)
}

// plainClosure is the document's sentence about Closure, round by round.
func plainClosure(g []triple, rules []rule) ([]triple, bool) {
	for plainRoom(g, rules) {
		made := plainStep(g, g, rules)
		if len(made) == 0 {
			return g, true
		}
		g = inOrder(append(made, g...))
		if len(g) > 80 {
			break
		}
	}
	return nil, false
}

// openPatternsBy gives patterns that have more variables than those of patternsBy.
func openPatternsBy(dice *rand.Rand, n int) []triple {
	pick := func(words ...string) string { return words[dice.Intn(len(words))] }
	var l []triple
	for range n {
		l = append(l, triple{S: pick("?x", "?y", "?z", "?w", "?y", "<a>"), P: pick("?p", "?q", "<p>", "<p>", "<a>"), O: pick("?x", "?y", "?z", "?w", "?z", "\"t\"")})
	}
	return l
}

func rulesBy(dice *rand.Rand, n int) []rule {
	var rules []rule
	for len(rules) < n {
		r := rule{Body: openPatternsBy(dice, 1+dice.Intn(4)), Head: openPatternsBy(dice, 1)[0]}
		if dice.Intn(3) == 0 {
			r = rule{Body: patternsBy(dice, 1+dice.Intn(3)), Head: patternsBy(dice, 1)[0]}
		}
		if impl.RuleOk(r) {
			rules = append(rules, r)
		}
	}
	return rules
}

func TestClosureOfAFewGraphs(t *testing.T) {
	grand := readRules("?x <next> ?y . ?x <is> ?c . => ?y <is> ?c .")
	for _, c := range []struct {
		what, g string
		rules   []rule
		want    string
	}{
		{"nothing at all", "", nil, ""},
		{"no rules", "<a> <p> <b> . <b> <p> \"t\" .", nil, "<a> <p> <b> . <b> <p> \"t\" ."},
		{"no triples", "", grand, ""},
		{"nothing fits", "<a> <p> <b> .", grand, "<a> <p> <b> ."},
		{"closed already", "<a> <is> <c> . <a> <next> <b> . <b> <is> <c> .", grand, "<a> <is> <c> . <a> <next> <b> . <b> <is> <c> ."},
		{"one round", "<a> <is> <c> . <a> <next> <b> .", grand, "<a> <is> <c> . <a> <next> <b> . <b> <is> <c> ."},
		{"four rounds", "<a> <is> <c> . <a> <next> <b> . <b> <next> <d> . <d> <next> <e> . <e> <next> _:f .", grand,
			"<a> <is> <c> . <a> <next> <b> . <b> <is> <c> . <b> <next> <d> . <d> <is> <c> . <d> <next> <e> . <e> <is> <c> . <e> <next> _:f . _:f <is> <c> ."},
		{"round in a ring", "<a> <is> \"t\" . <a> <next> <b> . <b> <next> <a> .", grand, "<a> <is> \"t\" . <a> <next> <b> . <b> <is> \"t\" . <b> <next> <a> ."},
		{"each rule waits for the one behind it", "<a> <p> <b> .", readRules("?x <s> ?y . => ?x <t> ?y .", "?x <r> ?y . => ?x <s> ?y .", "?x <q> ?y . => ?x <r> ?y .", "?x <p> ?y . => ?x <q> ?y ."),
			"<a> <p> <b> . <a> <q> <b> . <a> <r> <b> . <a> <s> <b> . <a> <t> <b> ."},
		{"a row of one old triple and one new one", "<a> <p> <b> . <a> <q> <c> .", readRules("?x <p> ?y . => ?y <new> ?x .", "?x <q> ?z . ?y <new> ?x . => ?y <r> ?z ."),
			"<a> <p> <b> . <a> <q> <c> . <b> <new> <a> . <b> <r> <c> ."},
		{"a row of two new ones", "<a> <p> <b> .", readRules("?x <p> ?y . => ?y <new> ?x .", "?x <p> ?y . => ?y <new> ?y .", "?x <new> ?y . ?x <new> ?x . => ?y <r> ?x ."),
			"<a> <p> <b> . <a> <r> <b> . <b> <new> <a> . <b> <new> <b> . <b> <r> <b> ."},
		{"a head without variables", "<a> <p> <b> .", readRules("?x <p> ?y . => <z> <p> \"z\" .", "?x <p> \"z\" . => _:z <q> _:z ."), "<a> <p> <b> . <z> <p> \"z\" . _:z <q> _:z ."},
		{"two rules make one triple", "<a> <p> <b> .", readRules("?x <p> ?y . => ?y <q> ?x .", "?x ?p ?y . => ?y <q> ?x ."), "<a> <p> <b> . <a> <q> <b> . <b> <q> <a> ."},
	} {
		got, ok := impl.Closure(readPatterns(c.g), c.rules)
		wantTriples(t, c.what, got, ok, readPatterns(c.want))
		if !impl.Closed(readPatterns(c.want), c.rules) || impl.Closed(readPatterns(c.g), c.rules) != (c.g == c.want) {
			t.Error(c.what + ": Closed")
		}
	}
}

// What is no right triple once it is filled is not made, and does not hinder what is.
func TestHeadsThatAreNoTriplesAreNotMade(t *testing.T) {
	for _, c := range []struct{ what, g, rule, made string }{
		{"a text as S", "<a> <p> \"t\" .", "?x <p> ?y . => ?y <q> ?x .", ""},
		{"a text as S beside a blank and a name", "<a> <p> \"t\" . <a> <p> <b> . <a> <p> _:b .", "?x <p> ?y . => ?y <q> ?x .", "<b> <q> <a> . _:b <q> <a> ."},
		{"a text as P", "<a> <p> \"t\" . <a> <p> <b> .", "?x <p> ?y . => ?x ?y ?x .", "<a> <b> <a> ."},
		{"a blank as P", "<a> <p> <b> . <a> <p> _:b .", "?x <p> ?y . => ?x ?y ?x .", "<a> <b> <a> ."},
		{"a blank S as P", "_:b <p> <b> .", "?x <p> ?y . => <a> ?x ?y .", ""},
		{"a text in a row and no part of the head", "<a> <p> \"t\" .", "?x ?p ?y . => <a> ?p ?x .", "<a> <p> <a> ."},
		{"a text that stays an O", "<a> <p> \"t\" .", "?x <p> ?y . => <b> <q> ?y .", "<b> <q> \"t\" ."},
		{"both S and P", "<a> <p> \"t\" . _:b <p> \"t\" .", "?x <p> ?y . => ?y ?x ?x .", ""},
	} {
		g := inOrder(readPatterns(c.g))
		rules := readRules(c.rule)
		if !impl.GraphOk(g) || !impl.RuleOk(rules[0]) {
			t.Fatal(c.what)
		}
		got, ok := impl.Closure(g, rules)
		wantTriples(t, c.what, got, ok, inOrder(append(readPatterns(c.made), g...)))
		got, ok = impl.StepFrom(g, g, rules)
		wantTriples(t, c.what, got, ok, inOrder(readPatterns(c.made)))
		if impl.Closed(g, rules) != (c.made == "") {
			t.Error(c.what + ": Closed")
		}
	}
	// A graph without any room has room for what is not made.
	g := inOrder(append(twoKinds(79, 0), triple{S: "<a>", P: "<q>", O: "\"t\""}))
	got, ok := impl.Closure(g, readRules("?x <q> ?y . => ?y <q> ?x .", "?x <q> ?y . => ?x ?y ?x ."))
	wantTriples(t, "80 triples", got, ok, g)
}

func TestAClosureIsTheLeastClosedGraph(t *testing.T) {
	dice := rand.New(rand.NewSource(19))
	whole, refused, grown := 0, 0, 0
	for range 600 {
		all := knot()
		mask := dice.Intn(1 << len(all))
		g, more, rules := chosen(all, mask), chosen(all, mask|dice.Intn(1<<len(all))), rulesBy(dice, dice.Intn(7))
		got, ok := impl.Closure(g, rules)
		want, fits := plainClosure(g, rules)
		if ok != fits || !slices.Equal(got, want) || !ok && len(got) != 0 {
			t.Fatalf("Closure(%v, %v) = %v, %v, want %v, %v", g, rules, got, ok, want, fits)
		}
		if impl.Closed(g, rules) != (fits && len(want) == len(g)) {
			t.Fatalf("Closed(%v, %v) = %v", g, rules, len(want) != len(g))
		}
		if !ok {
			refused++
			continue
		}
		whole++
		if len(got) > len(g)+3 {
			grown++
		}
		if !impl.GraphOk(got) || !hasAll(got, g) || !impl.Closed(got, rules) {
			t.Fatalf("%v is no closure of %v", got, g)
		}
		if larger, ok := impl.Closure(more, rules); ok && (!impl.Closed(larger, rules) || !hasAll(larger, got)) {
			t.Fatalf("%v is closed, has %v, and not %v", larger, g, got)
		}
	}
	if whole < 300 || refused < 20 || grown < 80 {
		t.Errorf("%d closures, %d grown, %d refused", whole, grown, refused)
	}
}

func TestTheOrderOfRulesMakesNoOtherClosure(t *testing.T) {
	g := readPatterns("<a> <p> <b> . <b> <p> <c> . <c> <q> <d> . <d> <q> _:e .")
	rules := readRules("?x <p> ?y . ?y <q> ?z . => ?x <r> ?z .", "?x <q> ?y . => ?x <p> ?y .", "?x <r> ?y . => ?y <s> ?x .", "?x <s> ?y . => ?x <p> ?x .")
	want, ok := impl.Closure(g, rules)
	if plain, fits := plainClosure(g, rules); !ok || !fits || !slices.Equal(want, plain) || len(want) < 12 {
		t.Fatal(want, plain)
	}
	for i := range rules {
		for j := range rules {
			other := append(slices.Clone(rules), rules[i])
			other[i], other[j] = other[j], other[i]
			got, ok := impl.Closure(g, other)
			wantTriples(t, "in another order, and one twice", got, ok, want)
		}
	}
	for i := range want {
		for j := range want {
			some := inOrder(append(slices.Clone(g), want[min(i, j):max(i, j)]...))
			got, ok := impl.Closure(some, rules)
			wantTriples(t, "of a part that has the graph", got, ok, want)
			if impl.Closed(some, rules) != (len(some) == len(want)) {
				t.Errorf("Closed(%v)", some)
			}
		}
	}
}

// numberedRules gives rules each of which makes a triple of its own.
func numberedRules(n int) []rule {
	var rules []rule
	for i := range n {
		rules = append(rules, rule{Body: readPatterns("?x <p> ?y ."), Head: triple{S: "?x", P: "<q>", O: "<" + varName(i)[1:] + ">"}})
	}
	return rules
}

func TestThirtyRulesAreNotTooMany(t *testing.T) {
	g := readPatterns("<a> <p> <b> .")
	for n := range 30 + 1 {
		got, ok := impl.Closure(g, numberedRules(n))
		wantTriples(t, "many rules", got, ok, append(readPatterns("<a> <p> <b> ."), twoKinds(0, n)...))
		if !impl.Closed(got, numberedRules(n)) || impl.Closed(g, numberedRules(n)) != (n == 0) {
			t.Errorf("Closed by %d rules", n)
		}
		step, ok := impl.StepFrom(g, g, numberedRules(n))
		wantTriples(t, "StepFrom", step, ok, twoKinds(0, n))
		alike := slices.Repeat(numberedRules(1), n)
		got, ok = impl.Closure(g, alike)
		wantTriples(t, "one rule many times", got, ok, append(readPatterns("<a> <p> <b> ."), twoKinds(0, min(n, 1))...))
	}
	for _, n := range []int{31, 32, 100} {
		for _, h := range [][]triple{nil, g, readPatterns("<a> <none> <b> .")} {
			wantRefusedAtOnce(t, "too many rules", h, numberedRules(n))
			wantRefusedAtOnce(t, "one rule too many times", h, slices.Repeat(numberedRules(1), n))
		}
	}
}

func TestARuleThatIsNotRightAmongRightOnes(t *testing.T) {
	right := numberedRules(3)
	for why, r := range wrongRules() {
		for i := range len(right) + 1 {
			for _, g := range [][]triple{nil, readPatterns("<a> <p> <b> ."), readPatterns("<a> <none> <b> .")} {
				wantRefusedAtOnce(t, why, g, slices.Insert(slices.Clone(right), i, r))
			}
		}
		wantRefusedAtOnce(t, why, knot(), []rule{r})
		wantRefusedAtOnce(t, why+", the last of 30", nil, append(numberedRules(29), r))
	}
}

func TestClosuresOfGraphsThatAreNotRight(t *testing.T) {
	for why, g := range wrongGraphs() {
		for _, rules := range [][]rule{nil, numberedRules(1), readRules("<none> <none> <none> . => <a> <p> <b> ."), {{}}} {
			wantRefusedAtOnce(t, why, g, rules)
		}
	}
}

func TestAClosureOfEightyTriples(t *testing.T) {
	both := "?x <p> ?y . => ?y <r> ?x ."
	chain := readRules("?x <p> ?y . => ?x <r> ?y .", "?x <r> ?y . => ?x <s> ?y .", "?x <s> ?y . => ?x <t> ?y .")
	for _, c := range []struct {
		what string
		g    []triple
		list []rule
		want int
	}{
		{"just 80", twoKinds(40, 0), readRules(both), 80},
		{"81, one of them there already", twoKinds(40, 1), readRules(both), -1},
		{"just 80, some there already", twoKinds(39, 2), readRules(both), 80},
		{"82", twoKinds(41, 0), readRules(both), -1},
		{"80 and no more", twoKinds(80, 0), readRules("?x <q> ?y . => ?y <r> ?x .", "?x <p> ?y . => ?x <p> ?y ."), 80},
		{"80 and one more", twoKinds(80, 0), readRules("?x <p> ?y . => <z> <z> <z> ."), -1},
		{"79 and one more", twoKinds(79, 0), readRules("?x <p> ?y . => <z> <z> <z> ."), 80},
		{"79 and two more", twoKinds(79, 0), readRules("?x <p> ?y . => <z> <z> <z> .", "?x <p> ?y . => <y> <y> <y> ."), -1},
		{"79 and one more of two rules", twoKinds(79, 0), readRules("?x <p> ?y . => <z> <z> <z> .", "?x <p> <aa> . => <z> <z> <z> ."), 80},
		{"just 80 in the third round", twoKinds(20, 0), chain, 80},
		{"84 in the third round", twoKinds(21, 0), chain, -1},
		{"81 in the third round", twoKinds(20, 1), chain, -1},
		{"81 of one round", twoKinds(9, 9), readRules("<a> <p> ?x . <a> <q> ?y . => ?y <r> ?x ."), -1},
		{"64 of one round", twoKinds(8, 8), readRules("<a> <p> ?x . <a> <q> ?y . => ?y <r> ?x ."), 80},
		{"300 of one round", twoKinds(15, 20), readRules("<a> <p> ?x . <a> <q> ?y . => ?y <r> ?x ."), -1},
		{"too many only behind a full round", twoKinds(26, 1), readRules("?x <p> ?y . => ?x <r> ?y .", "?x <r> ?y . => ?x <s> ?y ."), 79},
		{"three more", twoKinds(27, 0), readRules("?x <p> ?y . => ?x <r> ?y .", "?x <r> ?y . => ?x <s> ?y ."), -1},
	} {
		got, ok := impl.Closure(c.g, c.list)
		if c.want < 0 {
			wantNoTriples(t, c.what, got, ok)
		} else if !ok || len(got) != c.want || !impl.GraphOk(got) || !hasAll(got, c.g) || !impl.Closed(got, c.list) {
			t.Errorf("%s: %d triples, %v, want %d", c.what, len(got), ok, c.want)
		}
		if impl.Closed(c.g, c.list) != (c.want == len(c.g)) {
			t.Error(c.what + ": Closed")
		}
	}
	step, ok := impl.StepFrom(twoKinds(15, 20), twoKinds(15, 0), readRules("<a> <p> ?x . <a> <q> ?y . => ?y <r> ?x ."))
	if !ok || len(step) != 300 || !slices.Equal(step, inOrder(step)) {
		t.Errorf("a step of 300: %d, %v", len(step), ok)
	}
}

func TestABodyWithMoreRowsThanAreTold(t *testing.T) {
	pairs := "<a> <p> ?x . <a> <q> ?y . => "
	for _, c := range []struct {
		what string
		g    []triple
		rule string
	}{
		{"what could be made is one", twoKinds(7, 43), pairs + "<z> <r> <z> ."},
		{"what could be made is there", twoKinds(7, 43), pairs + "<a> <p> <aa> ."},
		{"what could be made is no triple", append(twoKinds(7, 43), readPatterns("<a> <s> \"t\" .")...), "<a> <s> ?t . <a> <p> ?x . <a> <q> ?y . => ?t <r> ?x ."},
		{"a pattern behind has none", twoKinds(7, 43), "<a> <p> ?x . <a> <q> ?y . ?y <q> ?x . => <z> <r> <z> ."},
		{"two variables, 18 triples", twoKinds(18, 0), "?a <p> ?b . ?c <p> ?d . => <z> <r> <z> ."},
		{"four patterns, 5 triples", twoKinds(5, 0), "?a <p> ?b . ?a <p> ?c . ?a <p> ?d . ?a <p> ?e . => <a> <p> <aa> ."},
	} {
		r := readRules(c.rule)
		for _, rules := range [][]rule{r, append(numberedRules(2), r...), append(r, numberedRules(2)...), append(numberedRules(29), r...), readRules("?x <none> ?y . => ?y <none> ?x .", c.rule)} {
			wantRefusedAtOnce(t, c.what, c.g, rules)
		}
	}
	for _, c := range []struct {
		what string
		g    []triple
		rule string
	}{
		{"300 rows, what could be made is there", twoKinds(15, 20), pairs + "<a> <p> <aa> ."},
		{"300 rows, 75 triples", twoKinds(15, 20), "<a> <p> ?x . <a> <q> ?y . => <a> <q> ?x ."},
		{"17 triples", twoKinds(17, 0), "?a <p> ?b . ?c <p> ?d . => ?a <p> ?d ."},
		{"4 triples", twoKinds(4, 0), "?a <p> ?b . ?a <p> ?c . ?a <p> ?d . ?a <p> ?e . => <a> <p> ?e ."},
	} {
		got, ok := impl.Closure(c.g, readRules(c.rule))
		wantTriples(t, c.what, got, ok, c.g)
		if !impl.Closed(c.g, readRules(c.rule)) {
			t.Error(c.what + ": Closed")
		}
	}
}

// Rows may become too many only by what a later round takes in, and in a graph that has room.
func TestABodyThatHasTooManyRowsInALaterRound(t *testing.T) {
	square := "?a <p> ?b . ?c <p> ?d . => <a> <p> <aa> ."
	for _, c := range []struct {
		what string
		m    int
		want int
		list []string
	}{
		{"17 become 18", 17, -1, []string{square, "?x <p> ?y . => ?x <p> <new> ."}},
		{"16 become 17", 16, 17, []string{square, "?x <p> ?y . => ?x <p> <new> ."}},
		{"17 become 18 in the second round", 17, -1, []string{square, "?x <p> ?y . => ?x <o> <new> .", "?x <o> ?y . => ?x <p> ?y ."}},
		{"16 become 17 in the second round", 16, 18, []string{square, "?x <p> ?y . => ?x <o> <new> .", "?x <o> ?y . => ?x <p> ?y ."}},
		{"17 stay 17", 17, 18, []string{square, "?x <p> ?y . => ?x <o> <new> ."}},
		{"the last rule", 17, -1, []string{"?x <p> ?y . => ?x <p> <new> .", square}},
	} {
		g, rules := twoKinds(c.m, 0), readRules(c.list...)
		got, ok := impl.Closure(g, rules)
		if c.want < 0 {
			wantNoTriples(t, c.what, got, ok)
		} else if !ok || len(got) != c.want {
			t.Errorf("%s: %d triples, %v", c.what, len(got), ok)
		}
		if step, ok := impl.StepFrom(g, g, rules); !ok || len(step) != 1 || impl.Closed(g, rules) {
			t.Errorf("%s: the first round makes %v, %v", c.what, step, ok)
		}
	}
}
