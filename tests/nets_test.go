package tests

import (
	"math/rand"
	"slices"
	"testing"

	"loop.example/g00420/impl"
)

type (
	rete   = impl.Rete
	memory = impl.Memory
)

// plainMemory gives all rows of the patterns, in order.
func plainMemory(facts, l []triple) [][]pair {
	var rows [][]pair
	found, _ := plainRows(facts, l)
	for _, row := range found {
		rows = append(rows, plainRow(row))
	}
	return plainInOrder(rows)
}

// plainNet is the document's sentence about ReteOk, where no limit is met.
func plainNet(rules []rule, facts []triple) rete {
	n := rete{Rules: rules, Facts: facts}
	for _, r := range rules {
		for i := range r.Body {
			n.Mems = append(n.Mems, memory{Rows: plainMemory(facts, r.Body[:i+1])})
		}
	}
	return n
}

// plainHeads is the document's sentence about what comes of more facts.
func plainHeads(rules []rule, old, facts []triple) []triple {
	var heads []triple
	for _, r := range rules {
		known := keysOf(plainMemory(old, r.Body))
		for _, row := range plainMemory(facts, r.Body) {
			x := plainFilled(row, r.Head)
			if !slices.Contains(known, rowKey(row)) && impl.TripleOk(x) && !slices.Contains(facts, x) {
				heads = append(heads, x)
			}
		}
	}
	return inOrder(heads)
}

func sameNet(a, b rete) bool {
	mems := slices.EqualFunc(a.Mems, b.Mems, func(x, y memory) bool { return equalRows(x.Rows, y.Rows) })
	return mems && sameRules(a.Rules, b.Rules) && slices.Equal(a.Facts, b.Facts)
}

func wantNet(t *testing.T, what string, got rete, ok bool, want rete) {
	t.Helper()
	if !ok || !sameNet(got, want) || !impl.ReteOk(got) {
		t.Errorf("%s: %v, %v, want %v", what, got, ok, want)
	}
}

func wantNoNet(t *testing.T, what string, got rete, ok bool) {
	t.Helper()
	if ok || len(got.Rules)+len(got.Facts)+len(got.Mems) > 0 {
		t.Errorf("%s: %v, %v", what, got, ok)
	}
}

// wantRefusedTriple tells a net a triple that it can not be told, also by a run.
func wantRefusedTriple(t *testing.T, what string, n rete, x triple) {
	t.Helper()
	got, heads, ok := impl.ReteAdd(n, x)
	wantNoNet(t, what, got, ok)
	wantNoTriples(t, what, heads, ok)
	got, ok = impl.ReteRun(n, []triple{x})
	wantNoNet(t, what+", in a run", got, ok)
}

// wantWrongNet asks all functions of the chapter, also for what would change nothing.
func wantWrongNet(t *testing.T, what string, n rete) {
	t.Helper()
	if impl.ReteOk(n) {
		t.Errorf("%s: ReteOk(%v)", what, n)
	}
	for _, x := range append(slices.Clone(n.Facts), triple{}, readPatterns("<new> <new> <new> .")[0]) {
		got, heads, ok := impl.ReteAdd(n, x)
		wantNoNet(t, what, got, ok)
		wantNoTriples(t, what, heads, ok)
	}
	for _, l := range [][]triple{nil, n.Facts, readPatterns("<new> <new> <new> .")} {
		got, ok := impl.ReteRun(n, l)
		wantNoNet(t, what+", a run", got, ok)
	}
}

func mustNew(t *testing.T, rules []rule) rete {
	t.Helper()
	n, ok := impl.ReteNew(rules)
	if !ok {
		t.Fatal(rules)
	}
	return n
}

func TestANetThatWasToldNothing(t *testing.T) {
	if !impl.ReteOk(rete{}) {
		t.Error("a net without rules and triples")
	}
	for n := range 31 {
		got, ok := impl.ReteNew(numberedRules(n))
		wantNet(t, "many rules", got, ok, rete{Rules: numberedRules(n), Mems: make([]memory, n)})
	}
	for _, r := range rightRules()[:6] {
		got, ok := impl.ReteNew([]rule{r, r})
		wantNet(t, "a rule twice", got, ok, rete{Rules: []rule{r, r}, Mems: make([]memory, 2*len(r.Body))})
	}
	got, ok := impl.ReteNew(impl.OwlRules())
	wantNet(t, "the ontology", got, ok, rete{Rules: impl.OwlRules(), Mems: make([]memory, 29)})
}

func TestANetOfRulesThatAreNotRight(t *testing.T) {
	for _, n := range []int{31, 32, 100} {
		got, ok := impl.ReteNew(numberedRules(n))
		wantNoNet(t, "too many rules", got, ok)
		wantWrongNet(t, "too many rules", plainNet(numberedRules(n), nil))
		wantWrongNet(t, "too many rules and a triple", plainNet(numberedRules(n), readPatterns("<a> <p> <b> .")))
	}
	for why, r := range wrongRules() {
		for i := range 4 {
			rules := slices.Insert(numberedRules(3), i, r)
			got, ok := impl.ReteNew(rules)
			wantNoNet(t, why, got, ok)
			wantWrongNet(t, why, rete{Rules: rules, Mems: make([]memory, 3+len(r.Body))})
		}
		got, ok := impl.ReteNew([]rule{r})
		wantNoNet(t, why, got, ok)
	}
}

func TestANetIsToldAFewTriples(t *testing.T) {
	chain := readRules("?x <p> ?y . ?y <p> ?z . => ?x <q> ?z .")
	for _, c := range []struct {
		what  string
		rules []rule
		told  string
		heads string
	}{
		{"no rules", nil, "<a> <p> <b> .", ""},
		{"no pattern fits", chain, "<a> <q> <b> .", ""},
		{"only the first pattern", chain, "<a> <p> <b> .", ""},
		{"the last pattern behind the first", chain, "<a> <p> <b> . <b> <p> <c> .", "<a> <q> <c> ."},
		{"the first pattern behind the last", chain, "<b> <p> <c> . <a> <p> <b> .", "<a> <q> <c> ."},
		{"two patterns of one rule", chain, "<a> <p> <a> .", "<a> <q> <a> ."},
		{"two patterns, and each beside others", chain, "<a> <p> <b> . <b> <p> <c> . <b> <p> <b> .", "<a> <q> <b> . <b> <q> <b> . <b> <q> <c> ."},
		{"two patterns, each beside another", chain, "<a> <p> <b> . <c> <p> <d> . <b> <p> <c> .", "<a> <q> <c> . <b> <q> <d> ."},
		{"two patterns, and the row back", chain, "<a> <p> <b> . <b> <p> <a> .", "<a> <q> <a> . <b> <q> <b> ."},
		{"four patterns", readRules("?v <p> ?w . ?w <p> ?x . ?x <p> ?y . ?y <p> ?z . => ?v <q> ?z ."), "<a> <p> <b> . <b> <p> <a> .", "<a> <q> <a> . <b> <q> <b> ."},
		{"four patterns alike", readRules("?v <p> ?w . ?v <p> ?w . ?v <p> ?w . ?v <p> ?w . => ?w <q> ?v ."), "<a> <p> <b> . <b> <p> <a> .", "<a> <q> <b> ."},
		{"unlike patterns for one triple", readRules("?x ?p <a> . <a> ?q ?y . => ?y ?p ?x ."), "<b> <q> <a> . <a> <p> <a> .", "<a> <q> <b> ."},
		{"told again", chain, "<a> <p> <b> . <b> <p> <c> . <a> <p> <b> .", ""},
		{"what came is not in it until it is told", chain, "<a> <p> <b> . <b> <p> <c> . <c> <p> <d> .", "<b> <q> <d> ."},
		{"what comes is there", chain, "<a> <q> <c> . <a> <p> <b> . <b> <p> <c> .", ""},
		{"one of two that come is there", chain, "<a> <q> <a> . <a> <p> <b> . <b> <p> <a> .", "<b> <q> <b> ."},
		{"what comes is what is told", readRules("?x <p> ?y . => ?x <p> ?y ."), "<a> <p> <b> .", ""},
		{"a text as S", readRules("?x <p> ?y . => ?y <q> ?x ."), "<a> <p> \"t\" .", ""},
		{"a blank as P", readRules("?x <p> ?y . => ?x ?y ?x ."), "<a> <p> _:b .", ""},
		{"no triple beside one", readRules("?x <p> ?y . => ?y <q> ?x .", "?x <p> ?y . => ?x <q> ?y ."), "<a> <p> \"t\" .", "<a> <q> \"t\" ."},
		{"of two rules one triple", readRules("?x <p> ?y . => <z> <q> <z> .", "?x ?p ?y . => <z> <q> <z> ."), "<a> <p> <b> .", "<z> <q> <z> ."},
		{"of two rows one triple", readRules("?x <p> ?y . ?z <q> ?w . => <z> <q> ?w ."), "<a> <p> <b> . <a> <p> <c> . <a> <q> <w> .", "<z> <q> <w> ."},
		{"a row that is new, and a head that came before", readRules("?x <p> ?y . => <z> <q> <z> ."), "<a> <p> <b> . <a> <p> <c> .", "<z> <q> <z> ."},
		{"in order, not by rule", readRules("?x <p> ?y . => <z> <q> ?y .", "?x <p> ?y . => <y> <q> ?y .", "?x <p> ?y . => <x> <q> ?y ."), "<a> <p> <b> .", "<x> <q> <b> . <y> <q> <b> . <z> <q> <b> ."},
		{"no variables", readRules("<a> <p> <b> . <b> <p> <a> . => <z> <q> \"z\" ."), "<b> <p> <a> . <a> <p> <b> .", "<z> <q> \"z\" ."},
		{"a triple beside a rule without variables", readRules("<a> <p> <b> . => <z> <q> \"z\" ."), "<a> <p> <b> . <b> <p> <a> .", ""},
		{"one variable three times", readRules("?x ?x ?x . => ?x <q> ?x ."), "<a> <a> <b> . <a> <a> <a> .", "<a> <q> <a> ."},
	} {
		n := mustNew(t, c.rules)
		var facts, heads []triple
		ok := true
		for _, x := range readPatterns(c.told) {
			facts = inOrder(append(facts, x))
			n, heads, ok = impl.ReteAdd(n, x)
			wantNet(t, c.what, n, ok, plainNet(c.rules, facts))
		}
		wantTriples(t, c.what, heads, ok, inOrder(readPatterns(c.heads)))
	}
}

// A net that is told triples one by one, and some of what comes of them, has just the rows and heads that the document's sentences give.
func TestANetIsToldManyTriples(t *testing.T) {
	dice := rand.New(rand.NewSource(37))
	told, made, refused := 0, 0, 0
	for range 70 {
		rules := rulesBy(dice, 1+dice.Intn(4))
		n := mustNew(t, rules)
		l := slices.Concat(graphBy(dice, knot()), strangersTo(dice), chosen(knot(), 1<<dice.Intn(11)))
		dice.Shuffle(len(l), func(i, j int) { l[i], l[j] = l[j], l[i] })
		for i := 0; i < len(l); i++ {
			x := l[i]
			facts := inOrder(append(slices.Clone(n.Facts), x))
			if !plainRoom(facts, rules) {
				wantRefusedTriple(t, "too many rows", n, x)
				refused++
				break
			}
			more, heads, ok := impl.ReteAdd(n, x)
			wantNet(t, "told", more, ok, plainNet(rules, facts))
			wantTriples(t, "heads", heads, ok, plainHeads(rules, n.Facts, facts))
			if t.Failed() {
				t.Fatalf("ReteAdd(%v, %v)", n, x)
			}
			n, told, made = more, told+1, made+len(heads)
			if len(heads) > 0 && dice.Intn(3) > 0 {
				l = append(l, heads[dice.Intn(len(heads)):]...)
			}
		}
	}
	if told < 800 || made < 500 || refused < 3 {
		t.Errorf("%d told, %d made, %d refused", told, made, refused)
	}
}

// someNet has memories of 4, 3, 4 and 4 rows.
func someNet() rete {
	rules := readRules("?x <p> ?y . ?y <p> ?z . => ?x <q> ?z .", "?b <p> ?a . <a> <r> \"t\" . => ?a <q> ?b .")
	return plainNet(rules, readPatterns("<a> <p> <b> . <a> <p> <c> . <a> <r> \"t\" . <b> <p> <c> . <c> <p> <d> ."))
}

func TestMemoriesThatAreNotRight(t *testing.T) {
	if n := someNet(); !impl.ReteOk(n) || len(n.Mems[1].Rows) != 3 || len(n.Mems[3].Rows) != 4 {
		t.Fatal(n)
	}
	for why, change := range map[string]func(n *rete){
		"none":                      func(n *rete) { n.Mems = nil },
		"one too few":               func(n *rete) { n.Mems = n.Mems[:3] },
		"the first missing":         func(n *rete) { n.Mems = n.Mems[1:] },
		"one too many":              func(n *rete) { n.Mems = append(n.Mems, n.Mems[3]) },
		"an empty one too many":     func(n *rete) { n.Mems = append(n.Mems, memory{}) },
		"an empty one first":        func(n *rete) { n.Mems = slices.Insert(n.Mems, 0, memory{}) },
		"two in each other's place": func(n *rete) { n.Mems[0], n.Mems[1] = n.Mems[1], n.Mems[0] },
		"of two rules":              func(n *rete) { n.Mems[0], n.Mems[2] = n.Mems[2], n.Mems[0] },
		"rules in another order":    func(n *rete) { n.Mems = slices.Concat(n.Mems[2:], n.Mems[:2]) },
		"patterns ahead of rules":   func(n *rete) { n.Mems[1], n.Mems[2] = n.Mems[2], n.Mems[1] },
	} {
		n := someNet()
		change(&n)
		wantWrongNet(t, why, n)
	}
}

func TestMemoriesWithRowsThatAreNotRight(t *testing.T) {
	changes := map[string]func(m *memory){
		"none":                 func(m *memory) { m.Rows = nil },
		"the first missing":    func(m *memory) { m.Rows = m.Rows[1:] },
		"the last missing":     func(m *memory) { m.Rows = m.Rows[:len(m.Rows)-1] },
		"the last twice":       func(m *memory) { m.Rows = append(m.Rows, m.Rows[len(m.Rows)-1]) },
		"the first twice":      func(m *memory) { m.Rows = slices.Insert(m.Rows, 0, m.Rows[0]) },
		"one more":             func(m *memory) { m.Rows = append(m.Rows, readRow("?x=<z> ?y=<z>")) },
		"an empty one first":   func(m *memory) { m.Rows = slices.Insert(m.Rows, 0, nil) },
		"an empty one last":    func(m *memory) { m.Rows = append(m.Rows, nil) },
		"an empty one instead": func(m *memory) { m.Rows[1] = nil },
		"turned round":         func(m *memory) { slices.Reverse(m.Rows) },
		"two changed":          func(m *memory) { m.Rows[0], m.Rows[1] = m.Rows[1], m.Rows[0] },
		"another term":         func(m *memory) { m.Rows[1][0].Term = "<z>" },
		"no term":              func(m *memory) { m.Rows[0][1].Term = "" },
		"another variable":     func(m *memory) { m.Rows[0][0].Var = "?0" },
		"a pair too few":       func(m *memory) { m.Rows[0] = m.Rows[0][1:] },
		"a pair too many":      func(m *memory) { m.Rows[2] = append(m.Rows[2], pair{Var: "?zz", Term: "<a>"}) },
		"pairs turned round":   func(m *memory) { slices.Reverse(m.Rows[2]) },
		"a pair twice":         func(m *memory) { m.Rows[2] = slices.Insert(m.Rows[2], 0, m.Rows[2][0]) },
	}
	for why, change := range changes {
		for i := range someNet().Mems {
			n := someNet()
			change(&n.Mems[i])
			wantWrongNet(t, why, n)
		}
	}
}

func TestANetWithOtherRulesOrFacts(t *testing.T) {
	right := someNet()
	for i, x := range right.Facts {
		n := someNet()
		n.Facts = slices.Delete(n.Facts, i, i+1)
		wantWrongNet(t, "a triple too few: "+textOf(x), n)
	}
	for _, s := range []string{"<0> <p> <0> .", "<d> <p> <a> .", "<a> <r> <t> .", "_:a <z> \"z\" ."} {
		n := someNet()
		n.Facts = inOrder(append(n.Facts, readPatterns(s)...))
		if fits := plainNet(n.Rules, n.Facts); sameNet(n, fits) != impl.ReteOk(n) {
			t.Errorf("a triple more: %s", s)
		}
	}
	for why, change := range map[string]func(n *rete){
		"no rules":              func(n *rete) { n.Rules = nil },
		"the first rule alone":  func(n *rete) { n.Rules = n.Rules[:1] },
		"a rule more":           func(n *rete) { n.Rules = append(n.Rules, n.Rules[0]) },
		"rules turned round":    func(n *rete) { slices.Reverse(n.Rules) },
		"patterns turned round": func(n *rete) { slices.Reverse(n.Rules[1].Body) },
		"another pattern":       func(n *rete) { n.Rules[0].Body[1].O = "?y" },
		"another variable":      func(n *rete) { n.Rules[0].Body[1].O = "?zz" },
		"a pattern less":        func(n *rete) { n.Rules[1].Body = n.Rules[1].Body[:1] },
		"facts turned round":    func(n *rete) { slices.Reverse(n.Facts) },
		"a fact twice":          func(n *rete) { n.Facts = slices.Insert(n.Facts, 2, n.Facts[2]) },
		"no facts":              func(n *rete) { n.Facts = nil },
	} {
		n := someNet()
		change(&n)
		wantWrongNet(t, why, n)
	}
	other := someNet()
	other.Rules[0].Head = triple{S: "?z", P: "<q>", O: "\"t\""}
	if !impl.ReteOk(other) {
		t.Error("memories do not tell of heads")
	}
}

func TestANetOfFactsThatAreNotARightGraph(t *testing.T) {
	for why, g := range wrongGraphs() {
		wantWrongNet(t, why, rete{Facts: g})
		wantWrongNet(t, why, plainNet(readRules("?x <none> ?y . => ?x <p> ?y ."), g))
		wantWrongNet(t, why, plainNet(readRules("?x ?p ?y . => ?x <p> ?y ."), g))
	}
	for _, g := range [][]triple{nil, smallWorld(), manyTriples(80)} {
		for _, rules := range [][]rule{nil, readRules("?x ?p ?y . => ?x <p> ?y .")} {
			if !impl.ReteOk(plainNet(rules, g)) {
				t.Errorf("%d triples, %d rules", len(g), len(rules))
			}
		}
	}
}

func TestANetIsToldWhatIsNoTriple(t *testing.T) {
	for _, n := range []rete{{}, someNet(), mustNew(t, impl.OwlRules()), plainNet(nil, manyTriples(80))} {
		for _, x := range wrongTriples() {
			wantRefusedTriple(t, textOf(x), n, x)
		}
	}
}

func TestANetOfEightyTriples(t *testing.T) {
	all := manyTriples(81)
	for _, rules := range [][]rule{nil, readRules("?x <p> ?y . => ?x <p> ?y ."), readRules("?x ?p ?y . => <z> <z> <z> .")} {
		full := plainNet(rules, all[:80])
		for _, x := range all[:80] {
			got, heads, ok := impl.ReteAdd(full, x)
			wantNet(t, "one of 80", got, ok, full)
			wantTriples(t, "one of 80", heads, ok, nil)
		}
		wantRefusedTriple(t, "an 81st", full, all[80])
		got, heads, ok := impl.ReteAdd(plainNet(rules, all[:79]), all[79])
		wantNet(t, "an 80th", got, ok, full)
		wantTriples(t, "an 80th", heads, ok, plainHeads(rules, all[:79], all[:80]))
	}
}

func TestMemoriesOfThreeHundredRows(t *testing.T) {
	const two = "<a> <p> ?x . <a> <q> ?y . "
	for _, c := range []struct {
		what string
		m, n int
		rule string
		told string
		fits bool
	}{
		{"just 300", 15, 19, two + "=> ?x <r> ?y .", "<a> <q> <new> .", true},
		{"just 300 by the first pattern", 14, 20, two + "=> ?x <r> ?y .", "<a> <p> <new> .", true},
		{"301", 7, 42, two + "=> ?x <r> ?y .", "<a> <q> <new> .", false},
		{"301 by the first pattern", 6, 43, two + "=> ?x <r> ?y .", "<a> <p> <new> .", false},
		{"301 rows of one head", 7, 42, two + "=> <z> <r> <z> .", "<a> <q> <new> .", false},
		{"315 behind 300", 15, 20, two + "=> ?x <r> ?y .", "<a> <q> <new> .", false},
		{"300 stay 300", 15, 20, two + "=> ?x <r> ?y .", "<a> <r> <new> .", true},
		{"300 in the middle", 15, 19, two + "?y <q> ?x . => ?x <r> ?y .", "<a> <q> <new> .", true},
		{"301 in the middle, none at the end", 7, 42, two + "?y <q> ?x . => ?x <r> ?y .", "<a> <q> <new> .", false},
		{"none ahead of what would be too many", 7, 42, "?x <none> ?y . " + two + "=> ?x <r> ?y .", "<a> <q> <new> .", true},
		{"324 of a triple that fits both", 17, 0, "?v <p> ?w . ?x <p> ?y . => ?v <r> ?y .", "<a> <p> <new> .", false},
		{"289 of a triple that fits both", 16, 0, "?v <p> ?w . ?x <p> ?y . => ?v <r> ?y .", "<a> <p> <new> .", true},
		{"256 of four patterns", 3, 0, "?a ?b ?c . ?d ?e ?f . ?g ?h ?i . ?j ?k ?l . => ?a ?e ?l .", "<a> <p> <new> .", true},
		{"625 of four patterns", 4, 0, "?a ?b ?c . ?d ?e ?f . ?g ?h ?i . ?j ?k ?l . => ?a ?e ?l .", "<a> <p> <new> .", false},
	} {
		for _, rules := range [][]rule{readRules(c.rule), append(numberedRules(29), readRule(c.rule)), append(readRules(c.rule), numberedRules(3)...)} {
			old, x := plainNet(rules, twoKinds(c.m, c.n)), readPatterns(c.told)[0]
			facts := inOrder(append(twoKinds(c.m, c.n), x))
			if !impl.ReteOk(old) || impl.ReteOk(plainNet(rules, facts)) != c.fits {
				t.Errorf("%s: ReteOk", c.what)
			}
			if !c.fits {
				wantRefusedTriple(t, c.what, old, x)
				wantWrongNet(t, c.what, plainNet(rules, facts))
				continue
			}
			got, heads, ok := impl.ReteAdd(old, x)
			wantNet(t, c.what, got, ok, plainNet(rules, facts))
			wantTriples(t, c.what, heads, ok, plainHeads(rules, twoKinds(c.m, c.n), facts))
		}
	}
}

// A triple may make more than a graph has room for: that is told, and not put in.
func TestMoreComesThanThereIsRoomFor(t *testing.T) {
	rules := readRules("<a> <p> ?x . <a> <q> ?y . <z> <z> <z> . => ?x <r> ?y .")
	got, heads, ok := impl.ReteAdd(plainNet(rules, twoKinds(15, 20)), triple{S: "<z>", P: "<z>", O: "<z>"})
	facts := append(twoKinds(15, 20), triple{S: "<z>", P: "<z>", O: "<z>"})
	wantNet(t, "300 heads", got, ok, plainNet(rules, facts))
	if len(heads) != 300 || !slices.Equal(heads, inOrder(heads)) {
		t.Errorf("%d heads", len(heads))
	}
}
