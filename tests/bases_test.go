package tests

import (
	"math"
	"math/rand"
	"slices"
	"testing"

	"loop.example/g00420/impl"
)

type (
	base = impl.Base
	kact = impl.KAct
)

func sameBase(a, b base) bool {
	return sameRules(a.Rules, b.Rules) && slices.Equal(a.Given, b.Given) && slices.Equal(a.All, b.All)
}

func wantBase(t *testing.T, what string, got base, code int64, want base, wantCode int64) {
	t.Helper()
	if code != wantCode || !sameBase(got, want) {
		t.Errorf("%s: %v, %d, want %v, %d", what, got, code, want, wantCode)
	}
	if !impl.BaseOk(got) {
		t.Errorf("%s: %v is no base", what, got)
	}
}

// plainBase gives a right base of a right graph and right rules that have a closure.
func plainBase(rules []rule, g []triple) base {
	all, ok := plainClosure(g, rules)
	if !ok {
		panic("no closure")
	}
	return base{Rules: rules, Given: g, All: all}
}

// plainDo is the document's sentence about BaseDo, of a right base.
func plainDo(b base, a kact) (base, int64) {
	given := without(b.Given, []triple{a.Triple})
	switch {
	case a.Kind != 1 && a.Kind != 2, !impl.TripleOk(a.Triple):
		return b, 2
	case a.Kind == 2 && len(given) == len(b.Given):
		return b, 3
	case a.Kind == 1:
		given = inOrder(append(given, a.Triple))
	}
	all, ok := plainClosure(given, b.Rules)
	if !ok || len(given) > 80 {
		return b, 4
	}
	return base{Rules: b.Rules, Given: given, All: all}, 0
}

func add(s string) kact { return kact{Kind: 1, Triple: readPatterns(s)[0]} }

func drop(s string) kact { return kact{Kind: 2, Triple: readPatterns(s)[0]} }

// wantWrongBase asks all functions of the chapter, also for what would change nothing and for what would be refused.
func wantWrongBase(t *testing.T, what string, b base) {
	t.Helper()
	if impl.BaseOk(b) {
		t.Errorf("%s: BaseOk(%v)", what, b)
	}
	some := append(readPatterns("<new> <new> <new> ."), triple{})
	some = slices.Concat(some, b.Given[:min(len(b.Given), 2)], b.All[:min(len(b.All), 2)])
	for _, x := range some {
		for _, kind := range []int64{0, 1, 2, 3} {
			got, code := impl.BaseDo(b, kact{Kind: kind, Triple: x})
			if code != 1 || !sameBase(got, base{}) {
				t.Errorf("%s: BaseDo: %v, %d", what, got, code)
			}
		}
		got, codes := impl.BasePlay(b, []kact{{Kind: 1, Triple: x}, {}})
		if len(codes) != 0 || !sameBase(got, base{}) {
			t.Errorf("%s: BasePlay: %v, %v", what, got, codes)
		}
		list, ok := impl.Why(b, x)
		wantNoTriples(t, what+": Why", list, ok)
	}
	if got, codes := impl.BasePlay(b, nil); len(codes) != 0 || !sameBase(got, base{}) {
		t.Errorf("%s: BasePlay of no acts: %v, %v", what, got, codes)
	}
}

func TestTheCodesOfBases(t *testing.T) {
	got := []int64{impl.KbDone, impl.KbWrong, impl.KbForm, impl.KbNone, impl.KbFull, impl.KbAdd, impl.KbDrop}
	if want := []int64{0, 1, 2, 3, 4, 1, 2}; !slices.Equal(got, want) {
		t.Error(got)
	}
}

func TestABaseWithRulesAndNothingElse(t *testing.T) {
	for n := range 34 {
		got, ok := impl.BaseNew(numberedRules(n))
		if n <= 30 {
			wantBase(t, "many rules", got, 0, base{Rules: numberedRules(n)}, 0)
		}
		if ok != (n <= 30) || !ok && !sameBase(got, base{}) {
			t.Errorf("%d rules: %v, %v", n, got, ok)
		}
	}
	for why, r := range wrongRules() {
		for i := range 3 {
			if got, ok := impl.BaseNew(slices.Insert(numberedRules(2), i, r)); ok || !sameBase(got, base{}) {
				t.Errorf("%s: %v, %v", why, got, ok)
			}
		}
	}
	for _, rules := range [][]rule{nil, {}, impl.OwlRules(), rightRules()[:6], slices.Repeat(numberedRules(1), 30)} {
		got, ok := impl.BaseNew(rules)
		wantBase(t, "BaseNew", got, 0, base{Rules: rules}, 0)
		if !ok {
			t.Error(rules)
		}
	}
}

// someBase has three triples that are given, and five more that are made.
func someBase() base {
	rules := readRules("?x <p> ?y . ?y <p> ?z . => ?x <p> ?z .", "?x <p> ?y . => ?y <q> ?x .")
	b := plainBase(rules, readPatterns("<a> <p> <b> . <b> <p> <c> . <c> <o> \"t\" ."))
	if len(b.All) != 7 {
		panic("another closure")
	}
	return b
}

func TestBasesThatAreRight(t *testing.T) {
	b := someBase()
	for what, c := range map[string]base{
		"nothing":               {},
		"empty lists":           {Rules: []rule{}, Given: []triple{}, All: []triple{}},
		"no rules":              {Given: b.All, All: b.All},
		"some":                  b,
		"all of it given":       {Rules: b.Rules, Given: b.All, All: b.All},
		"rules the other way":   {Rules: []rule{b.Rules[1], b.Rules[0]}, Given: b.Given, All: b.All},
		"30 rules":              plainBase(numberedRules(30), readPatterns("<a> <p> <b> .")),
		"80 given":              {Given: manyTriples(80), All: manyTriples(80)},
		"80 in all":             plainBase(readRules("?x <p> ?y . => ?x <q> ?y ."), twoKinds(40, 0)),
		"80 in all, some given": plainBase(readRules("?x <p> ?y . => ?x <q> ?y ."), twoKinds(40, 7)),
		"300 rows":              plainBase(readRules("<a> <p> ?x . <a> <q> ?y . => <a> <p> <aa> ."), twoKinds(15, 20)),
	} {
		if !impl.BaseOk(c) {
			t.Errorf("%s: %v", what, c)
		}
		got, codes := impl.BasePlay(c, nil)
		wantBase(t, what, got, int64(len(codes)), c, 0)
	}
}

func TestBasesThatAreNotRight(t *testing.T) {
	for why, change := range map[string]func(b *base){
		"not closed":              func(b *base) { b.All = b.Given },
		"nothing in all":          func(b *base) { b.All = nil },
		"nothing given":           func(b *base) { b.Given = nil },
		"no rules":                func(b *base) { b.Rules = nil },
		"a rule too few":          func(b *base) { b.Rules = b.Rules[:1] },
		"a rule that makes more":  func(b *base) { b.Rules = append(b.Rules, readRules("?x <o> ?y . => ?x <q> ?y .")...) },
		"a rule that is none":     func(b *base) { b.Rules = append(b.Rules, rule{}) },
		"one too many, closed":    func(b *base) { b.All = inOrder(append(b.All, readPatterns("<z> <z> <z> .")...)) },
		"one too many, not right": func(b *base) { b.All = append(b.All, triple{S: "_:b", P: "<p>", O: "?x"}) },
		"the last one twice":      func(b *base) { b.All = append(b.All, b.All[6]) },
		"turned round":            func(b *base) { slices.Reverse(b.All) },
		"two in unlike places":    func(b *base) { b.All[2], b.All[3] = b.All[3], b.All[2] },
		"another one":             func(b *base) { b.All[6].O = "\"u\"" },
		"given out of order":      func(b *base) { b.Given[0], b.Given[1] = b.Given[1], b.Given[0] },
		"one given twice":         func(b *base) { b.Given = append(b.Given, b.Given[2]) },
		"one given, not in all":   func(b *base) { b.Given = append(b.Given, readPatterns("<c> <o> <u> .")...) },
		"given, and no triple":    func(b *base) { b.Given = append(b.Given, triple{S: "_:b", P: "<p>", O: "?x"}) },
		"something else is given": func(b *base) { b.Given[2].O = "<t>" },
		"given and all in places": func(b *base) { b.Given, b.All = b.All, b.Given },
	} {
		b := someBase()
		change(&b)
		wantWrongBase(t, why, b)
	}
	for i, x := range someBase().All {
		b := someBase()
		b.All = slices.Delete(b.All, i, i+1)
		wantWrongBase(t, "all without "+textOf(x), b)
	}
	for i, x := range someBase().Given {
		b := someBase()
		b.Given = slices.Delete(b.Given, i, i+1)
		wantWrongBase(t, "not given: "+textOf(x), b)
	}
}

func TestBasesOfListsThatAreNotRight(t *testing.T) {
	for why, g := range wrongGraphs() {
		wantWrongBase(t, why, base{Given: g, All: g})
		wantWrongBase(t, "all: "+why, base{All: g})
		wantWrongBase(t, "given: "+why, base{Given: g})
		wantWrongBase(t, "given: "+why, base{Given: g, All: inOrder(g)})
	}
	for why, r := range wrongRules() {
		wantWrongBase(t, why, base{Rules: []rule{r}})
		wantWrongBase(t, why, base{Rules: append(someBase().Rules, r), Given: someBase().Given, All: someBase().All})
	}
	for _, n := range []int{31, 32, 100} {
		wantWrongBase(t, "too many rules", base{Rules: numberedRules(n)})
		wantWrongBase(t, "one rule too many times", base{Rules: slices.Repeat(readRules("?x <z> ?y . => ?y <z> ?x ."), n), Given: knot(), All: knot()})
	}
	pairs := readRules("<a> <p> ?x . <a> <q> ?y . => <a> <p> <aa> .")
	wantWrongBase(t, "301 rows", base{Rules: pairs, Given: twoKinds(7, 43), All: twoKinds(7, 43)})
	wantWrongBase(t, "301 rows in all", base{Rules: pairs, Given: twoKinds(7, 42), All: twoKinds(7, 43)})
	full := readRules("?x <p> ?y . => ?x <q> ?y .")
	wantWrongBase(t, "82 triples", base{Rules: full, Given: twoKinds(41, 0), All: twoKinds(41, 41)})
	wantWrongBase(t, "82 triples, 80 of them", base{Rules: full, Given: twoKinds(41, 0), All: twoKinds(41, 39)})
	wantWrongBase(t, "nothing where there is no closure", base{Rules: full, Given: twoKinds(41, 0)})
}

func TestABaseThatIsTold(t *testing.T) {
	b := someBase()
	for _, c := range []struct {
		what string
		a    kact
		code int64
		all  string
	}{
		{"added, and nothing comes of it", add("<x> <o> <y> ."), 0, "<a> <p> <b> . <a> <p> <c> . <b> <p> <c> . <b> <q> <a> . <c> <o> \"t\" . <c> <q> <a> . <c> <q> <b> . <x> <o> <y> ."},
		{"added, and something comes of it", add("<d> <p> \"t\" ."), 0, "<a> <p> <b> . <a> <p> <c> . <b> <p> <c> . <b> <q> <a> . <c> <o> \"t\" . <c> <q> <a> . <c> <q> <b> . <d> <p> \"t\" ."},
		{"added, in two rounds", add("<c> <p> _:d ."), 0, "<a> <p> <b> . <a> <p> <c> . <a> <p> _:d . <b> <p> <c> . <b> <p> _:d . <b> <q> <a> . <c> <o> \"t\" . <c> <p> _:d . <c> <q> <a> . <c> <q> <b> . _:d <q> <a> . _:d <q> <b> . _:d <q> <c> ."},
		{"added, and given already", add("<a> <p> <b> ."), 0, textOfAll(b.All)},
		{"added, and made already", add("<a> <p> <c> ."), 0, textOfAll(b.All)},
		{"dropped", drop("<c> <o> \"t\" ."), 0, "<a> <p> <b> . <a> <p> <c> . <b> <p> <c> . <b> <q> <a> . <c> <q> <a> . <c> <q> <b> ."},
		{"dropped, and what came of it", drop("<b> <p> <c> ."), 0, "<a> <p> <b> . <b> <q> <a> . <c> <o> \"t\" ."},
		{"dropped, and made, not given", drop("<a> <p> <c> ."), 3, ""},
		{"dropped, and not there", drop("<z> <z> <z> ."), 3, ""},
		{"kind 0", kact{Triple: b.Given[0]}, 2, ""},
		{"kind 3", kact{Kind: 3, Triple: b.Given[0]}, 2, ""},
		{"kind -1", kact{Kind: -1, Triple: b.Given[0]}, 2, ""},
		{"the least kind", kact{Kind: math.MinInt64, Triple: b.Given[0]}, 2, ""},
		{"the greatest kind", kact{Kind: math.MaxInt64, Triple: b.Given[0]}, 2, ""},
		{"a kind by its low bits", kact{Kind: 1<<32 + 1, Triple: b.Given[0]}, 2, ""},
		{"kind 3 of what is not there", kact{Kind: 3, Triple: triple{S: "<z>", P: "<z>", O: "<z>"}}, 2, ""},
		{"nothing at all", kact{}, 2, ""},
	} {
		want := b
		if c.code == 0 {
			want = base{Rules: b.Rules, Given: inOrder(append(without(b.Given, []triple{c.a.Triple}), c.a.Triple)), All: inOrder(readPatterns(c.all))}
			if c.a.Kind == 2 {
				want.Given = without(b.Given, []triple{c.a.Triple})
			}
		}
		got, code := impl.BaseDo(b, c.a)
		wantBase(t, c.what, got, code, want, c.code)
		plain, code := plainDo(b, c.a)
		wantBase(t, c.what+", told plainly", plain, code, want, c.code)
	}
	for _, x := range append(wrongTriples(), b.Rules[0].Head, triple{S: "\"t\"", P: "<p>", O: "<c>"}) {
		for kind := range int64(5) {
			got, code := impl.BaseDo(b, kact{Kind: kind, Triple: x})
			wantBase(t, "no triple: "+textOf(x), got, code, b, 2)
			got, code = impl.BaseDo(base{}, kact{Kind: kind, Triple: x})
			wantBase(t, "no triple, nothing given: "+textOf(x), got, code, base{}, 2)
		}
	}
}

func TestABaseOfEightyTriples(t *testing.T) {
	all := manyTriples(81)
	for _, b := range []base{{Given: all[:80], All: all[:80]}, {Rules: numberedRules(30), Given: all[:80], All: all[:80]}} {
		got, code := impl.BaseDo(b, kact{Kind: 1, Triple: all[80]})
		wantBase(t, "an 81st", got, code, b, 4)
		for i, x := range all[:80] {
			got, code = impl.BaseDo(b, kact{Kind: 1, Triple: x})
			wantBase(t, "one of 80", got, code, b, 0)
			got, code = impl.BaseDo(b, kact{Kind: 2, Triple: x})
			less := slices.Delete(slices.Clone(all[:80]), i, i+1)
			wantBase(t, "79 of 80", got, code, base{Rules: b.Rules, Given: less, All: less}, 0)
			got, code = impl.BaseDo(got, kact{Kind: 1, Triple: x})
			wantBase(t, "80 again", got, code, b, 0)
		}
		// Whether an act has a form is asked first, and then whether there is something to be dropped.
		got, code = impl.BaseDo(b, kact{Kind: 3, Triple: all[80]})
		wantBase(t, "kind 3 in a full base", got, code, b, 2)
		got, code = impl.BaseDo(b, kact{Kind: 1})
		wantBase(t, "no triple in a full base", got, code, b, 2)
		got, code = impl.BaseDo(b, kact{Kind: 2, Triple: all[80]})
		wantBase(t, "none to drop from a full base", got, code, b, 3)
	}
}

func TestABaseWhoseClosureIsFull(t *testing.T) {
	both, square := readRules("?x <p> ?y . => ?x <q> ?y ."), readRules("?a <p> ?b . ?c <p> ?d . => <a> <p> <aa> .")
	for _, c := range []struct {
		what  string
		rules []rule
		g     []triple
		x     string
		code  int64
	}{
		{"78 become 80", both, twoKinds(39, 0), "<b> <p> <b> .", 0},
		{"79 become 80, by one that nothing comes of", both, twoKinds(39, 40), "<b> <q> <b> .", 0},
		{"79 become 81", both, twoKinds(39, 40), "<b> <p> <b> .", 4},
		{"79 become 80, by one the head of which is there", both, twoKinds(38, 41), "<a> <p> <bo> .", 0},
		{"80 become 81", both, twoKinds(40, 0), "<b> <q> <b> .", 4},
		{"80 become 82", both, twoKinds(40, 0), "<b> <p> <b> .", 4},
		{"80 stay 80, by one that is made", both, twoKinds(40, 0), "<a> <q> <aa> .", 0},
		{"80 stay 80, by one that is given", both, twoKinds(40, 0), "<a> <p> <aa> .", 0},
		{"256 rows become 289", square, twoKinds(16, 0), "<b> <p> <b> .", 0},
		{"289 rows become 324", square, twoKinds(17, 0), "<b> <p> <b> .", 4},
		{"289 rows stay 289", square, twoKinds(17, 0), "<b> <q> <b> .", 0},
		{"324 rows, in the second round", append(square, readRules("?x <q> ?y . => ?x <p> ?y .")...), twoKinds(17, 0), "<b> <q> <b> .", 4},
		{"289 rows, in the second round", append(square, readRules("?x <q> ?y . => ?x <p> ?y .")...), twoKinds(16, 0), "<b> <q> <b> .", 0},
	} {
		b := plainBase(c.rules, c.g)
		want, code := plainDo(b, add(c.x))
		if code != c.code {
			t.Fatalf("%s: %d, told plainly", c.what, code)
		}
		got, code := impl.BaseDo(b, add(c.x))
		wantBase(t, c.what, got, code, want, c.code)
		if c.code == 4 && !sameBase(got, b) {
			t.Errorf("%s: the base is not as it was: %v", c.what, got)
		}
	}
}

func TestPlaysAtTheEdges(t *testing.T) {
	b := someBase()
	acts := []kact{add("<x> <o> <y> ."), {}, drop("<a> <p> <c> ."), add("<c> <p> <d> ."), drop("<a> <p> <b> ."), drop("<a> <p> <b> ."), add("<a> <p> <b> .")}
	got, codes := impl.BasePlay(b, acts)
	want := plainBase(b.Rules, readPatterns("<a> <p> <b> . <b> <p> <c> . <c> <o> \"t\" . <c> <p> <d> . <x> <o> <y> ."))
	wantBase(t, "refused between two that are done", got, int64(len(codes)), want, 7)
	if !slices.Equal(codes, []int64{0, 2, 3, 0, 0, 3, 0}) {
		t.Error(codes)
	}
	got, codes = impl.BasePlay(b, []kact{})
	wantBase(t, "no acts", got, int64(len(codes)), b, 0)
	for n := 98; n <= 103; n++ {
		for _, a := range []kact{{}, add("<x> <o> <y> ."), drop("<c> <o> \"t\" .")} {
			got, codes := impl.BasePlay(b, slices.Repeat([]kact{a}, n))
			if n > 100 {
				if len(codes) != 0 || !sameBase(got, base{}) {
					t.Errorf("%d acts: %v, %v", n, got, codes)
				}
				continue
			}
			once, code := plainDo(b, a)
			_, again := plainDo(once, a)
			wantBase(t, "many acts", got, int64(len(codes)), once, int64(n))
			if wantCodes := append([]int64{code}, slices.Repeat([]int64{again}, n-1)...); !slices.Equal(codes, wantCodes) {
				t.Errorf("%d acts: %v, want %v", n, codes, wantCodes)
			}
		}
	}
	got, codes = impl.BasePlay(base{}, slices.Repeat([]kact{{}}, 101))
	if len(codes) != 0 || !sameBase(got, base{}) {
		t.Error("101 acts of nothing", got, codes)
	}
}

// A base that is full has room again when something is dropped.
func TestAPlayInAFullBase(t *testing.T) {
	b := plainBase(readRules("?x <p> ?y . => ?x <q> ?y ."), twoKinds(40, 0))
	acts := []kact{add("<b> <p> <b> ."), drop("<a> <p> <ab> ."), add("<b> <p> <b> ."), add("<c> <o> <c> ."), drop("<a> <q> <ac> ."), drop("<b> <p> <b> ."), add("<c> <o> <c> ."), add("<c> <p> <c> ."), add("<c> <o> <d> ."), add("<c> <o> <e> .")}
	want, wantCodes := b, []int64{4, 0, 0, 4, 3, 0, 0, 4, 0, 4}
	for i, a := range acts {
		var code int64
		if want, code = plainDo(want, a); code != wantCodes[i] {
			t.Fatal(i, code)
		}
	}
	got, codes := impl.BasePlay(b, acts)
	wantBase(t, "a full base", got, 0, want, 0)
	if !slices.Equal(codes, wantCodes) {
		t.Error(codes)
	}
}

func actsBy(dice *rand.Rand, n int) []kact {
	var acts []kact
	for range n {
		a := kact{Kind: 1 + int64(dice.Intn(4)/3), Triple: knot()[dice.Intn(len(knot()))]}
		switch dice.Intn(12) {
		case 0:
			a.Kind = int64(dice.Intn(6) - 2)
		case 1:
			a.Triple = wrongTriples()[dice.Intn(len(wrongTriples()))]
		}
		acts = append(acts, a)
	}
	return acts
}

func TestABaseHasWhatIsGivenAndItsClosure(t *testing.T) {
	dice := rand.New(rand.NewSource(71))
	counts := map[int64]int{}
	for range 50 {
		rules := rulesBy(dice, dice.Intn(8))
		start, ok := impl.BaseNew(rules)
		want, acts := base{Rules: rules}, actsBy(dice, 25)
		wantBase(t, "BaseNew", start, 0, want, 0)
		var wantCodes []int64
		now := start
		for _, a := range acts {
			plain, plainCode := plainDo(want, a)
			got, code := impl.BaseDo(now, a)
			wantBase(t, "BaseDo", got, code, plain, plainCode)
			if !ok || t.Failed() {
				t.Fatalf("BaseDo(%v, %v)", now, a)
			}
			now, want, wantCodes = got, plain, append(wantCodes, plainCode)
			counts[code]++
		}
		got, codes := impl.BasePlay(start, acts)
		wantBase(t, "BasePlay", got, 0, want, 0)
		if !slices.Equal(codes, wantCodes) {
			t.Fatalf("BasePlay(%v, %v): %v, want %v", start, acts, codes, wantCodes)
		}
	}
	if counts[0] < 300 || counts[2] < 50 || counts[3] < 100 || counts[4] < 20 || counts[1] != 0 {
		t.Error(counts)
	}
}

func TestWhatIsGivenAndTakenAwayAgainLeavesAllAsItWas(t *testing.T) {
	dice := rand.New(rand.NewSource(73))
	added, dropped := 0, 0
	for range 150 {
		rules, g := rulesBy(dice, 1+dice.Intn(4)), graphBy(dice, knot())
		if _, fits := plainClosure(g, rules); !fits {
			continue
		}
		b := plainBase(rules, g)
		for _, x := range knot() {
			to, from := kact{Kind: 1, Triple: x}, kact{Kind: 2, Triple: x}
			if slices.Contains(g, x) {
				to, from = from, to
			}
			got, codes := impl.BasePlay(b, []kact{to, from})
			if _, code := plainDo(b, to); code != 0 {
				// Then it is not given, and there is none to be taken away.
				wantBase(t, "refused", got, codes[1], b, 3)
				continue
			}
			wantBase(t, "there and back", got, codes[0]+codes[1], b, 0)
			if to.Kind == 1 {
				added++
			} else {
				dropped++
			}
		}
		if t.Failed() {
			t.Fatal(b)
		}
	}
	if added < 200 || dropped < 200 {
		t.Errorf("%d added, %d dropped", added, dropped)
	}
}

// A triple that is given and made may be dropped, and is still there then.
func TestWhatIsMadeStaysWhenItIsGivenNoMore(t *testing.T) {
	b := someBase()
	for _, x := range without(b.All, b.Given) {
		got, codes := impl.BasePlay(b, []kact{{Kind: 1, Triple: x}, {Kind: 2, Triple: x}, {Kind: 2, Triple: x}})
		wantBase(t, textOf(x), got, 0, b, 0)
		if !slices.Equal(codes, []int64{0, 0, 3}) {
			t.Error(textOf(x), codes)
		}
	}
}
