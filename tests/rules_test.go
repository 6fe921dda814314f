package tests

import (
	"math/rand"
	"regexp"
	"slices"
	"strings"
	"testing"

	"loop.example/g00420/impl"
)

type rule = impl.Rule

func sameRule(a, b rule) bool { return a.Head == b.Head && slices.Equal(a.Body, b.Body) }

// readRule reads as readPatterns does, with the head last.
func readRule(s string) rule {
	body, head, _ := strings.Cut(s, "=>")
	return rule{Body: readPatterns(body), Head: readPatterns(head)[0]}
}

// wrongRules is one of each way in which a rule is not right.
func wrongRules() map[string]rule {
	right := readPatterns("?x <p> ?y . ?y <p> ?z .")
	list := map[string]rule{
		"nothing":                    {},
		"no body":                    {Head: right[0]},
		"no body, no variables":      {Head: triple{S: "<a>", P: "<p>", O: "<b>"}},
		"no head":                    {Body: right},
		"five patterns":              {Body: slices.Repeat(right[:1], 5), Head: right[0]},
		"five with a head of few":    {Body: slices.Repeat(right[:1], 5), Head: triple{S: "<a>", P: "<p>", O: "<b>"}},
		"an S that the body has not": {Body: right, Head: triple{S: "?w", P: "<p>", O: "?x"}},
		"a P that the body has not":  {Body: right, Head: triple{S: "?x", P: "?p", O: "?x"}},
		"an O that the body has not": {Body: right, Head: triple{S: "?x", P: "<p>", O: "?xy"}},
		"a part of a name":           {Body: readPatterns("?xy <p> <a> ."), Head: triple{S: "?x", P: "<p>", O: "<a>"}},
		"a variable in a text":       {Body: []triple{{S: "<a>", P: "<p>", O: "\"?x\""}}, Head: triple{S: "?x", P: "<p>", O: "<a>"}},
	}
	for _, p := range wrongPatterns() {
		list["the body has "+textOf(p)] = rule{Body: []triple{right[0], p}, Head: right[0]}
		list["the body is "+textOf(p)] = rule{Body: []triple{p}, Head: triple{S: "<a>", P: "<p>", O: "<b>"}}
		list["the head is "+textOf(p)] = rule{Body: append(right, triple{S: "?p", P: "?P", O: "?O"}), Head: p}
		list["the head of a right body is "+textOf(p)] = rule{Body: right, Head: p}
	}
	return list
}

// rightRules has rules of 1 to 4 patterns with all that is awkward in a text.
func rightRules() []rule {
	list := []rule{
		readRule("?x <sub> ?y . ?y <sub> ?z . => ?x <sub> ?z ."),
		readRule("?x ?p ?y . => ?y ?p ?x ."),
		readRule("?p ?p ?p . => _:b ?p \"t\" ."),
		readRule("<a> <p> <b> . => <a> <p> <b> ."),
		readRule("_:a ?a \"\" . _:b <p> _:c . ?9 <p> ?10 . ?x <p> ?y . => ?10 ?a ?9 ."),
		readRule("?a ?b ?c . ?d ?e ?f . ?g ?h ?i . ?j ?k ?l . => ?l ?a ?f ."),
		{Body: []triple{{S: "?x", P: "<p>", O: "\" . => \""}, {S: "?y", P: "<p>", O: "\"\\\" . \\\\\""}}, Head: triple{S: "?x", P: "<p>", O: "\"=> ?x <p> ?\""}},
		{Body: []triple{{S: "?x", P: "<p>", O: "\"a \\n  .\""}}, Head: triple{S: "<:/#>", P: "<0>", O: "\" \""}},
	}
	for _, text := range wordsOver("\" .\n=\\", 3) {
		o := "\"" + impl.Escaped(text) + "\""
		list = append(list, rule{Body: []triple{{S: "?x", P: "<p>", O: o}}, Head: triple{S: "?x", P: "<p>", O: o}})
	}
	return list
}

// plainRuleText is the document's sentence about RuleText of a right rule.
func plainRuleText(r rule) string {
	var words []string
	for _, p := range r.Body {
		words = append(words, p.S, p.P, p.O, ".")
	}
	return strings.Join(append(words, "=>", r.Head.S, r.Head.P, r.Head.O, "."), " ")
}

func TestTheRulesThatAreRight(t *testing.T) {
	for _, r := range rightRules() {
		if !impl.RuleOk(r) {
			t.Errorf("%v is right", r)
		}
	}
	for why, r := range wrongRules() {
		if impl.RuleOk(r) || impl.RuleText(r) != "" {
			t.Error("a rule that is not right: " + why)
		}
		if got, ok := impl.Fired(knot(), r); ok || len(got) != 0 {
			t.Errorf("%s: Fired = %v, %v", why, got, ok)
		}
	}
	for n := range 8 {
		for _, head := range readPatterns("?x <p> ?x . <a> <p> \"t\" .") {
			r := rule{Body: slices.Repeat(readPatterns("?x <p> ?y ."), n), Head: head}
			if impl.RuleOk(r) != (n >= 1 && n <= 4) {
				t.Errorf("%d patterns", n)
			}
		}
	}
	if impl.MaxRules != 30 {
		t.Error("MaxRules")
	}
}

func TestRightRulesComeBackFromTheirTexts(t *testing.T) {
	for _, r := range rightRules() {
		s := impl.RuleText(r)
		if s != plainRuleText(r) {
			t.Errorf("RuleText(%v) = %q", r, s)
		}
		if got, ok := impl.ReadRule(s); !ok || !sameRule(got, r) {
			t.Errorf("ReadRule(%q) = %v, %v", s, got, ok)
		}
	}
	dice := rand.New(rand.NewSource(15))
	right := 0
	for range 3000 {
		r := rule{Body: patternsBy(dice, dice.Intn(6)), Head: patternsBy(dice, 1)[0]}
		s := plainRuleText(r)
		got, ok := impl.ReadRule(s)
		if ok != impl.RuleOk(r) || ok && (!sameRule(got, r) || impl.RuleText(r) != s) || !ok && (!sameRule(got, rule{}) || impl.RuleText(r) != "") {
			t.Errorf("ReadRule(%q) = %v, %v", s, got, ok)
		}
		if ok {
			right++
		}
	}
	if right < 500 || right > 2500 {
		t.Errorf("%d rules are right", right)
	}
}

func TestTheTextsOfAFewRules(t *testing.T) {
	for _, s := range []string{
		"?x <sub> ?y . ?y <sub> ?z . => ?x <sub> ?z .",
		"<a> <p> <b> . => <a> <p> <b> .",
		"?x ?p \"a . => b\" . => _:b ?p ?x .",
	} {
		r, ok := impl.ReadRule(s)
		if !ok || impl.RuleText(r) != s {
			t.Errorf("ReadRule(%q) = %v, %v", s, r, ok)
		}
	}
	r, ok := impl.ReadRule("?x ?p \"a . => b\" . => _:b ?p ?x .")
	if want := (rule{Body: []triple{{S: "?x", P: "?p", O: "\"a . => b\""}}, Head: triple{S: "_:b", P: "?p", O: "?x"}}); !ok || !sameRule(r, want) {
		t.Error(r)
	}
}

func refusesRules(t *testing.T, list ...string) {
	t.Helper()
	for _, s := range list {
		if got, ok := impl.ReadRule(s); ok || !sameRule(got, rule{}) {
			t.Errorf("ReadRule(%q) = %v, %v", s, got, ok)
		}
	}
}

func TestReadRuleReadsNothingElse(t *testing.T) {
	refusesRules(t, "", " ", ".", "=>", " => ", "=> .", "<a> <p> <b> .", "=> <a> <p> <b> .", " => <a> <p> <b> .", "<a> <p> <b> . =>", "<a> <p> <b> . => ", "<a> <p> <b> => <a> <p> <b> .", "<a> <p> <b> . => <a> <p> <b>",
		"<a> <p> <b> . <a> <p> <b> .", "<a> <p> <b> . -> <a> <p> <b> .", "<a> <p> <b> . > <a> <p> <b> .", "<a> <p> <b> . => => <a> <p> <b> .", "<a> <p> <b> . => <a> <p> <b> . => <a> <p> <b> .", "<a> <p> <b> . => <a> <p> <b> . <a> <p> <b> .",
		"<a> <p> <b>. => <a> <p> <b> .", "<a> <p> <b> .=> <a> <p> <b> .", "<a> <p> <b> . =><a> <p> <b> .", "<a> <p> <b> . => <a> <p> <b>.", "<a> <p> <b> , => <a> <p> <b> .", "<a> <p> <b> . => <a> <p> <b> ,", "<a> <p> <b> ; <q> <c> . => <a> <p> <b> .",
		"<a> <p> . => <a> <p> <b> .", "<a> <p> <b> <c> . => <a> <p> <b> .", "<a> a <b> . => <a> a <b> .", "<a> <p> \"t . => <a> <p> <b> .", "<a> <p> t\" . => <a> <p> <b> .", "<a> <p> \"\"\" . => <a> <p> <b> .", "<a> <p> \"a\nb\" . => <a> <p> <b> .",
		"<a> <p> \"t\". => <a> <p> <b> .", "<a> <p> \"t\" . => <a> <p> \"t\".", "<a> <p> \"t\" \"t\" . => <a> <p> <b> .", "<a>\t<p> <b> . => <a> <p> <b> .", "<a> <p> <b> .\n=> <a> <p> <b> .", "<a> <p> <b> . => <a> <p> <b> .\n", "<a> <p> \"\\\" . => <a> <p> <b> .")
	for _, r := range wrongRules() {
		refusesRules(t, plainRuleText(r))
	}
	for _, r := range rightRules()[:8] {
		s := plainRuleText(r)
		refusesRules(t, s+" ", " "+s, s+"\n", s+".", s+" .", strings.Replace(s, " ", "  ", 1), s+s, s+" "+s, strings.ReplaceAll(s, " ", "\n"), s+"\x00")
	}
}

const (
	plainName    = `<[a-z0-9:/#]{1,12}>`
	plainLabel   = `(?:_:|\?)[a-z0-9]{1,6}`
	plainVar     = `\?[a-z0-9]{1,6}`
	plainPattern = `(?:` + plainName + `|` + plainLabel + `) (?:` + plainName + `|` + plainVar + `) (?:` + plainName + `|` + plainLabel + `|"(?:[ !#-\[\]-~]|\\"|\\\\|\\n){0,12}") \.`
)

var (
	ruleShape  = regexp.MustCompile(`\A((?:` + plainPattern + ` ){1,4})=> (` + plainPattern + `)\z`)
	quotedPart = regexp.MustCompile(`"(?:[^"\\]|\\.)*"`)
	varPart    = regexp.MustCompile(plainVar)
)

// plainRule tells by a pattern of the whole text whether a right rule has it.
func plainRule(s string) bool {
	parts := ruleShape.FindStringSubmatch(s)
	if parts == nil {
		return false
	}
	body := varPart.FindAllString(quotedPart.ReplaceAllString(parts[1], ""), -1)
	for _, name := range varPart.FindAllString(quotedPart.ReplaceAllString(parts[2], ""), -1) {
		if !slices.Contains(body, name) {
			return false
		}
	}
	return true
}

// Whatever is read of a text with a byte more, less or other is what the document says of it.
func TestReadRuleOfTextsThatAreNearlyRight(t *testing.T) {
	read := 0
	for _, r := range rightRules()[:8] {
		s := plainRuleText(r)
		for i := range len(s) + 1 {
			for _, c := range []string{"", " ", "\n", "\"", "\\", ".", "=", ">", "<", ":", "?", "a", "A", "\xff"} {
				near := []string{s[:i] + c + s[i:], s[:i], s[i:]}
				if i < len(s) {
					near = append(near, s[:i]+c+s[i+1:])
				}
				for _, n := range near {
					got, ok := impl.ReadRule(n)
					if ok != plainRule(n) || ok && (!impl.RuleOk(got) || plainRuleText(got) != n) || !ok && !sameRule(got, rule{}) {
						t.Fatalf("ReadRule(%q) = %v, %v", n, got, ok)
					}
					if ok {
						read++
					}
				}
			}
		}
	}
	if read < 300 {
		t.Errorf("only %d texts are read", read)
	}
}

// No right rule has a text of 1000 bytes: of texts about that long none is read, and the longest that there is comes back.
func TestATextOfAThousandBytes(t *testing.T) {
	long := triple{S: "<abcdefghijkl>", P: "<abcdefghijkl>", O: "\"" + strings.Repeat("\\\"", 12) + "\""}
	longest := rule{Body: slices.Repeat([]triple{long}, 4), Head: long}
	s := impl.RuleText(longest)
	if s != plainRuleText(longest) || len(s) < 290 {
		t.Fatal(s)
	}
	if got, ok := impl.ReadRule(s); !ok || !sameRule(got, longest) {
		t.Error(got, ok)
	}
	pattern := "<a> <p> <b> . "
	short := pattern + "=> <a> <p> <b> ."
	for _, n := range []int{999, 1000, 1001, 100000} {
		room := n - len(short)
		refusesRules(t, short+strings.Repeat(" ", room), strings.Repeat(" ", room)+short, strings.Repeat(pattern, n)[:room]+short, strings.Repeat(pattern, n)[:n], strings.Repeat("\"", n), strings.Repeat("\\", n), strings.Repeat(" ", n), "<a> <p> \""+strings.Repeat("a", room)+"\" . => <a> <p> <b> .")
	}
	refusesRules(t, strings.Repeat(pattern, 69)+short, strings.Repeat(pattern, 70)+short, strings.Repeat(short, 1000000))
}

// plainFired is the document's sentence about Fired, where no limit is met.
func plainFired(g []triple, r rule) []triple {
	var l []triple
	for _, row := range plainSolutions(g, r.Body, nil) {
		x := plainFilled(row, r.Head)
		s, p, o := plainKind(x.S), plainKind(x.P), plainKind(x.O)
		right := isOneOf(s, impl.TmName, impl.TmBlank) && p == impl.TmName && isOneOf(o, impl.TmName, impl.TmText, impl.TmBlank)
		if right && !slices.Contains(g, x) {
			l = append(l, x)
		}
	}
	slices.SortFunc(l, func(a, b triple) int {
		return strings.Compare(a.S+"\x00"+a.P+"\x00"+a.O, b.S+"\x00"+b.P+"\x00"+b.O)
	})
	return slices.Compact(l)
}

func TestFiredOfAFewRules(t *testing.T) {
	g := knot()
	for s, want := range map[string]string{
		"?x <p> ?y . => ?y <q> ?x .":               "<a> <q> <a> . <a> <q> <b> . <p> <q> <p> . _:b <q> <a> . _:b <q> _:b .",
		"?x <p> ?y . => ?x <p> ?y .":               "",
		"?x <p> ?y . => <a> <a> <a> .":             "",
		"?x <p> ?y . => <z> <z> \"z\" .":           "<z> <z> \"z\" .",
		"?x <p> <none> . => <z> <z> <z> .":         "",
		"<a> <p> <a> . => <z> <z> <z> .":           "<z> <z> <z> .",
		"<a> <p> <c> . => <z> <z> <z> .":           "",
		"?x <p> ?y . => <z> ?x ?y .":               "<z> <a> \"t\" . <z> <a> <a> . <z> <a> _:b . <z> <b> <a> . <z> <p> <p> .",
		"?x <p> \"t\" . => ?x ?x ?x .":             "",
		"_:b ?p ?x . => <z> <z> ?x .":              "<z> <z> \"t\" . <z> <z> _:b .",
		"_:b ?p ?x . => ?x ?p ?x .":                "",
		"<a> <p> ?x . => ?x <p> \"t\" .":           "",
		"<a> <p> ?x . => ?x <p> \"u\" .":           "<a> <p> \"u\" . _:b <p> \"u\" .",
		"?x ?x ?x . ?y <a> <p> . => ?x ?y \"v\" .": "<a> <b> \"v\" . <p> <b> \"v\" .",
		"?x <a> ?y . ?y ?z ?z . => ?z ?y _:new .":  "<a> <a> _:new . <p> <p> _:new .",
	} {
		r := readRule(s)
		got, ok := impl.Fired(g, r)
		if !ok || !slices.Equal(got, readPatterns(want)) {
			t.Errorf("%s: %v, %v, want %s", s, got, ok, want)
		}
	}
	for _, r := range rightRules()[:3] {
		if got, ok := impl.Fired(nil, r); !ok || len(got) != 0 {
			t.Errorf("no triples: %v, %v", got, ok)
		}
	}
}

func TestWhatARuleMakesIsNewAndIsItsHeadByARow(t *testing.T) {
	dice := rand.New(rand.NewSource(17))
	made := 0
	for range 4000 {
		g := graphBy(dice, knot())
		r := rule{Body: patternsBy(dice, 1+dice.Intn(3)), Head: patternsBy(dice, 1)[0]}
		if !impl.RuleOk(r) {
			continue
		}
		got, ok := impl.Fired(g, r)
		if want := plainFired(g, r); !ok || !slices.Equal(got, want) {
			t.Fatalf("Fired(%v, %v) = %v, %v, want %v", g, r, got, ok, want)
		}
		rows, _ := impl.Solutions(g, r.Body)
		for _, x := range got {
			if !impl.TripleOk(x) || slices.Contains(g, x) || !slices.ContainsFunc(rows, func(row []pair) bool { return impl.Filled(row, r.Head) == x }) {
				t.Fatalf("Fired(%v, %v) has %v", g, r, x)
			}
		}
		made += len(got)
	}
	if made < 1000 {
		t.Errorf("only %d triples are made", made)
	}
}

func TestARuleMakesAtMostThreeHundredTriples(t *testing.T) {
	for _, c := range []struct {
		m, n int
		rule string
		want int
	}{
		{15, 20, "<a> <p> ?x . <a> <q> ?y . => ?x <r> ?y .", 300},
		{7, 43, "<a> <p> ?x . <a> <q> ?y . => ?x <r> ?y .", -1},
		{7, 43, "<a> <p> ?x . <a> <q> ?y . => <z> <r> <z> .", -1},
		{7, 43, "<a> <p> ?x . <a> <q> ?y . ?x <q> ?y . => <z> <r> <z> .", -1},
		{7, 43, "<a> <p> ?x . ?x <q> ?y . <a> <q> ?y . => <z> <r> <z> .", 0},
		{15, 20, "<a> <p> ?x . <a> <q> ?y . => ?y <r> ?y .", 20},
		{15, 20, "<a> <p> ?x . <a> <q> ?y . => <a> <q> ?x .", 0},
		{20, 15, "<a> <p> ?x . <a> <q> ?y . => <a> <q> ?x .", 5},
		{40, 40, "?a ?b ?c . => ?c ?b ?a .", 80},
		{40, 40, "?a ?b ?c . => <a> <r> ?c .", 40},
		{9, 9, "<a> <p> ?x . <a> <q> ?y . => ?y <r> ?x .", 81},
	} {
		got, ok := impl.Fired(twoKinds(c.m, c.n), readRule(c.rule))
		if c.want < 0 {
			if ok || len(got) != 0 {
				t.Errorf("%s: %d triples, %v", c.rule, len(got), ok)
			}
			continue
		}
		inOrder := slices.IsSortedFunc(got, func(a, b triple) int {
			return strings.Compare(a.S+"\x00"+a.P+"\x00"+a.O, b.S+"\x00"+b.P+"\x00"+b.O)
		})
		if !ok || len(got) != c.want || !inOrder || len(slices.Compact(slices.Clone(got))) != c.want {
			t.Errorf("%s: %d triples, %v, want %d", c.rule, len(got), ok, c.want)
		}
	}
}

func TestFiredOfWhatIsNotRight(t *testing.T) {
	for why, g := range wrongGraphs() {
		for _, r := range append(rightRules()[:4], rule{}) {
			if got, ok := impl.Fired(g, r); ok || len(got) != 0 {
				t.Errorf("%s: Fired = %v, %v", why, got, ok)
			}
		}
	}
	for why, r := range wrongRules() {
		for _, g := range [][]triple{nil, knot(), manyTriples(80)} {
			if got, ok := impl.Fired(g, r); ok || len(got) != 0 {
				t.Errorf("%s: Fired = %v, %v", why, got, ok)
			}
		}
	}
}
