package tests

import (
	"math/rand"
	"regexp"
	"slices"
	"strings"
	"testing"

	"loop.example/g00420/impl"
)

type query = impl.Query

func sameQuery(a, b query) bool {
	return slices.Equal(a.Vars, b.Vars) && slices.Equal(a.Where, b.Where) && slices.Equal(a.Also, b.Also)
}

// aQuery reads names, patterns and patterns; no term has a blank in it.
func aQuery(vars, where, also string) query {
	return query{Vars: strings.Fields(vars), Where: readPatterns(where), Also: readPatterns(also)}
}

// rightQueries has queries of all sizes with all that is awkward in a text.
func rightQueries() []query {
	some := strings.Repeat("?x <p> ?y . ", 4)
	list := []query{
		aQuery("?x", "?x <type> ?c .", ""),
		aQuery("?x ?c", "?x <type> ?c .", "?c <sub> ?d ."),
		aQuery("?d", "?x <type> ?c .", "?c <sub> ?d ."),
		aQuery("?d ?e", "<a> <p> <b> .", "?d ?e \"t\" ."),
		aQuery("?p", "?p ?p ?p .", "_:b ?p \"t\" . <a> <p> \"\" ."),
		aQuery("?p", "<a> ?p <b> .", ""),
		aQuery("?10 ?9", "_:a <p> ?9 . ?10 <p> _:b .", "?new <p> ?9 ."),
		aQuery("?x", some, some),
		aQuery("?y", some, ""),
		aQuery("?l ?a ?x ?g", "?a ?b ?c . ?d ?e ?f . ?g ?h ?i . ?j ?k ?l .", "?m ?n ?o . ?p ?q ?r . ?s ?t ?u . ?v ?w ?x ."),
		aQuery("?where ?also ?select", "?where <p> ?also .", "?select <where> <also> ."),
		{Vars: []string{"?x"}, Where: []triple{{S: "?x", P: "<p>", O: "\"a also b\""}, {S: "?x", P: "<p>", O: "\" . where \""}}, Also: []triple{{S: "?x", P: "<p>", O: "\" . also ?\""}}},
		{Vars: []string{"?x"}, Where: []triple{{S: "?x", P: "<p>", O: "\" also \""}}},
		{Vars: []string{"?x"}, Where: []triple{{S: "?x", P: "<p>", O: "\"\\\" . also \\\\\""}}, Also: []triple{{S: "?x", P: "<p>", O: "\"a \\n  .\""}}},
	}
	for _, text := range wordsOver("\" .\n=\\", 3) {
		o := "\"" + impl.Escaped(text) + "\""
		list = append(list, query{Vars: []string{"?x"}, Where: []triple{{S: "?x", P: "<p>", O: o}}, Also: []triple{{S: "?x", P: "<q>", O: o}}})
	}
	return list
}

// wrongQueries is one of each way in which a query is not right.
func wrongQueries() map[string]query {
	right := readPatterns("?x <p> ?y . ?y <q> ?z .")
	five := slices.Repeat(right[:1], 5)
	list := map[string]query{
		"nothing":                       {},
		"no patterns":                   {Vars: []string{"?x"}},
		"no Where":                      {Vars: []string{"?x"}, Also: right},
		"no Vars":                       {Where: right, Also: right},
		"no Vars, empty":                {Vars: []string{}, Where: right},
		"no Vars, and no variables":     {Where: readPatterns("<a> <p> <b> .")},
		"five Vars":                     aQuery("?a ?b ?c ?d ?e", "?a ?b ?c . ?d ?e ?f .", ""),
		"many Vars":                     {Vars: slices.Repeat([]string{"?x"}, 100), Where: right},
		"two Vars alike":                aQuery("?x ?x", "?x <p> ?y .", ""),
		"two Vars alike, others too":    aQuery("?x ?y ?z ?x", "?x <p> ?y . ?y <q> ?z .", ""),
		"two Vars of Also alike":        aQuery("?z ?x ?z", "?x <p> ?y .", "?y <p> ?z ."),
		"a Var that stands in neither":  aQuery("?w", "?x <p> ?y .", "?y <p> ?z ."),
		"the last Var in neither":       aQuery("?x ?y ?z ?w", "?x <p> ?y .", "?y <p> ?z ."),
		"a Var in neither, and no Also": aQuery("?z", "?x <p> ?y .", ""),
		"a part of a name":              aQuery("?x", "?xy <p> <a> .", "?ax <p> <b> ."),
		"more than a name":              aQuery("?xy", "?x <p> ?y .", ""),
		"a Var in a text":               {Vars: []string{"?x"}, Where: []triple{{S: "<a>", P: "<p>", O: "\"?x\""}}},
		"Where of five":                 {Vars: []string{"?x"}, Where: five},
		"Where of many":                 {Vars: []string{"?x"}, Where: slices.Repeat(right, 100)},
		"Also of five":                  {Vars: []string{"?x"}, Where: right, Also: five},
		"Where and Also of five":        {Vars: []string{"?x"}, Where: five, Also: five},
		"Also of five, Where of none":   {Vars: []string{"?x"}, Also: five},
	}
	for word, kind := range wordsByKind() {
		if kind != impl.TmVar {
			for _, vars := range [][]string{{word}, {"?x", word}, {word, "?y", "?x"}} {
				where := append(readPatterns("?x <p> ?y . <a> <a> \"a\" . _:a <a> \"\" ."), triple{S: "?x", P: "<p>", O: word})
				list["Vars "+strings.Join(vars, " and ")] = query{Vars: vars, Where: where[:3], Also: right}
				list["Vars that stand there "+strings.Join(vars, " and ")] = query{Vars: vars, Where: where}
			}
		}
	}
	for _, p := range wrongPatterns() {
		list["Where is "+textOf(p)] = query{Vars: []string{"?x"}, Where: []triple{p}, Also: right}
		list["Where has "+textOf(p)] = query{Vars: []string{"?x"}, Where: []triple{right[0], p}}
		list["Where has, ahead, "+textOf(p)] = query{Vars: []string{"?x"}, Where: []triple{p, right[0]}, Also: right}
		list["Also is "+textOf(p)] = query{Vars: []string{"?x"}, Where: right, Also: []triple{p}}
		list["Also has "+textOf(p)] = query{Vars: []string{"?x"}, Where: right, Also: []triple{right[0], right[1], p}}
	}
	return list
}

// plainQueryText is the document's sentence about QueryText of a right query.
func plainQueryText(q query) string {
	words := append([]string{"select"}, q.Vars...)
	words = append(words, "where")
	for _, p := range q.Where {
		words = append(words, p.S, p.P, p.O, ".")
	}
	if len(q.Also) > 0 {
		words = append(words, "also")
	}
	for _, p := range q.Also {
		words = append(words, p.S, p.P, p.O, ".")
	}
	return strings.Join(words, " ")
}

func TestTheQueriesThatAreRight(t *testing.T) {
	for _, q := range rightQueries() {
		if !impl.QueryOk(q) {
			t.Errorf("%v is right", q)
		}
	}
	for why, q := range wrongQueries() {
		if impl.QueryOk(q) || impl.QueryText(q) != "" {
			t.Error("a query that is not right: " + why)
		}
		for _, g := range [][]triple{nil, knot()} {
			got, ok := impl.Answer(g, q)
			wantNoRows(t, why, got, ok)
		}
	}
}

func TestHowMuchAQueryMayHave(t *testing.T) {
	one := readPatterns("?x <p> ?y .")
	for where := range 7 {
		for also := range 7 {
			q := query{Vars: []string{"?x"}, Where: slices.Repeat(one, where), Also: slices.Repeat(one, also)}
			if impl.QueryOk(q) != (where >= 1 && where <= 4 && also <= 4) {
				t.Errorf("%d patterns and %d", where, also)
			}
		}
	}
	names := strings.Fields("?a ?b ?c ?d ?e ?f")
	for n := range 7 {
		for _, q := range []query{aQuery("", "?a ?b ?c . ?d ?e ?f .", ""), aQuery("", "?a ?b ?c .", "?d ?e ?f ."), aQuery("", "<a> <p> <b> .", "?a ?b ?c . ?d ?e ?f .")} {
			q.Vars = names[:n]
			if impl.QueryOk(q) != (n >= 1 && n <= 4) {
				t.Errorf("%d Vars: %v", n, q)
			}
		}
	}
}

// Where the Vars stand: in Where alone, in Also alone, in both, in neither.
func TestWhereTheVarsOfAQueryStand(t *testing.T) {
	q := aQuery("", "?a ?p \"t\" . _:b <p> ?both .", "?both <p> ?o . ?s ?q <a> .")
	there := strings.Fields("?a ?p ?both ?o ?s ?q")
	for _, name := range append(there, strings.Fields("?b ?t ?n ?bo ?bot ?aa <a> _:b \"t\" <p> a p ?")...) {
		q.Vars = []string{name}
		if impl.QueryOk(q) != slices.Contains(there, name) {
			t.Error(q.Vars)
		}
		for _, other := range there {
			q.Vars = []string{other, name}
			if impl.QueryOk(q) != (slices.Contains(there, name) && name != other) {
				t.Error(q.Vars)
			}
		}
	}
}

// varsIn asks nothing of how many patterns there are.
func varsIn(l []triple) []string {
	var names []string
	for _, p := range l {
		names = append(names, impl.VarsOf([]triple{p})...)
	}
	slices.Sort(names)
	return slices.Compact(names)
}

// queryBy gives queries that are right and ones that are not.
func queryBy(dice *rand.Rand) query {
	q := query{Where: patternsBy(dice, dice.Intn(6)), Also: patternsBy(dice, max(0, dice.Intn(9)-3))}
	names := varsIn(slices.Concat(q.Where, q.Also))
	if dice.Intn(6) == 0 {
		names = append(names, "?w")
	}
	for _, i := range dice.Perm(len(names))[:min(len(names), dice.Intn(5))] {
		q.Vars = append(q.Vars, names[i])
	}
	if dice.Intn(9) == 0 {
		q.Vars = append(q.Vars, "?x")
	}
	return q
}

func TestRightQueriesComeBackFromTheirTexts(t *testing.T) {
	for _, q := range rightQueries() {
		s := impl.QueryText(q)
		if s != plainQueryText(q) {
			t.Errorf("QueryText(%v) = %q", q, s)
		}
		if got, ok := impl.ReadQuery(s); !ok || !sameQuery(got, q) {
			t.Errorf("ReadQuery(%q) = %v, %v", s, got, ok)
		}
	}
	dice := rand.New(rand.NewSource(191))
	right := 0
	for range 4000 {
		q := queryBy(dice)
		s := plainQueryText(q)
		got, ok := impl.ReadQuery(s)
		if ok != impl.QueryOk(q) || ok && (!sameQuery(got, q) || impl.QueryText(q) != s) || !ok && (!sameQuery(got, query{}) || impl.QueryText(q) != "") {
			t.Errorf("ReadQuery(%q) = %v, %v", s, got, ok)
		}
		if ok {
			right++
		}
	}
	if right < 800 || right > 3200 {
		t.Errorf("%d queries are right", right)
	}
}

func TestTheTextsOfAFewQueries(t *testing.T) {
	for s, want := range map[string]query{
		"select ?x where ?x <p> ?y .":                                {Vars: []string{"?x"}, Where: readPatterns("?x <p> ?y .")},
		"select ?y ?x where ?x <p> ?y . ?y <p> ?x .":                 {Vars: []string{"?y", "?x"}, Where: readPatterns("?x <p> ?y . ?y <p> ?x .")},
		"select ?z where ?x <p> ?y . also ?y <p> ?z . ?z <p> _:b .":  {Vars: []string{"?z"}, Where: readPatterns("?x <p> ?y ."), Also: readPatterns("?y <p> ?z . ?z <p> _:b .")},
		"select ?x where ?x <p> \" . also ?x <p>\" .":                {},
		"select ?x where ?x <p> \". also ?x\" . also ?x <q> \"t\" .": {Vars: []string{"?x"}, Where: []triple{{S: "?x", P: "<p>", O: "\". also ?x\""}}, Also: readPatterns("?x <q> \"t\" .")},
		"select ?x where ?x <p> \"where\" .":                         {Vars: []string{"?x"}, Where: readPatterns("?x <p> \"where\" .")},
	} {
		got, ok := impl.ReadQuery(s)
		if ok != (len(want.Vars) > 0) || !sameQuery(got, want) || impl.QueryText(want) != s && ok {
			t.Errorf("ReadQuery(%q) = %v, %v", s, got, ok)
		}
	}
}

func refusesQueries(t *testing.T, list ...string) {
	t.Helper()
	for _, s := range list {
		if got, ok := impl.ReadQuery(s); ok || !sameQuery(got, query{}) {
			t.Errorf("ReadQuery(%q) = %v, %v", s, got, ok)
		}
	}
}

func TestReadQueryReadsNothingElse(t *testing.T) {
	refusesQueries(t, "", " ", ".", "select", "select ", "where", "also", "select where", "select ?x", "select ?x ", "select ?x where", "select ?x where ", "select ?x where .", "select ?x where also", "select ?x where also ?x <p> ?y .", "where ?x <p> ?y .",
		"?x where ?x <p> ?y .", "select where ?x <p> ?y .", "select ?x ?x <p> ?y .", "select ?x where ?x <p> ?y", "select ?x where ?x <p> .", "select ?x where ?x <p>", "select ?x where ?x", "select ?x where ?x <p> ?y ?y .", "select ?x where ?x <p> ?y ,", "select ?x where ?x <p> ?y . .", "select ?x where . ?x <p> ?y .",
		"select ?x where ?x <p> ?y . also", "select ?x where ?x <p> ?y . also ", "select ?x where ?x <p> ?y . also .", "select ?x where ?x <p> ?y . also ?x", "select ?x where ?x <p> ?y . also ?x <p> ?y", "select ?x where ?x <p> ?y . also also", "select ?x where ?x <p> ?y . also also ?x <p> ?y .", "select ?x where ?x <p> ?y . also ?x <p> ?y . also ?x <p> ?y .", "select ?x where ?x <p> ?y . where ?x <p> ?y .", "select ?x where ?x <p> ?y . ?x <p> ?y . ?x <p> ?y . ?x <p> ?y . ?x <p> ?y .",
		"Select ?x where ?x <p> ?y .", "SELECT ?x WHERE ?x <p> ?y .", "choose ?x where ?x <p> ?y .", "selects ?x where ?x <p> ?y .", "elect ?x where ?x <p> ?y .", "select select ?x where ?x <p> ?y .", "select ?x where where ?x <p> ?y .", "select ?x Where ?x <p> ?y .", "select ?x where ?x <p> ?y . Also ?x <p> ?y .", "select ?x where ?x <p> ?y . and ?x <p> ?y .",
		"select ?x, ?y where ?x <p> ?y .", "select x where ?x <p> ?y .", "select ?x?y where ?x <p> ?y .", "select * where ?x <p> ?y .", "select <a> where <a> <p> ?y .", "select \"t\" where ?x <p> \"t\" .", "select where where where <p> ?y .", "select ?x where ?x where ?y .", "select ?x where ?x <p> also .", "select ?x where ?x also ?y .",
		"select ?x where ?x <p> ?y.", "select ?x where ?x <p> \"t\".", "select ?x where ?x <p> \"t .", "select ?x where ?x <p> t\" .", "select ?x where ?x <p> \"\"\" .", "select ?x where ?x <p> \"a\nb\" .", "select ?x where ?x <p> \"\\\" .", "select ?x where ?x a ?y .", "select ?x\twhere ?x <p> ?y .", "select ?x where ?x <p> ?y .\n", "select ?x where\n?x <p> ?y .", "select ?x where ?x <p> ?y .also ?x <p> ?y .", "select ?x where ?x <p> ?y . => ?x <p> ?y .")
	for _, q := range wrongQueries() {
		refusesQueries(t, plainQueryText(q))
	}
	for _, q := range rightQueries()[:14] {
		s := plainQueryText(q)
		refusesQueries(t, s+" ", " "+s, s+"\n", s+".", s+" .", s+s, s+" "+s, s+" also", s+" where", strings.ReplaceAll(s, " ", "\n"), s+"\x00", s[1:], s[:len(s)-1])
	}
}

var queryShape = regexp.MustCompile(`\Aselect((?: ` + plainVar + `){1,4}) where((?: ` + plainPattern + `){1,4})(?: also((?: ` + plainPattern + `){1,4}))?\z`)

// plainQuery tells by a pattern of the whole text whether a right query has it.
func plainQuery(s string) bool {
	parts := queryShape.FindStringSubmatch(s)
	if parts == nil {
		return false
	}
	there := varPart.FindAllString(quotedPart.ReplaceAllString(parts[2]+parts[3], ""), -1)
	names := strings.Fields(parts[1])
	for i, name := range names {
		if !slices.Contains(there, name) || slices.Contains(names[:i], name) {
			return false
		}
	}
	return true
}

// A blank too many or too few, a word that is wanting, any byte more, less or other: whatever is read of such a text is what the document says of it.
func TestReadQueryOfTextsThatAreNearlyRight(t *testing.T) {
	read := 0
	for _, q := range append(rightQueries()[:7], rightQueries()[10:14]...) {
		s := plainQueryText(q)
		var near []string
		for i := range len(s) + 1 {
			for _, c := range []string{"", " ", "\n", "\"", "\\", ".", ">", "<", ":", "?", "a", "A", "\xff"} {
				near = append(near, s[:i]+c+s[i:], s[:i], s[i:])
				if i < len(s) {
					near = append(near, s[:i]+c+s[i+1:])
				}
			}
		}
		words := strings.Split(s, " ")
		for i := range words {
			near = append(near, strings.Join(slices.Delete(slices.Clone(words), i, i+1), " "), strings.Join(slices.Insert(slices.Clone(words), i, words[i]), " "))
			for j := range i {
				turned := slices.Clone(words)
				turned[i], turned[j] = turned[j], turned[i]
				near = append(near, strings.Join(turned, " "))
			}
		}
		for _, n := range near {
			got, ok := impl.ReadQuery(n)
			if ok != plainQuery(n) || ok && (!impl.QueryOk(got) || plainQueryText(got) != n) || !ok && !sameQuery(got, query{}) {
				t.Fatalf("ReadQuery(%q) = %v, %v", n, got, ok)
			}
			if ok {
				read++
			}
		}
	}
	if read < 500 {
		t.Errorf("only %d texts are read", read)
	}
}

// No right query has a text of 1000 bytes: of texts about that long none is read, and the longest that there is comes back.
func TestAQueryTextOfAThousandBytes(t *testing.T) {
	long := triple{S: "<abcdefghijkl>", P: "<abcdefghijkl>", O: "\"" + strings.Repeat("\\\"", 12) + "\""}
	names := []triple{{S: "?aaaaaa", P: "?bbbbbb", O: long.O}, {S: "?cccccc", P: "?dddddd", O: long.O}}
	longest := query{Vars: strings.Fields("?aaaaaa ?bbbbbb ?cccccc ?dddddd"), Where: append(names, long, long), Also: slices.Repeat([]triple{long}, 4)}
	s := impl.QueryText(longest)
	if s != plainQueryText(longest) || len(s) < 460 {
		t.Fatal(s)
	}
	if got, ok := impl.ReadQuery(s); !ok || !sameQuery(got, longest) {
		t.Error(got, ok)
	}
	pattern, short := " ?x <p> <b> .", "select ?x where ?x <p> ?y ."
	for _, n := range []int{999, 1000, 1001, 100000} {
		room := n - len(short)
		refusesQueries(t, short+strings.Repeat(" ", room), strings.Repeat(" ", room)+short, (short + strings.Repeat(pattern, n))[:n], strings.Repeat("\"", n), strings.Repeat("\\", n), strings.Repeat(" ", n), ("select" + strings.Repeat(" ?x", n))[:n], strings.Repeat("?x ", n)[:n], "select ?x where ?x <p> \""+strings.Repeat("a", room)+"\" .")
		refusesQueries(t, "select ?x where"+strings.Repeat(" ", room)+"?x <p> ?y .")
	}
	refusesQueries(t, short+strings.Repeat(pattern, 75), short+strings.Repeat(pattern, 74), strings.Repeat(short, 1000000), short+" also"+strings.Repeat(pattern, 1000))
}
