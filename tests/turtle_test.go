package tests

import (
	"math/rand"
	"regexp"
	"slices"
	"strings"
	"testing"

	"loop.example/g00420/impl"
)

type prefix = impl.Prefix

// rightPrefixes is one of each kind of list that is right.
func rightPrefixes() [][]prefix {
	return [][]prefix{
		nil,
		{},
		{{Name: "e", Long: "e:"}},
		{{Name: "a", Long: "a"}, {Name: "b", Long: "a"}},
		{{Name: "e", Long: "e:"}, {Name: "x", Long: "e"}},
		{{Name: "0", Long: "abcdefghijkl"}, {Name: "abcd", Long: "abcdefghijk"}},
		{{Name: "a", Long: "t"}, {Name: "b", Long: "ty"}, {Name: "c", Long: "p"}, {Name: "d", Long: "#"}},
		{{Name: "1", Long: ":"}, {Name: "10", Long: "/"}, {Name: "9", Long: "a:/#"}, {Name: "a", Long: "a:"}},
	}
}

// wrongPrefixes is one of each way in which a list is not right.
func wrongPrefixes() map[string][]prefix {
	list := map[string][]prefix{
		"two alike":         {{Name: "a", Long: "x"}, {Name: "a", Long: "x"}},
		"one name twice":    {{Name: "a", Long: "x"}, {Name: "a", Long: "y"}},
		"not in order":      {{Name: "b", Long: "x"}, {Name: "a", Long: "y"}},
		"the last too soon": {{Name: "a", Long: "x"}, {Name: "c", Long: "x"}, {Name: "b", Long: "x"}},
		"numbers by worth":  {{Name: "9", Long: "x"}, {Name: "10", Long: "x"}},
		"five":              {{Name: "a", Long: "x"}, {Name: "b", Long: "x"}, {Name: "c", Long: "x"}, {Name: "d", Long: "x"}, {Name: "e", Long: "x"}},
		"the last is wrong": {{Name: "a", Long: "x"}, {Name: "b", Long: ""}},
	}
	for _, name := range []string{"", "abcde", "A", "a:", ":", "_", "a b", "é", "a\n", "-"} {
		list["the name "+name] = []prefix{{Name: name, Long: "x"}}
	}
	for _, long := range []string{"", "abcdefghijklm", "A", "<a>", "a>", "<", ">", "a b", "_", "é", "a\n", "\""} {
		list["the beginning "+long] = []prefix{{Name: "a", Long: long}}
	}
	return list
}

func TestPrefixesThatAreRight(t *testing.T) {
	for _, l := range rightPrefixes() {
		if !impl.PrefixesOk(l) {
			t.Errorf("%v is right", l)
		}
	}
	for why, l := range wrongPrefixes() {
		if impl.PrefixesOk(l) {
			t.Error("a list that is not right: " + why)
		}
	}
	if impl.MaxPrefixes != 4 {
		t.Error("MaxPrefixes")
	}
}

func TestPrefixesAtTheLimits(t *testing.T) {
	for n := range 20 {
		a := strings.Repeat("a", n)
		if impl.PrefixesOk([]prefix{{Name: a, Long: "x"}}) != (n >= 1 && n <= 4) {
			t.Errorf("a name of %d letters", n)
		}
		if impl.PrefixesOk([]prefix{{Name: "a", Long: a}}) != (n >= 1 && n <= 12) {
			t.Errorf("a beginning of %d letters", n)
		}
		var l []prefix
		for i := range n {
			l = append(l, prefix{Name: string(rune('a' + i)), Long: "x"})
		}
		if impl.PrefixesOk(l) != (n <= 4) {
			t.Errorf("%d prefixes", n)
		}
	}
	for i := range 256 {
		c := string([]byte{byte(i)})
		label := regexp.MustCompile(`\A[a-z0-9]\z`).MatchString(c)
		if impl.PrefixesOk([]prefix{{Name: c, Long: "x"}}) != label || impl.PrefixesOk([]prefix{{Name: "a" + c, Long: "x"}}) != label {
			t.Errorf("a name with %q", c)
		}
		inside := label || c == ":" || c == "/" || c == "#"
		if impl.PrefixesOk([]prefix{{Name: "a", Long: c}}) != inside || impl.PrefixesOk([]prefix{{Name: "a", Long: "a" + c}}) != inside {
			t.Errorf("a beginning with %q", c)
		}
	}
}

// plainShortened is the document's sentence about Shortened, by other means than the program's.
func plainShortened(l []prefix, term string) string {
	if !nameShape.MatchString(term) {
		return term
	}
	var fitting []prefix
	for _, p := range l {
		if regexp.MustCompile(`\A<` + regexp.QuoteMeta(p.Long) + `[a-z0-9]{1,12}>\z`).MatchString(term) {
			fitting = append(fitting, p)
		}
	}
	slices.SortStableFunc(fitting, func(a, b prefix) int { return len(b.Long) - len(a.Long) })
	if len(fitting) == 0 {
		return term
	}
	return fitting[0].Name + ":" + term[1+len(fitting[0].Long):len(term)-1]
}

func TestShortenedTakesTheLongestBeginning(t *testing.T) {
	l := []prefix{{Name: "a", Long: "e:"}, {Name: "b", Long: "e:a"}, {Name: "c", Long: "e:a/"}, {Name: "d", Long: "e:a"}}
	for term, want := range map[string]string{
		"<e:a>":           "a:a",
		"<e:ab>":          "b:b",
		"<e:b>":           "a:b",
		"<e:a/>":          "<e:a/>",
		"<e:a/b>":         "c:b",
		"<e:a/b#>":        "<e:a/b#>",
		"<e:>":            "<e:>",
		"<e>":             "<e>",
		"<f:a>":           "<f:a>",
		"<xe:a>":          "<xe:a>",
		"<e:bcdefghijk>":  "a:bcdefghijk",
		"<e:bcdefghijkl>": "<e:bcdefghijkl>",
	} {
		if got := impl.Shortened(l, term); got != want {
			t.Errorf("Shortened(%q) = %q, want %q", term, got, want)
		}
	}
	for _, word := range []string{"", "e:a", "e:", "a", "<e:a", "e:a>", "<<e:a>>", "\"e:a\"", "\"<e:a>\"", "_:a", "?a", "<e:A>", "<e:a >", " <e:a>", "<e:a>\n", "\xff"} {
		if got := impl.Shortened(l, word); got != word {
			t.Errorf("Shortened(%q) = %q", word, got)
		}
	}
}

func TestARestAtTheLimits(t *testing.T) {
	for long := 1; long <= 12; long++ {
		l := []prefix{{Name: "p", Long: strings.Repeat("a", long)}}
		for rest := range 14 {
			term := "<" + strings.Repeat("a", long+rest) + ">"
			want := term
			if rest >= 1 && long+rest <= 12 {
				want = "p:" + strings.Repeat("a", rest)
			}
			if got := impl.Shortened(l, term); got != want {
				t.Errorf("Shortened(%v, %q) = %q", l, term, got)
			}
			name := "@prefix p: <" + l[0].Long + "> .\n<s> <p> p:" + strings.Repeat("a", rest) + " ."
			var g []triple
			if long+rest <= 12 {
				g = []triple{{S: "<s>", P: "<p>", O: term}}
			}
			checkTurtle(t, name, g, long+rest <= 12)
		}
	}
}

func TestShortenedOfAllShortNames(t *testing.T) {
	for _, l := range rightPrefixes() {
		for _, inside := range wordsOver("aet:/#", 4) {
			term := "<" + inside + ">"
			if got, want := impl.Shortened(l, term), plainShortened(l, term); got != want {
				t.Fatalf("Shortened(%v, %q) = %q, want %q", l, term, got, want)
			}
		}
	}
	for why, l := range wrongPrefixes() {
		for _, term := range []string{"<xa>", "<ya>", "<Aa>", "<>", "<a>", "_:x", "x"} {
			if got := impl.Shortened(l, term); got != term {
				t.Errorf("%s: Shortened(%q) = %q", why, term, got)
			}
		}
	}
}

func TestTurtleTextOfGraphs(t *testing.T) {
	e := []prefix{{Name: "e", Long: "e:"}, {Name: "x", Long: "ty"}}
	head := "@prefix e: <e:> .\n@prefix x: <ty> .\n"
	for _, c := range []struct {
		l    []prefix
		g    string
		want string
	}{
		{nil, "", ""},
		{e, "", head},
		{nil, "<a> <p> <b> .\n", "<a> <p> <b> .\n"},
		{nil, "<a> <p> <b> .\n<b> <p> <b> .\n", "<a> <p> <b> .\n<b> <p> <b> .\n"},
		{nil, "<a> <p> <b> .\n<a> <p> <c> .\n<a> <p> <d> .\n", "<a> <p> <b> , <c> , <d> .\n"},
		{nil, "<a> <p> <b> .\n<a> <q> <b> .\n<a> <r> <b> .\n", "<a> <p> <b> ;\n  <q> <b> ;\n  <r> <b> .\n"},
		{nil, "<a> <p> <b> .\n<a> <p> <c> .\n<a> <q> <c> .\n<b> <q> <c> .\n<b> <q> <d> .\n", "<a> <p> <b> , <c> ;\n  <q> <c> .\n<b> <q> <c> , <d> .\n"},
		{nil, "<a> <type> <type> .\n<type> <type> \"a\" .\n", "<a> a <type> .\n<type> a \"a\" .\n"},
		{e, "<e:a> <e:p> <e:b> .\n<e:a> <type> \"e:b\" .\n<type> <type> <type> .\n_:e <e:> _:e .\n", head + "e:a e:p e:b ;\n  a \"e:b\" .\nx:pe a x:pe .\n_:e <e:> _:e .\n"},
		{nil, "<a> <p> \" ; , . \" .\n<a> <p> \"\\\"\\\\\\n\" .\n", "<a> <p> \" ; , . \" , \"\\\"\\\\\\n\" .\n"},
	} {
		g, ok := impl.ReadGraph(c.g)
		if !ok {
			t.Fatal(c.g)
		}
		if got := impl.TurtleText(c.l, g); got != c.want {
			t.Errorf("TurtleText(%v, %v) = %q, want %q", c.l, g, got, c.want)
		}
	}
}

func TestTurtleTextOfWhatIsNotRight(t *testing.T) {
	for why, l := range wrongPrefixes() {
		for _, g := range [][]triple{nil, smallWorld(), manyTriples(81)} {
			if got := impl.TurtleText(l, g); got != "" {
				t.Errorf("%s: %q", why, got)
			}
		}
	}
	for why, g := range wrongGraphs() {
		for _, l := range rightPrefixes() {
			if got := impl.TurtleText(l, g); got != "" {
				t.Errorf("%s: %q", why, got)
			}
		}
	}
}

func checkTurtle(t *testing.T, s string, want []triple, there bool) {
	t.Helper()
	got, ok := impl.ReadTurtle(s)
	if ok != there || !slices.Equal(got, want) {
		t.Errorf("ReadTurtle(%q) = %v, %v, want %v, %v", s, got, ok, want, there)
	}
}

func refuses(t *testing.T, list ...string) {
	t.Helper()
	for _, s := range list {
		checkTurtle(t, s, nil, false)
	}
}

// awkwardTriples has names that several beginnings fit, <type> in each place and texts full of the marks of turtle.
func awkwardTriples() []triple {
	l := append(smallWorld(),
		triple{S: "<e:a>", P: "<e:a>", O: "<e:a>"}, triple{S: "<e:a>", P: "<type>", O: "<type>"}, triple{S: "<type>", P: "<type>", O: "<e>"},
		triple{S: "<a:/#b>", P: "<a:b>", O: "\" ;\\n . \""}, triple{S: "<#a>", P: "</a>", O: "<:>"}, triple{S: "<abcdefghijkl>", P: "<pq>", O: "\"a , b\""},
		triple{S: "_:e", P: "<e:p>", O: "\"@prefix\""}, triple{S: "_:e", P: "<p>", O: "\"e:a\""})
	slices.SortFunc(l, func(a, b triple) int { return strings.Compare(a.S+"\x00"+a.P+"\x00"+a.O, b.S+"\x00"+b.P+"\x00"+b.O) })
	return l
}

func TestAGraphComesBackWhateverIsShortened(t *testing.T) {
	all := awkwardTriples()
	for _, l := range rightPrefixes() {
		for mask := 0; mask < 1<<len(all); mask += 1 + mask/97 {
			g := chosen(all, mask)
			if !impl.GraphOk(g) {
				t.Fatal(g)
			}
			checkTurtle(t, impl.TurtleText(l, g), g, true)
		}
		for _, n := range []int{1, 79, 80} {
			checkTurtle(t, impl.TurtleText(l, manyTriples(n)), manyTriples(n), true)
		}
	}
}

// The longest text that can be written is still short enough to be read.
func TestTheLongestGraphComesBack(t *testing.T) {
	l := []prefix{{Name: "aaaa", Long: strings.Repeat(":", 12)}, {Name: "bbbb", Long: strings.Repeat(":", 12)}, {Name: "cccc", Long: strings.Repeat(":", 12)}, {Name: "dddd", Long: strings.Repeat(":", 12)}}
	var g []triple
	for i := range 80 {
		g = append(g, triple{S: "<" + string([]byte{byte('a' + i/9), byte('a' + i%9)}) + "cdefghijkl>", P: "<::::::::::::>", O: "\"" + strings.Repeat("\\\\", 12) + "\""})
	}
	s := impl.TurtleText(l, g)
	if want := 4*len("@prefix aaaa: <::::::::::::> .\n") + 80*len(textOf(g[0])+"\n"); len(s) != want {
		t.Fatal(len(s), want)
	}
	checkTurtle(t, s, g, true)
}

var turtleWord = regexp.MustCompile(`(?s)"(?:[^"\\]|\\.)*(?:"|\\?\z)|[^ \n"][^ \n]*`)

// plainTurtle is the document's text about ReadTurtle, taken apart from the points, semicolons and commas inwards.
func plainTurtle(s string) ([]triple, bool) {
	words := turtleWord.FindAllString(s, -1)
	if len(s) > 10000 || len(words) > 0 && words[len(words)-1] != "." {
		return nil, false
	}
	longs, prefixings, found := map[string]string{}, 0, []triple{}
	for _, sentence := range partedBy(words, ".") {
		if len(sentence) > 0 && sentence[0] == "@prefix" {
			prefixings++
			if len(sentence) != 3 || !regexp.MustCompile(`\A[a-z0-9]{1,4}:\z`).MatchString(sentence[1]) || !nameShape.MatchString(sentence[2]) {
				return nil, false
			}
			longs[sentence[1]] = strings.Trim(sentence[2], "<>")
			continue
		}
		l, ok := plainSentence(sentence, longs)
		if !ok {
			return nil, false
		}
		found = append(found, l...)
	}
	slices.SortFunc(found, func(a, b triple) int { return strings.Compare(a.S+"\x00"+a.P+"\x00"+a.O, b.S+"\x00"+b.P+"\x00"+b.O) })
	found = slices.Compact(found)
	if prefixings > 20 || len(found) > 80 {
		return nil, false
	}
	return found, true
}

func plainSentence(words []string, longs map[string]string) ([]triple, bool) {
	if len(words) < 3 {
		return nil, false
	}
	var l []triple
	for _, part := range partedBy(append(slices.Clone(words[1:]), ";"), ";") {
		if len(part) < 2 {
			return nil, false
		}
		predicate := plainTerm(part[0], longs)
		if part[0] == "a" {
			predicate = "<type>"
		}
		for _, objects := range partedBy(append(slices.Clone(part[1:]), ","), ",") {
			if len(objects) != 1 {
				return nil, false
			}
			x := triple{S: plainTerm(words[0], longs), P: predicate, O: plainTerm(objects[0], longs)}
			if !impl.TripleOk(x) {
				return nil, false
			}
			l = append(l, x)
		}
	}
	return l, true
}

func plainTerm(word string, longs map[string]string) string {
	if plainKind(word) != impl.TmNone {
		return word
	}
	i := strings.Index(word, ":") + 1
	long, there := longs[word[:i]]
	if !there {
		return ""
	}
	return "<" + long + word[i:] + ">"
}

// partedBy gives what stands ahead of each mark; nothing may stand behind the last one.
func partedBy(words []string, mark string) [][]string {
	var parts [][]string
	from := 0
	for i, w := range words {
		if w == mark {
			parts = append(parts, words[from:i])
			from = i + 1
		}
	}
	return parts
}

func checkAsPlain(t *testing.T, s string) {
	t.Helper()
	want, there := plainTurtle(s)
	checkTurtle(t, s, want, there)
}

func TestReadTurtleOfAllShortSentences(t *testing.T) {
	words := []string{"<b>", "\"t\"", "a", ",", ";", "."}
	sentences := []string{""}
	for range 6 {
		var next []string
		for _, s := range sentences {
			for _, w := range words {
				next = append(next, s+w+" ")
			}
		}
		sentences = next
		for _, s := range sentences {
			checkAsPlain(t, s)
		}
	}
}

// sentencesBy gives the words of a few sentences that are mostly right.
func sentencesBy(dice *rand.Rand) []string {
	pick := func(words ...string) string { return words[dice.Intn(len(words))] }
	object := func() string { return pick("<b>", "<c>", "_:b", "\"a . b\"", "\"\\\"\"", "p:", "p:c", "q:c") }
	words := []string{"@prefix", "p:", "<p>", ".", "@prefix", "q:", "<q/>", "."}
	for range dice.Intn(4) {
		if dice.Intn(4) == 0 {
			words = append(words, "@prefix", pick("p:", "q:"), pick("<b>", "<c:>"), ".")
		}
		words = append(words, pick("<a>", "_:a", "p:", "q:a"), pick("a", "p:", "<q>"), object())
		for range dice.Intn(5) {
			if dice.Intn(2) == 0 {
				words = append(words, ";", pick("a", "p:", "q:q"))
			} else {
				words = append(words, ",")
			}
			words = append(words, object())
		}
		words = append(words, ".")
	}
	return words
}

func TestReadTurtleOfManySentences(t *testing.T) {
	dice := rand.New(rand.NewSource(3))
	others := []string{"", ".", ",", ";", "a", "?v", "@prefix", "r:", "p", "\"t\"", "_:b", "<b>", "<B>"}
	accepted := 0
	for range 2000 {
		words := sentencesBy(dice)
		checkAsPlain(t, strings.Join(words, " "))
		place := dice.Intn(len(words))
		for _, other := range others {
			words[place] = other
			s := strings.Join(words, "\n")
			checkAsPlain(t, s)
			if g, ok := impl.ReadTurtle(s); ok && len(g) > 4 {
				accepted++
			}
		}
	}
	if accepted < 800 || accepted > 20000 {
		t.Errorf("of the sentences with another word %d are accepted", accepted)
	}
}

// Whatever is read of a text with a byte more, less or other is what the document says of it.
func TestReadTurtleOfTextsThatAreNearlyRight(t *testing.T) {
	l := []prefix{{Name: "e", Long: "e:"}, {Name: "x", Long: "e"}}
	for _, s := range []string{impl.TurtleText(l, awkwardTriples()), "@prefix q: <m/> .\n<a> a q:n , q: ; q:p \"x \\\" \\\\\" .\n@prefix q: <a> . q: q: q: ."} {
		for i := range len(s) + 1 {
			for _, c := range []string{"", " ", "\n", "\"", "\\", ".", ",", ";", ":", "a", "<", ">", "?", "A", "\x00", "\xff", "@"} {
				checkAsPlain(t, s[:i]+c+s[i:])
				if i < len(s) {
					checkAsPlain(t, s[:i]+c+s[i+1:])
				}
			}
			checkAsPlain(t, s[:i])
			checkAsPlain(t, s[i:])
		}
	}
}

func TestReadTurtleOfWordsInQuotes(t *testing.T) {
	for _, text := range append(wordsOver("\"\\\n .;", 4), "a \\ b \" c", " ; , . ", "@prefix e: <", "#", "            ") {
		word := "\"" + impl.Escaped(text) + "\""
		if len(text) > 12 {
			refuses(t, "<a> <p> "+word+" .")
			continue
		}
		checkTurtle(t, "<a> <p> "+word+" .", []triple{{S: "<a>", P: "<p>", O: word}}, true)
		checkTurtle(t, "<a> <p> "+word+" , <a> .", []triple{{S: "<a>", P: "<p>", O: word}, {S: "<a>", P: "<p>", O: "<a>"}}, true)
	}
	for _, s := range wordsOver("\"\\n a.", 5) {
		checkAsPlain(t, "<a> <p> \""+s)
		checkAsPlain(t, "<a> <p> \""+s+" .")
		checkAsPlain(t, "<a> <p> \""+s+"\" .")
	}
	// A word in quotes ends with its last quote, also where no blank stands behind it.
	checkTurtle(t, "<a> <p> \"x\".", []triple{{S: "<a>", P: "<p>", O: "\"x\""}}, true)
	checkTurtle(t, "<a> <p> \"x\", \"y\\\\\"; <q> \"z\".", []triple{{S: "<a>", P: "<p>", O: "\"x\""}, {S: "<a>", P: "<p>", O: "\"y\\\\\""}, {S: "<a>", P: "<q>", O: "\"z\""}}, true)
	refuses(t, "<a> <p> \"", "<a> <p> \" .", "<a> <p> \"x .", "<a> <p> \"x\\\" .", "<a> <p> \"x\\", "<a> <p> \"x\\\"", "<a> <p> \"x\"", "<a> <p> \"x\ny\" .", "<a> <p> \"\ty\" .", "<a> <p> x\"y\" .", "<a> <p> <b>\"y\" .", "<a> <p> \"x\"y .")
}

func TestReadTurtleOfBlanksBetweenWords(t *testing.T) {
	words := []string{"@prefix", "e:", "<b>", ".", "e:", "a", "\"x y\"", ",", "e:1", ";", "<p>", "_:b", "."}
	want := []triple{{S: "<b>", P: "<p>", O: "_:b"}, {S: "<b>", P: "<type>", O: "\"x y\""}, {S: "<b>", P: "<type>", O: "<b1>"}}
	for _, between := range []string{" ", "\n", "  ", "\n\n", " \n ", strings.Repeat(" \n", 100)} {
		for _, front := range []string{"", " ", "\n", "\n \n"} {
			for _, end := range []string{"", " ", "\n", " \n\n"} {
				checkTurtle(t, front+strings.Join(words, between)+end, want, true)
			}
		}
	}
	refuses(t, strings.Join(words, "\t"), strings.Join(words, "\r\n"), strings.Join(words, "\u00a0"), strings.Join(words, ""))
	for _, s := range []string{"", " ", "\n", " \n \n"} {
		checkTurtle(t, s, nil, true)
	}
	refuses(t, "\t", "\r\n", "\x00", ".", " . ", "a")
}

func TestReadTurtleOfPrefixes(t *testing.T) {
	for _, s := range []string{"@prefix e: <x> .", "@prefix 0: <x> .", "@prefix abcd: <abcdefghijkl> .", "@prefix e: <:/#> .\n@prefix e: <x> ."} {
		checkTurtle(t, s, nil, true)
	}
	refuses(t, "@prefix", "@prefix e:", "@prefix e: <x>", "@prefix e: .", "@prefix <x> .", "@prefix e <x> .", "@prefix : <x> .", "@prefix e:: <x> .", "@prefix abcde: <x> .", "@prefix E: <x> .", "@prefix _: <x> .",
		"@prefix e : <x> .", "@prefix e:<x> .", "@prefix e: <x>.", "@prefix e: <> .", "@prefix e: <abcdefghijklm> .", "@prefix e: \"x\" .", "@prefix e: _:x .", "@prefix e: ?x .", "@prefix e: x .", "@prefix e: <x> ;", "@prefix e: <x> , <y> .",
		"@prefix e: <x> . .", "@Prefix e: <x> .", "prefix e: <x> .", "@prefix e: <x> . @prefix f: e:y .", "@prefix e: <x> . <s> <p> @prefix .", "<s> <p> <o> ; @prefix e: <x> .", "<s> <p> e:o . @prefix e: <x> .")
	ab := []triple{{S: "<s>", P: "<p>", O: "<ao>"}, {S: "<s>", P: "<p>", O: "<bo>"}}
	checkTurtle(t, "@prefix e: <a> . <s> <p> e:o . @prefix e: <b> . <s> <p> e:o .", ab, true)
	checkTurtle(t, "@prefix e: <a> . @prefix e: <b> . <s> <p> e:o .", ab[1:], true)
	checkTurtle(t, "@prefix e: <a> . @prefix f: <b> . <s> <p> e:o , f:o .", ab, true)
	checkTurtle(t, "@prefix a: <p> .\na: a: a:q ; a a: .", []triple{{S: "<p>", P: "<p>", O: "<pq>"}, {S: "<p>", P: "<type>", O: "<p>"}}, true)
	checkTurtle(t, "@prefix e: <a> . e:: e:/x e:#:/ .", []triple{{S: "<a:>", P: "<a/x>", O: "<a#:/>"}}, true)
	refuses(t, "@prefix e: <a> . <s> <p> f:o .", "@prefix e: <a> . <s> <p> :o .", "@prefix e: <a> . <s> <p> e .", "@prefix e: <a> . <s> <p> e:O .", "@prefix e: <a> . <s> <p> e:<o> .", "@prefix e: <a> . <s> <p> e:o>.", "@prefix e: <a> . <s> <p> E:o .")
}

func TestTwentyPrefixesAreNotTooMany(t *testing.T) {
	triples := "<s> <p> <o> ."
	want := []triple{{S: "<s>", P: "<p>", O: "<o>"}}
	for _, alike := range []bool{true, false} {
		for n := range 25 {
			s := ""
			for i := range n {
				name := "e"
				if !alike {
					name = string(rune('a' + i))
				}
				s += "@prefix " + name + ": <x> .\n"
			}
			if n > 20 {
				refuses(t, s, s+triples)
				continue
			}
			checkTurtle(t, s, nil, true)
			checkTurtle(t, s+triples, want, true)
			checkTurtle(t, triples+"\n"+s, want, true)
		}
	}
}

func TestTenThousandBytesAreNotTooMany(t *testing.T) {
	line := "<s> <p> <o> .\n"
	want := []triple{{S: "<s>", P: "<p>", O: "<o>"}}
	for _, n := range []int{9999, 10000, 10001, 20000} {
		texts := []string{line + strings.Repeat(" ", n-len(line)), strings.Repeat("\n", n-len(line)) + line, strings.Repeat(line, 714)[:9996]}
		texts[2] += strings.Repeat(" ", n-len(texts[2]))
		for _, s := range texts {
			if n > 10000 {
				refuses(t, s)
			} else {
				checkTurtle(t, s, want, true)
			}
		}
		checkTurtle(t, strings.Repeat(" ", n), nil, n <= 10000)
	}
	refuses(t, strings.Repeat("\"", 10000), strings.Repeat("\\", 10000), strings.Repeat(":", 10000), strings.Repeat(";", 10000), "\""+strings.Repeat("\\", 9999), strings.Repeat(". ", 5000), strings.Repeat("a", 10000), strings.Repeat(line, 1000000))
}

func TestEightyTriplesAreNotTooManyToRead(t *testing.T) {
	all := manyTriples(81)
	backward := slices.Clone(all)
	slices.Reverse(backward)
	checkTurtle(t, textOfAll(all[:80]), all[:80], true)
	checkTurtle(t, textOfAll(all[1:]), all[1:], true)
	checkTurtle(t, textOfAll(backward[1:]), all[:80], true)
	checkTurtle(t, textOfAll(all[:80])+textOfAll(all[:80]), all[:80], true)
	checkTurtle(t, textOfAll(all[:80])+textOf(all[40]), all[:80], true)
	refuses(t, textOfAll(all), textOfAll(backward), textOfAll(all)+textOfAll(all))
}

func TestATripleThatStandsTwiceIsToldOnce(t *testing.T) {
	want := []triple{{S: "<a>", P: "<type>", O: "<b>"}}
	for _, s := range []string{"<a> a <b> .", "<a> a <b> , <b> .", "<a> a <b> ; <type> <b> .", "<a> a <b> . <a> a <b> .", "@prefix e: <a> . e: a <b> . <a> <type> <b> , <b> ."} {
		checkTurtle(t, s, want, true)
	}
}

func TestReadTurtleReadsNothingElse(t *testing.T) {
	refuses(t, "<a>", "<a> <p>", "<a> <p> <b>", "<a> .", "<a> <p> .", ". <a> <p> <b> .", "<a> <p> <b> . .", "<a> <p> <b> <c> .", "<a> <p> <b> , .", "<a> <p> <b> ; .", "<a> <p> <b> ; <q> .", "<a> <p> <b> , , <c> .", "<a> <p> <b> ; ; <q> <c> .",
		"<a> , <p> <b> .", "<a> ; <p> <b> .", "<a> <p> , <b> .", "<a> <p> ; <b> .", "<a> <p> <b> ,", "<a> <p> <b> ;", "<a> <p> <b>.", "<a> <p> <b>, <c> .", "<a> <p> <b> ,<c> .", "<a> <p> <b> . <c>", "<a> <p> <b> . <c> <p> <d>", "<a><p><b>.",
		"a <p> <b> .", "<a> <p> a .", "<a> A <b> .", "<a> aa <b> .", "<a> <p> <b> ; a .", "<a> <p> <b> , a <c> .")
	for _, x := range wrongTriples() {
		refuses(t, textOf(x), "<a> <p> <b> .\n"+textOf(x), textOf(x)+"\n<a> <p> <b> .")
	}
}
