package tests

import (
	"regexp"
	"strings"
	"testing"

	"loop.example/g00420/impl"
)

// wordsOver gives all words of at most that many letters.
func wordsOver(letters string, most int) []string {
	words := []string{""}
	last := words
	for range most {
		var next []string
		for _, w := range last {
			for i := range len(letters) {
				next = append(next, w+letters[i:i+1])
			}
		}
		words = append(words, next...)
		last = next
	}
	return words
}

// plainEscaped is the document's sentence about Escaped, by other means than the program's.
func plainEscaped(s string) string {
	return strings.NewReplacer("\\", "\\\\", "\"", "\\\"", "\n", "\\n").Replace(s)
}

func everyByte() string {
	all := make([]byte, 256)
	for i := range all {
		all[i] = byte(i)
	}
	return string(all)
}

func TestEscapedMarksQuotesBackslashesAndByte10(t *testing.T) {
	for s, want := range map[string]string{
		"":          "",
		"plain":     "plain",
		"\"":        "\\\"",
		"\\":        "\\\\",
		"\n":        "\\n",
		"\\n":       "\\\\n",
		"a\"b\\\n":  "a\\\"b\\\\\\n",
		"\r\t\x00":  "\r\t\x00",
		"\xff\xc3":  "\xff\xc3",
		"say \"a\"": "say \\\"a\\\"",
	} {
		if got := impl.Escaped(s); got != want {
			t.Errorf("Escaped(%q) = %q, want %q", s, got, want)
		}
	}
	for _, s := range append(wordsOver("\"\\\nn", 4), everyByte()) {
		if got := impl.Escaped(s); got != plainEscaped(s) {
			t.Errorf("Escaped(%q) = %q, want %q", s, got, plainEscaped(s))
		}
	}
}

func TestWhatIsEscapedComesBack(t *testing.T) {
	texts := append(wordsOver("\"\\\nna", 5), everyByte(), strings.Repeat("\"\\\n", 5000))
	for _, s := range texts {
		if got, ok := impl.Unescaped(impl.Escaped(s)); !ok || got != s {
			t.Fatalf("Unescaped(Escaped(%q)) = %q, %v", s, got, ok)
		}
	}
}

func TestUnescapedRefusesWhatNoTextIsEscapedTo(t *testing.T) {
	words := wordsOver("\"\\\nna", 5)
	from := map[string]string{}
	for _, w := range words {
		from[plainEscaped(w)] = w
	}
	for _, s := range words {
		want, there := from[s]
		got, ok := impl.Unescaped(s)
		if ok != there || got != want {
			t.Fatalf("Unescaped(%q) = %q, %v, want %q, %v", s, got, ok, want, there)
		}
	}
	for i := range 256 {
		c := string([]byte{byte(i)})
		_, ok := impl.Unescaped("\\" + c)
		if want := c == "\"" || c == "\\" || c == "n"; ok != want {
			t.Errorf("a backslash and %q: %v", c, ok)
		}
	}
}

var (
	nameShape  = regexp.MustCompile(`\A<[a-z0-9:/#]{1,12}>\z`)
	textShape  = regexp.MustCompile(`\A"([ !#-\[\]-~]|\\"|\\\\|\\n){0,12}"\z`)
	blankShape = regexp.MustCompile(`\A_:[a-z0-9]{1,6}\z`)
	varShape   = regexp.MustCompile(`\A\?[a-z0-9]{1,6}\z`)
)

// plainKind is the document's list of kinds, written as patterns.
func plainKind(s string) int64 {
	switch {
	case nameShape.MatchString(s):
		return impl.TmName
	case textShape.MatchString(s):
		return impl.TmText
	case blankShape.MatchString(s):
		return impl.TmBlank
	case varShape.MatchString(s):
		return impl.TmVar
	}
	return impl.TmNone
}

func checkKind(t *testing.T, s string, want int64) {
	t.Helper()
	if got := impl.KindOf(s); got != want {
		t.Errorf("KindOf(%q) = %d, want %d", s, got, want)
	}
	text, ok := impl.TextIn(s)
	if ok != (want == impl.TmText) {
		t.Errorf("TextIn(%q) = %q, %v", s, text, ok)
	}
	if !ok && text != "" {
		t.Errorf("TextIn(%q) says false, and %q", s, text)
	}
	if ok && "\""+plainEscaped(text)+"\"" != s {
		t.Errorf("TextIn(%q) = %q", s, text)
	}
}

func TestTheCodesOfTheKinds(t *testing.T) {
	if impl.TmNone != 0 || impl.TmName != 1 || impl.TmText != 2 || impl.TmBlank != 3 || impl.TmVar != 4 {
		t.Error("a code of a kind is not the document's")
	}
	if impl.MaxName != 12 || impl.MaxText != 12 {
		t.Error("a limit is not the document's")
	}
}

func TestKindsOfOrdinaryWords(t *testing.T) {
	for s, want := range map[string]int64{
		"<a>": impl.TmName, "<type>": impl.TmName, "<e:x/1#>": impl.TmName, "<0>": impl.TmName, "<#>": impl.TmName,
		"\"\"": impl.TmText, "\"a b\"": impl.TmText, "\"<a>\"": impl.TmText, "\"\\n\"": impl.TmText, "\"\\\\\"": impl.TmText,
		"\"\\\"\"": impl.TmText, "\"\\\"\\\"\"": impl.TmText, "\" . \"": impl.TmText,
		"_:b": impl.TmBlank, "_:0": impl.TmBlank, "_:b1": impl.TmBlank,
		"?x": impl.TmVar, "?1": impl.TmVar,
		"": 0, "a": 0, "<": 0, ">": 0, "<>": 0, "<a": 0, "a>": 0, "<a>b": 0, " <a>": 0, "<a> ": 0, "<a b>": 0, "<A>": 0, "<<a>>": 0,
		"\"": 0, "\"\"\"": 0, "\"a\"b\"": 0, "\"a": 0, "a\"": 0, "\"\\\"": 0, "\"\\\\\\\"": 0, "\"\\a\"": 0, "\"a\nb\"": 0, "\"\t\"": 0, "\"a\" ": 0,
		"_": 0, "_:": 0, ":b": 0, "_b": 0, "_:B": 0, "_:a:": 0, "_:b ": 0,
		"?": 0, "??": 0, "?X": 0, "?x?": 0, "x?": 0, "?_:b": 0,
	} {
		checkKind(t, s, want)
	}
}

func TestKindsOfAllShortWords(t *testing.T) {
	for _, s := range wordsOver("<>\"\\n\n_:?a0A #", 4) {
		checkKind(t, s, plainKind(s))
	}
}

func TestEachByteWithinEachKind(t *testing.T) {
	for i := range 256 {
		c := string([]byte{byte(i)})
		for _, marks := range [][2]string{{"<a", ">"}, {"\"a", "\""}, {"_:a", ""}, {"?a", ""}, {"<", ">"}, {"\"", "\""}, {"_:", ""}, {"?", ""}} {
			s := marks[0] + c + marks[1]
			checkKind(t, s, plainKind(s))
		}
		in := byte(i) >= 32 && byte(i) <= 126 || byte(i) == 10
		want := int64(impl.TmNone)
		if in {
			want = impl.TmText
		}
		checkKind(t, "\""+plainEscaped(c)+"\"", want)
	}
}

func TestLimitsOfTheKinds(t *testing.T) {
	for _, at := range []struct {
		front, unit, back string
		most              int
		kind              int64
		emptyIsOne        bool
	}{
		{"<", "a", ">", 12, impl.TmName, false},
		{"<", "#", ">", 12, impl.TmName, false},
		{"\"", "a", "\"", 12, impl.TmText, true},
		{"\"", "\\\"", "\"", 12, impl.TmText, true},
		{"\"", "\\\\", "\"", 12, impl.TmText, true},
		{"\"", "\\n", "\"", 12, impl.TmText, true},
		{"_:", "b", "", 6, impl.TmBlank, false},
		{"_:", "9", "", 6, impl.TmBlank, false},
		{"?", "x", "", 6, impl.TmVar, false},
		{"?", "0", "", 6, impl.TmVar, false},
	} {
		for n := range at.most + 3 {
			want := int64(impl.TmNone)
			if n <= at.most && (n > 0 || at.emptyIsOne) {
				want = at.kind
			}
			checkKind(t, at.front+strings.Repeat(at.unit, n)+at.back, want)
		}
		checkKind(t, at.front+strings.Repeat(at.unit, 200000)+at.back, impl.TmNone)
	}
}

func TestATextInQuotesHasInItWhatWasPutIn(t *testing.T) {
	texts := append(wordsOver("\"\\\nn ", 5), "abcdefghijkl", strings.Repeat("\"", 12), strings.Repeat("\\", 12), strings.Repeat("\n", 12), "\\\"\n\\\"\n\\\"\n\\\"\n")
	for _, s := range texts {
		word := "\"" + impl.Escaped(s) + "\""
		if got, ok := impl.TextIn(word); !ok || got != s || impl.KindOf(word) != impl.TmText {
			t.Fatalf("TextIn(%q) = %q, %v", word, got, ok)
		}
	}
	for _, s := range []string{"abcdefghijklm", strings.Repeat("\"", 13), "\t", "\r", "\x00", "\x1f", "\x7f", "\x80", "\xff", "é"} {
		word := "\"" + impl.Escaped(s) + "\""
		if got, ok := impl.TextIn(word); ok || got != "" {
			t.Errorf("TextIn(%q) = %q, %v", word, got, ok)
		}
	}
}
