package tests

import (
	"fmt"
	"strings"
	"testing"

	"loop.example/g00420/impl"
)

// script ends each line.
func script(lines ...string) string {
	s := ""
	for _, line := range lines {
		s += line + "\n"
	}
	return s
}

func wantScript(t *testing.T, what, text, want string) {
	t.Helper()
	if got := impl.RunScript(text); got != want {
		t.Errorf("%s: RunScript(%q) = %q, want %q", what, text, got, want)
	}
}

// wantTalk takes lines, each with all that it says, or nothing where it says nothing.
func wantTalk(t *testing.T, what string, talk ...[2]string) {
	t.Helper()
	lines, want := "", ""
	for _, two := range talk {
		lines += two[0] + "\n"
		if two[1] != "" {
			want += two[1] + "\n"
		}
	}
	wantScript(t, what, lines, want)
}

// wantLine takes what is told ahead, and all that the last line says.
func wantLine(t *testing.T, ahead []string, line, want string) {
	t.Helper()
	before, all := impl.RunScript(script(ahead...)), impl.RunScript(script(ahead...)+line+"\n")
	if said, found := strings.CutPrefix(all, before); !found || said != want+"\n" {
		t.Errorf("%q behind %q says %q, want %q", line, ahead, said, want)
	}
}

func TestAScriptThatSaysNothing(t *testing.T) {
	for _, s := range []string{"", "\n", " \n", "\n\n", "   \n\n  \n", strings.Repeat("\n", 40), strings.Repeat(" ", 3999) + "\n", strings.Repeat(strings.Repeat(" ", 99)+"\n", 40)} {
		wantScript(t, "nothing", s, "")
	}
	if impl.MaxScript != 40 || impl.MaxLines != 4000 {
		t.Error("a limit")
	}
}

func TestAScriptOfTooManyLines(t *testing.T) {
	for n := 38; n < 44; n++ {
		want, none := strings.Repeat("0 0 0\n", n), ""
		if n > 40 {
			want, none = "too long\n", "too long\n"
		}
		wantScript(t, "many lines", strings.Repeat("size\n", n), want)
		wantScript(t, "many lines of no bytes", strings.Repeat("\n", n), none)
		wantScript(t, "many lines of a blank", strings.Repeat(" \n", n), none)
		wantScript(t, "many lines that are none", strings.Repeat("x\n", n), strings.ReplaceAll(want, "0 0 0", "what"))
	}
	wantScript(t, "a line, and 40 that say nothing", "size\n"+strings.Repeat("\n", 40), "too long\n")
	wantScript(t, "a line, and 39 that say nothing", strings.Repeat("\n", 39)+"size\n", "0 0 0\n")
	wantScript(t, "very many lines", strings.Repeat("size\n", 100000), "too long\n")
	wantScript(t, "40 lines, and one that is not ended", strings.Repeat("size\n", 40)+"size", "too long\n")
}

func TestAScriptOfTooManyBytes(t *testing.T) {
	for n := 3998; n < 4003; n++ {
		want, none := "0 0 0\n", "what\n"
		if n > 4000 {
			want, none = "too long\n", "too long\n"
		}
		wantScript(t, "many blanks behind a line", "size\n"+strings.Repeat(" ", n-6)+"\n", want)
		wantScript(t, "many blanks ahead of a line", strings.Repeat(" ", n-6)+"\nsize\n", want)
		wantScript(t, "many bytes that are none", strings.Repeat("x", n-1)+"\n", none)
		wantScript(t, "many bytes in a text", "+ <a> <p> \""+strings.Repeat("x", n-15)+"\" .\n", none)
	}
	line := "select ?x where ?x <p> \"" + strings.Repeat("x", 12) + "\" . ?x <p> ?y . ?y <p> ?y . also ?x <p> ?x .\n"
	wantScript(t, "many lines of many bytes", strings.Repeat(line, 39)+strings.Repeat(" ", 3999-39*len(line))+"\n", strings.Repeat("rows 0\nend\n", 39))
	wantScript(t, "many lines of one byte too many", strings.Repeat(line, 39)+strings.Repeat(" ", 4000-39*len(line))+"\n", "too long\n")
	wantScript(t, "very many bytes", strings.Repeat(" ", 1000000)+"\n", "too long\n")
}

func TestAScriptThatIsNotEnded(t *testing.T) {
	for _, s := range []string{"size", " ", "x", "size\nsize", "size\n ", "+ <a> <p> <b> .", "size\n\nowl", "size\r", "\nx", "\x00"} {
		wantScript(t, "not ended", s, "too long\n")
	}
	wantScript(t, "not ended at all", strings.Repeat("x", 4000), "too long\n")
}

func TestLinesOfTriples(t *testing.T) {
	wantTalk(t, "given and not given",
		[2]string{"+ <a> <p> \"x . y\" .", "ok"},
		[2]string{"size", "0 1 1"},
		[2]string{"+ <a> <p> \"x . y\" .", "ok"}, // What is given already.
		[2]string{"size", "0 1 1"},
		[2]string{"ask <a> <p> \"x . y\" .", "yes"},
		[2]string{"ask <a> <p> \"x\" .", "not"},
		[2]string{"why <a> <p> \"x . y\" .", "why <a> <p> \"x . y\" ."},
		[2]string{"why <a> <p> \"x\" .", "no"},
		[2]string{"- <a> <p> \"x\" .", "no 3"}, // What is not given.
		[2]string{"- <a> <p> \"x . y\" .", "ok"},
		[2]string{"- <a> <p> \"x . y\" .", "no 3"},
		[2]string{"ask <a> <p> \"x . y\" .", "not"},
		[2]string{"why <a> <p> \"x . y\" .", "no"},
		[2]string{"size", "0 0 0"},
		[2]string{"+ _:b <p> _:b .", "ok"},
		[2]string{"+ <a> <p> \"\\\"\\n\\\\\" .", "ok"},
		[2]string{"select ?y where ?x <p> ?y .", "rows 2\n?y=\"\\\"\\n\\\\\"\n?y=_:b\nend"})
	wantTalk(t, "made, and given too",
		[2]string{"rule ?x <p> ?y . ?y <p> ?z . => ?x <p> ?z .", "ok"},
		[2]string{"+ <b> <p> <c> .", "ok"},
		[2]string{"+ <a> <p> <b> .", "ok"},
		[2]string{"size", "1 2 3"},
		[2]string{"ask <a> <p> <c> .", "yes"},
		[2]string{"why <a> <p> <c> .", "why <a> <p> <b> . <b> <p> <c> ."},
		[2]string{"- <a> <p> <c> .", "no 3"}, // What is made alone.
		[2]string{"size", "1 2 3"},
		[2]string{"+ <a> <p> <c> .", "ok"}, // What is made and not given.
		[2]string{"size", "1 3 3"},
		[2]string{"why <a> <p> <c> .", "why <a> <p> <c> ."},
		[2]string{"- <a> <p> <b> .", "ok"},
		[2]string{"size", "1 2 2"},
		[2]string{"ask <a> <p> <c> .", "yes"},
		[2]string{"+ <a> <p> <b> .", "ok"},
		[2]string{"- <a> <p> <c> .", "ok"}, // What is given, and made still.
		[2]string{"size", "1 2 3"},
		[2]string{"why <a> <p> <c> .", "why <a> <p> <b> . <b> <p> <c> ."},
		[2]string{"- <b> <p> <c> .", "ok"},
		[2]string{"ask <a> <p> <c> .", "not"},
		[2]string{"size", "1 1 1"})
}

// numbered gives a line for each number below n.
func numbered(format string, n int) []string {
	var lines []string
	for i := range n {
		lines = append(lines, fmt.Sprintf(format, i))
	}
	return lines
}

func TestATripleThatIsOneTooMany(t *testing.T) {
	ahead := append([]string{"rule ?x <p> ?y . => ?x <q> ?y .", "rule ?x <p> ?y . => ?x <r> ?y ."}, numbered("+ <n%02d> <p> <a> .", 26)...)
	wantLine(t, ahead, "size", "2 26 78")
	wantLine(t, ahead, "+ <n26> <p> <a> .", "no 4")
	wantLine(t, append(ahead, "+ <n26> <p> <a> ."), "size", "2 26 78")
	wantLine(t, append(ahead, "+ <n26> <p> <a> ."), "ask <n26> <p> <a> .", "not")
	wantLine(t, ahead, "+ <n26> <q> <a> .", "ok")
	full := append(ahead, "+ <n26> <q> <a> .", "+ <n26> <r> <a> .")
	wantLine(t, full, "size", "2 28 80")
	wantLine(t, full, "+ <z> <z> <z> .", "no 4")
	wantLine(t, full, "+ <n26> <p> <a> .", "no 4")
	wantLine(t, full, "+ <n00> <p> <a> .", "ok")
	wantLine(t, full, "+ <n00> <r> <a> .", "ok")
	wantLine(t, full, "- <z> <z> <z> .", "no 3")
	wantLine(t, append(full, "- <n00> <p> <a> ."), "+ <n26> <p> <a> .", "ok")
	wantLine(t, append(full, "- <n00> <p> <a> .", "+ <n26> <p> <a> ."), "size", "2 28 78")
	// Too many rows are too many, too.
	four := append([]string{"rule ?a ?b ?c . ?d ?e ?f . ?g ?h ?i . ?j ?k ?l . => <z> <z> <z> ."}, numbered("+ <n%d> <p> <a> .", 3)...)
	wantLine(t, four, "size", "1 3 4")
	wantLine(t, four, "+ <n3> <p> <a> .", "no 4")
	wantLine(t, append(four, "+ <n3> <p> <a> ."), "size", "1 3 4")
	wantLine(t, four, "+ <z> <z> <z> .", "ok")
}

func TestLinesOfRules(t *testing.T) {
	wantTalk(t, "rules",
		[2]string{"+ <a> <p> <b> .", "ok"},
		[2]string{"rule ?x <p> ?y . => ?y <p> ?x .", "ok"},
		[2]string{"size", "1 1 2"},
		[2]string{"rule ?x <p> ?y . => ?y <p> ?x .", "ok"}, // A rule that comes twice.
		[2]string{"size", "2 1 2"},
		[2]string{"rule ?x <p> ?y . => ?y <q> \"so . so\" .", "ok"},
		[2]string{"size", "3 1 4"},
		[2]string{"ask <b> <q> \"so . so\" .", "yes"},
		[2]string{"why <b> <q> \"so . so\" .", "why <a> <p> <b> ."},
		[2]string{"rule <none> <p> <none> . => <none> <none> <none> .", "ok"},
		[2]string{"size", "4 1 4"})
	for _, n := range []int{0, 1, 29, 30} {
		ahead := append([]string{"+ <a> <p> <b> ."}, numbered("rule ?x <p> ?y . => ?x <q> <n%02d> .", n)...)
		want := "ok"
		if n == 30 {
			want = "no"
		}
		wantLine(t, ahead, "size", fmt.Sprint(n, 1, n+1))
		for _, more := range []string{"rule ?x <p> ?y . => ?x <q> <n00> .", "rule ?x <none> ?y . => ?y <none> ?x ."} {
			wantLine(t, ahead, more, want)
		}
		after := append(ahead, "rule ?x <p> ?y . => ?x <q> <b> .")
		wantLine(t, after, "size", fmt.Sprint(min(n+1, 30), 1, min(n+2, 31)))
		wantLine(t, append(after, "- <a> <p> <b> ."), "size", fmt.Sprint(min(n+1, 30), 0, 0))
	}
}

// A rule that would make too much leaves all as it was: what is told next knows nothing of it.
func TestARuleWithoutAClosure(t *testing.T) {
	ahead := append([]string{"rule ?x <p> ?y . => ?x <q> ?y ."}, numbered("+ <n%02d> <p> <a> .", 30)...)
	wantLine(t, ahead, "size", "1 30 60")
	wantLine(t, ahead, "rule ?x <p> ?y . => ?x <r> ?y .", "no")
	refused := append(ahead, "rule ?x <p> ?y . => ?x <r> ?y .")
	wantLine(t, refused, "size", "1 30 60")
	wantLine(t, refused, "ask <n00> <r> <a> .", "not")
	wantLine(t, append(refused, "+ <new> <p> <a> ."), "size", "1 31 62")
	wantLine(t, refused, "rule ?x <p> ?y . => <z> <r> ?y .", "ok")
	wantLine(t, append(refused, "rule ?x <p> ?y . => <z> <r> ?y ."), "size", "2 30 61")
	// Too many rows of a body, whatever its head.
	wantLine(t, ahead, "rule ?a <p> ?b . ?c <q> ?d . => ?a <p> ?b .", "no")
	wantLine(t, ahead, "rule ?a <p> ?b . ?c <q> ?d . ?a <none> ?b . => ?a <p> ?b .", "no")
	wantLine(t, ahead, "rule ?a <none> ?b . ?c <q> ?d . ?e <p> ?f . => ?a <p> ?b .", "ok")
}

func TestLinesOfTheOntology(t *testing.T) {
	wantTalk(t, "owl",
		[2]string{"owl", "ok"},
		[2]string{"size", "16 0 0"},
		[2]string{"+ <c> <sub> <d> .", "ok"},
		[2]string{"+ <x> <type> <c> .", "ok"},
		[2]string{"size", "16 2 3"},
		[2]string{"why <x> <type> <d> .", "why <c> <sub> <d> . <x> <type> <c> ."},
		[2]string{"owl", "no"}, // 32 rules.
		[2]string{"size", "16 2 3"},
		[2]string{"rule ?x <type> ?y . => ?y <has> ?x .", "ok"},
		[2]string{"size", "17 2 5"},
		[2]string{"ask <d> <has> <x> .", "yes"})
	for _, n := range []int{1, 13, 14, 15, 30} {
		rules := numbered("rule ?x <p> ?y . => ?x <q> <n%02d> .", n)
		want, many := "ok", n+16
		if n > 14 {
			want, many = "no", n
		}
		wantLine(t, rules, "owl", want)
		wantLine(t, append(rules, "owl"), "size", fmt.Sprint(many, 0, 0))
		wantLine(t, append([]string{"owl"}, rules...), "size", fmt.Sprint(min(n+16, 30), 0, 0))
	}
	// Six that are the same have 36 triples; seven have too many rows.
	same := numbered("+ <a> <same> <n%d> .", 6)
	wantLine(t, same[:5], "owl", "ok")
	wantLine(t, append(same[:5:5], "owl"), "size", "16 5 36")
	wantLine(t, append(same[:5:5], "owl"), same[5], "no 4")
	wantLine(t, same, "owl", "no")
	wantLine(t, append(same, "owl"), "size", "0 6 6")
	wantLine(t, append(same, "owl"), "ask <n0> <same> <a> .", "not")
	// All rules stand behind what was there: the first one that makes a triple is the reason.
	ahead := []string{"+ <c> <sub> <d> .", "+ <x> <of> <d> .", "+ <x> <type> <c> ."}
	mine := "rule ?x <of> ?y . => ?x <type> ?y ."
	wantLine(t, append(ahead, mine, "owl"), "why <x> <type> <d> .", "why <x> <of> <d> .")
	wantLine(t, append(ahead, "owl", mine), "why <x> <type> <d> .", "why <c> <sub> <d> . <x> <type> <c> .")
}

func TestLinesThatSelect(t *testing.T) {
	ahead := []string{"rule ?x <q> ?y . => ?y <r> ?x .", "+ <a> <p> \"t u\" .", "+ <a> <q> <b> .", "+ <b> <p> \"t u\" .", "+ <c> <p> _:d ."}
	for line, want := range map[string]string{
		"select ?x where ?x <p> ?y .":                                          "rows 3\n?x=<a>\n?x=<b>\n?x=<c>\nend",
		"select ?y where ?x <p> ?y .":                                          "rows 2\n?y=\"t u\"\n?y=_:d\nend",
		"select ?y ?x where ?x <p> ?y .":                                       "rows 3\n?x=<a> ?y=\"t u\"\n?x=<b> ?y=\"t u\"\n?x=<c> ?y=_:d\nend",
		"select ?x where ?x <r> ?y .":                                          "rows 1\n?x=<b>\nend", // What is made is there, too.
		"select ?x where ?x <none> ?y .":                                       "rows 0\nend",
		"select ?x ?z where ?x <p> ?y . also ?x <q> ?z .":                      "rows 3\n?x=<a> ?z=<b>\n?x=<b>\n?x=<c>\nend",
		"select ?z where ?x <p> ?y . also ?x <q> ?z .":                         "rows 2\n\n?z=<b>\nend",
		"select ?z where ?x <p> ?y . also ?x <none> ?z .":                      "rows 1\n\nend",
		"select ?x where ?x <p> \"t u\" .":                                     "rows 2\n?x=<a>\n?x=<b>\nend",
		"select ?a where ?a ?b ?c . ?d ?e ?f . ?g ?h ?i .":                     "rows 3\n?a=<a>\n?a=<b>\n?a=<c>\nend",
		"select ?a where ?a ?b ?c . ?d ?e ?f . ?g ?h ?i . ?j ?k ?l .":          "no",
		"select ?a where <none> ?b ?c . ?d ?e ?f . ?g ?h ?i . also ?a ?b ?c .": "rows 0\nend",
		"select ?a where ?a ?b ?c . ?d ?e ?f . also ?g ?h ?i . ?j ?k ?l .":     "no",
		"select ?a where ?a <r> ?c . also ?d ?e ?f . ?g ?h ?i . ?j ?k ?l .":    "rows 1\n?a=<b>\nend",
	} {
		wantLine(t, ahead, line, want)
	}
	wantLine(t, nil, "select ?x where ?x <p> ?y .", "rows 0\nend")
	for _, line := range []string{"select", "select ", "select ?x", "select ?x where", "select ?z where ?x <p> ?y .", "select ?x ?x where ?x <p> ?y .", "select ?x where ?x <p> ?y . also", "select  ?x where ?x <p> ?y .", "select ?x where ?x <p> ?y . ", " select ?x where ?x <p> ?y .", "selects ?x where ?x <p> ?y .", "select\t?x where ?x <p> ?y .", "select select ?x where ?x <p> ?y .", "select ?x where ?x <p> \"" + strings.Repeat("a", 1000) + "\" .", "select ?x where ?x <p> ?y ." + strings.Repeat(" ?x <p> ?y .", 83), "rows ?x where ?x <p> ?y ."} {
		wantLine(t, ahead, line, "what")
	}
}

func TestLinesOfSizes(t *testing.T) {
	wantLine(t, nil, "size", "0 0 0")
	wantLine(t, []string{"rule ?x <p> ?y . => ?y <q> ?x ."}, "size", "1 0 0")
	wantLine(t, numbered("+ <a> <p> <n%d> .", 12), "size", "0 12 12")
	wantLine(t, append(numbered("+ <a> <p> <n%d> .", 12), "rule ?x <p> ?y . => ?y <q> ?x .", "- <a> <p> <n3> ."), "size", "1 11 22")
}

func TestLinesOfClashes(t *testing.T) {
	wantLine(t, nil, "clashes", "clashes 0")
	wantLine(t, []string{"+ <a> <same> <b> .", "+ <b> <diff> <a> .", "+ <a> <type> <c> ."}, "clashes", "clashes 0")
	wantLine(t, []string{"+ <x> <type> <nothing> ."}, "clashes", "clashes 1, nothing <x>")
	wantLine(t, []string{"+ <x> <same> \"a b\" .", "+ <x> <diff> \"a b\" ."}, "clashes", "clashes 1, same <x> \"a b\"")
	wantLine(t, []string{"+ <d> <disj> <c> .", "+ <x> <type> <c> .", "+ <x> <type> <d> ."}, "clashes", "clashes 1, disj <x> <d> <c>")
	wantTalk(t, "of each kind, some that are made, and none again",
		[2]string{"+ <c> <disj> <d> .", "ok"},
		[2]string{"+ <d> <sub> <nothing> .", "ok"},
		[2]string{"+ <x> <type> <c> .", "ok"},
		[2]string{"+ <x> <type> <d> .", "ok"},
		[2]string{"+ _:y <same> _:z .", "ok"},
		[2]string{"+ _:y <diff> _:z .", "ok"},
		[2]string{"clashes", "clashes 2, disj <x> <c> <d>, same _:y _:z"},
		[2]string{"owl", "ok"},
		[2]string{"clashes", "clashes 6, disj <x> <c> <d>, nothing <x>, same _:y _:y, same _:y _:z, same _:z _:y, same _:z _:z"},
		[2]string{"- _:y <diff> _:z .", "ok"},
		[2]string{"clashes", "clashes 2, disj <x> <c> <d>, nothing <x>"},
		[2]string{"- <x> <type> <d> .", "ok"},
		[2]string{"clashes", "clashes 0"})
}

// wrongLines are none of the table's lines, though each is nearly one.
func wrongLines() []string {
	lines := []string{"fly", "what", "ok", "end", ".", "=>", "+", "-", "+ ", "- ", "+ x", "- x", "+<a> <p> <b> .", "-<a> <p> <b> .", "++ <a> <p> <b> .", "+- <a> <p> <b> .", "+ + <a> <p> <b> .", "<a> <p> <b> .", "= <a> <p> <b> .", "+\t<a> <p> <b> .", "+ <a> <p> <b> .\r", "\r", "\t", " \t ", "\x00", "\xff", "size\x00", "\u00a0",
		"rule", "rule ", "rule x", "rules ?x <p> ?y . => ?y <p> ?x .", "rule ?x <p> ?y . => ?y <p> ?z .", "rule ?x <p> ?y => ?y <p> ?x .", "rule => ?x <p> ?y .", "rule ?x <p> ?y .", "rule ?x <p> ?y . => ?y <p> ?x . ?x <p> ?x .", "rule <a> <p> <b> .", "?x <p> ?y . => ?y <p> ?x .", "Rule ?x <p> ?y . => ?y <p> ?x .",
		"rule ?x <p> ?y . ?x <p> ?y . ?x <p> ?y . ?x <p> ?y . ?x <p> ?y . => ?y <p> ?x .", "rule ?x <p> ?y . => ?y <p> ?x .x",
		"owl ", " owl", "owls", "owl owl", "OWL", "ow", "owl ?x", "ask", "ask ", "ask x", "ask <a> <p> .", "asks <a> <p> <b> .", "ask?", "Ask <a> <p> <b> .", "why", "why ", "why x", "why <a> <p> ?x .", "whys <a> <p> <b> .", "why not", "size ", " size", "sizes", "size 1", "Size", "size size", "siz", "clashes ", " clashes", "clash", "clashes of", "clashes 0", "Clashes", "select", "select ", "no", "rows 0", "too long"}
	for _, word := range []string{"+", "-", "ask", "why"} {
		for _, x := range wrongTriples() {
			if text := textOf(x); !strings.Contains(text, "\n") {
				lines = append(lines, word+" "+text)
			}
		}
		for _, rest := range []string{"<a> <p> <b>", "<a> <p> <b>.", "<a> <p> <b> . .", "<a>  <p> <b> .", "<a> <p>  <b> .", "<a> <p> <b>  .", "<a> <p> <b> . <a> <p> <b> .", "a p b .", "<a> a <b> ."} {
			lines = append(lines, word+" "+rest)
		}
	}
	// A blank too many ahead, between and behind.
	for _, line := range []string{"+ <a> <p> <b> .", "- <a> <p> <b> .", "ask <a> <p> <b> .", "why <a> <p> <b> .", "rule ?x <p> ?y . => ?y <p> ?x .", "select ?x where ?x <p> ?y .", "size", "owl", "clashes"} {
		lines = append(lines, " "+line, "   "+line, line+" ", line+"  ")
		for i := range line {
			if line[i] == ' ' {
				lines = append(lines, line[:i]+" "+line[i:])
			}
		}
	}
	return lines
}

func TestLinesThatAreNone(t *testing.T) {
	ahead := []string{"+ <a> <p> <b> .", "rule ?x <p> ?y . => ?y <q> ?x ."}
	for _, line := range wrongLines() {
		wantLine(t, nil, line, "what")
		wantLine(t, ahead, line, "what")
		wantLine(t, append(ahead, line), "size", "1 1 2")
	}
}

func TestBlanksInATextAreItsOwn(t *testing.T) {
	wantTalk(t, "blanks",
		[2]string{"+ <a> <p> \"  \" .", "ok"},
		[2]string{"ask <a> <p> \" \" .", "not"},
		[2]string{"ask <a> <p> \"  \" .", "yes"},
		[2]string{"", ""},
		[2]string{"    ", ""},
		[2]string{"rule ?x <p> \"  \" . => ?x <q> \" ok \" .", "ok"},
		[2]string{"why <a> <q> \" ok \" .", "why <a> <p> \"  \" ."},
		[2]string{"select ?x ?y where ?x ?p \"  \" . also ?x <q> ?y .", "rows 1\n?x=<a> ?y=\" ok \"\nend"})
}
