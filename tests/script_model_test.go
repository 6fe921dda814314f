package tests

import (
	"fmt"
	"math/rand"
	"slices"
	"strings"
	"testing"

	"loop.example/g00420/impl"
)

// plainLine is the document's table, by the functions of the other chapters; all that the line says, and the base behind it.
func plainLine(b base, line string) (string, base) {
	word, rest, _ := strings.Cut(line, " ")
	x, isTriple := impl.ReadTriple(rest)
	r, isRule := impl.ReadRule(rest)
	q, isQuery := impl.ReadQuery(line)
	switch {
	case strings.Trim(line, " ") == "":
		return "", b
	case word == "+" && isTriple, word == "-" && isTriple:
		return plainAct(b, kact{Kind: int64(1 + strings.Index("+-", word)), Triple: x})
	case word == "rule" && isRule:
		return plainLearn(b, []rule{r})
	case line == "owl":
		return plainLearn(b, impl.OwlRules())
	case word == "ask" && isTriple:
		if slices.Contains(b.All, x) {
			return "yes\n", b
		}
		return "not\n", b
	case word == "why" && isTriple:
		return plainWhy(b, x), b
	case isQuery:
		if rows, ok := impl.Answer(b.All, q); ok {
			return fmt.Sprintf("rows %d\n%send\n", len(rows), plainRowsText(rows)), b
		}
		return "no\n", b
	case line == "size":
		return fmt.Sprintf("%d %d %d\n", len(b.Rules), len(b.Given), len(b.All)), b
	case line == "clashes":
		said := fmt.Sprintf("clashes %d", len(plainClashes(b.All)))
		for _, text := range plainClashes(b.All) {
			said += ", " + text
		}
		return said + "\n", b
	}
	return "what\n", b
}

func plainAct(b base, a kact) (string, base) {
	next, code := impl.BaseDo(b, a)
	if code != 0 {
		return fmt.Sprintf("no %d\n", code), b
	}
	return "ok\n", next
}

func plainLearn(b base, more []rule) (string, base) {
	rules := slices.Concat(b.Rules, more)
	all, ok := impl.Closure(b.Given, rules)
	if !ok || len(rules) > 30 {
		return "no\n", b
	}
	return "ok\n", base{Rules: rules, Given: b.Given, All: all}
}

func plainWhy(b base, x triple) string {
	leaves, ok := impl.Why(b, x)
	if !ok {
		return "no\n"
	}
	said := "why"
	for _, leaf := range leaves {
		said += " " + textOf(leaf)
	}
	return said + "\n"
}

// plainScript gives what each line says, line by line.
func plainScript(lines []string) []string {
	var all []string
	var b base
	for _, line := range lines {
		said, next := plainLine(b, line)
		all, b = append(all, said), next
	}
	return all
}

// tellingBy gives lines that may change the base.
func tellingBy(dice *rand.Rand, n int) []string {
	var lines []string
	for range n {
		x := textOf(knot()[dice.Intn(len(knot()))])
		if dice.Intn(3) == 0 {
			x = textOf(someOf(dice, 1, "<a> <b> <c> _:b", "<sub> <type> <same> <diff> <disj> <p>", "<a> <b> <c> <nothing> _:b \"t\"")[0])
		}
		switch dice.Intn(12) {
		case 0, 1:
			lines = append(lines, "- "+x)
		case 2:
			r := rulesBy(dice, 1)[0]
			lines = append(lines, "rule "+plainRuleText(r))
		case 3:
			lines = append(lines, []string{"owl", "owl", "rule ?x <p> ?y . => ?y <q> ?x ."}[dice.Intn(3)])
		default:
			lines = append(lines, "+ "+x)
		}
	}
	return lines
}

// askingBy gives lines that change nothing, whatever they say.
func askingBy(dice *rand.Rand, n int) []string {
	var lines []string
	wrong := wrongLines()
	for range n {
		x := textOf(knot()[dice.Intn(len(knot()))])
		switch dice.Intn(9) {
		case 0, 1:
			lines = append(lines, "ask "+x)
		case 2, 3:
			lines = append(lines, "why "+x)
		case 4:
			lines = append(lines, "why "+textOf(triple{S: "<a>", P: "<type>", O: "<c>"}))
		case 5:
			q := queryBy(dice)
			q.Where = q.Where[:min(len(q.Where), 2)]
			lines = append(lines, plainQueryText(q))
		case 6:
			lines = append(lines, wrong[dice.Intn(len(wrong))])
		default:
			lines = append(lines, []string{"size", "clashes", "", "  "}[dice.Intn(4)])
		}
	}
	return lines
}

// linesBy mixes both, as many as a script may have.
func linesBy(dice *rand.Rand) []string {
	lines := append(tellingBy(dice, dice.Intn(20)), askingBy(dice, dice.Intn(20))...)
	dice.Shuffle(len(lines), func(i, j int) { lines[i], lines[j] = lines[j], lines[i] })
	for len(script(lines...)) > 4000 {
		lines = lines[1:]
	}
	return lines
}

func TestScriptsSayWhatTheTableSays(t *testing.T) {
	dice := rand.New(rand.NewSource(199))
	said := map[string]int{}
	for range 300 {
		lines := linesBy(dice)
		want := plainScript(lines)
		wantScript(t, "a script", script(lines...), strings.Join(want, ""))
		if t.Failed() {
			t.FailNow()
		}
		for i, line := range lines {
			word, _, _ := strings.Cut(line, " ")
			first, _, _ := strings.Cut(want[i], " ")
			first = strings.TrimSuffix(first, "\n")
			said[word+": "+first]++
			said[first]++
		}
	}
	for _, what := range []string{"+: ok", "-: ok", "-: no", "rule: ok", "owl: ok", "owl: no", "ask: yes", "ask: not", "why: why", "why: no", "select: rows", "select: what", "clashes: clashes", "what"} {
		if said[what] < 1 {
			t.Errorf("no line with %q", what)
		}
	}
}

func TestWhatAScriptSaidStaysSaid(t *testing.T) {
	dice := rand.New(rand.NewSource(211))
	for range 60 {
		lines := linesBy(dice)
		all := impl.RunScript(script(lines...))
		for n := range lines {
			if said := impl.RunScript(script(lines[:n]...)); !strings.HasPrefix(all, said) {
				t.Fatalf("%q says %q, and %d lines of it %q", lines, all, n, said)
			}
		}
		// Too many lines take it all back.
		if got := impl.RunScript(script(append(lines, slices.Repeat([]string{""}, 41-len(lines))...)...)); got != "too long\n" {
			t.Fatalf("41 lines: %q", got)
		}
		if got := impl.RunScript(script(append(lines, slices.Repeat([]string{""}, 40-len(lines))...)...)); got != all {
			t.Fatalf("40 lines: %q, want %q", got, all)
		}
	}
}

func TestLinesThatAskChangeNothing(t *testing.T) {
	dice := rand.New(rand.NewSource(223))
	asked := 0
	for range 120 {
		telling := tellingBy(dice, 1+dice.Intn(16))
		alone := impl.RunScript(script(telling...))
		var lines, told []string
		for _, line := range telling {
			asking := askingBy(dice, dice.Intn(2))
			lines = append(append(lines, asking...), line)
			asked += len(asking)
		}
		if len(script(lines...)) > 4000 {
			continue
		}
		// What the telling lines say stands behind what the ones ahead of them say.
		for i, line := range lines {
			before, behind := impl.RunScript(script(lines[:i]...)), impl.RunScript(script(lines[:i+1]...))
			said, found := strings.CutPrefix(behind, before)
			if !found {
				t.Fatalf("%q says %q, and with a line more %q", lines[:i], before, behind)
			}
			if len(told) < len(telling) && line == telling[len(told)] {
				told = append(told, said)
			}
		}
		if got := strings.Join(told, ""); got != alone {
			t.Fatalf("%q say %q, and %q among %q", telling, alone, got, lines)
		}
	}
	if asked < 200 {
		t.Errorf("only %d lines ask", asked)
	}
}

// What is given and taken away again leaves nothing behind, in a script as in a base.
func TestTakingAwayInAScript(t *testing.T) {
	dice := rand.New(rand.NewSource(227))
	for range 60 {
		ahead := tellingBy(dice, dice.Intn(12))
		said := plainScript(append(ahead, "size", "+ <new> <p> <new> .", "- <new> <p> <new> .", "size"))
		n := len(ahead)
		if said[n+1] != "ok\n" {
			continue
		}
		wantLine(t, append(ahead, "+ <new> <p> <new> .", "- <new> <p> <new> ."), "size", strings.TrimSuffix(said[n], "\n"))
	}
}
