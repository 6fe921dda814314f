package tests

import (
	"math"
	"math/rand"
	"slices"
	"testing"

	"loop.example/g00420/impl"
)

// plainProofOk is the document's sentence about ProofOk, of a right graph and right rules.
func plainProofOk(g []triple, rules []rule, p []pstep) bool {
	if len(p) < 1 || len(p) > 80 {
		return false
	}
	for i, s := range p {
		if s.Rule == -1 && len(s.Uses) == 0 && slices.Contains(g, s.Triple) {
			continue
		}
		if s.Rule < 0 || s.Rule >= int64(len(rules)) || !plainMade(rules[s.Rule], p[:i], s) {
			return false
		}
	}
	return true
}

func plainMade(r rule, ahead []pstep, s pstep) bool {
	if len(s.Uses) != len(r.Body) || !impl.TripleOk(s.Triple) {
		return false
	}
	row, fits := map[string]string{}, true
	for i, use := range s.Uses {
		if use < 0 || use >= int64(len(ahead)) {
			return false
		}
		if row, fits = plainBound(row, r.Body[i], ahead[use].Triple); !fits {
			return false
		}
	}
	return plainFilled(plainRow(row), r.Head) == s.Triple
}

// aProof gives a graph, rules and a proof of six steps, each of which is used.
func aProof() ([]triple, []rule, []pstep) {
	g := readPatterns("<a> <sub> <b> . <b> <sub> <c> . <q> <sub> <r> . <x> <type> <a> .")
	rules := readRules("?x <sub> ?y . ?y <sub> ?z . => ?x <sub> ?z .", "?x <type> ?y . ?y <sub> ?z . => ?x <type> ?z .", "?x <type> ?y . => ?y <has> ?x .")
	p := append(given(g[0], g[1], g[3]), by(0, "<a> <sub> <c> .", 0, 1), by(1, "<x> <type> <c> .", 2, 3), by(2, "<c> <has> <x> .", 4))
	return g, rules, p
}

func TestStepsThatAreNotRight(t *testing.T) {
	g, rules, p := aProof()
	if !impl.ProofOk(g, rules, p) || !plainProofOk(g, rules, p) {
		t.Fatal(p)
	}
	for why, change := range map[string]func(p []pstep) []pstep{
		"no steps":                        func(p []pstep) []pstep { return nil },
		"the first missing":               func(p []pstep) []pstep { return p[1:] },
		"one in the middle missing":       func(p []pstep) []pstep { return slices.Delete(p, 3, 4) },
		"turned round":                    func(p []pstep) []pstep { slices.Reverse(p); return p },
		"given, with a use":               func(p []pstep) []pstep { p[1].Uses = []int64{0}; return p },
		"given, with a use of its own":    func(p []pstep) []pstep { p[2].Uses = []int64{2}; return p },
		"given, and not in the graph":     func(p []pstep) []pstep { return append(p, given(p[3].Triple)...) },
		"made, told to be given":          func(p []pstep) []pstep { p[3] = given(p[3].Triple)[0]; return p },
		"given, told to be made":          func(p []pstep) []pstep { p[1].Rule = 0; return p },
		"given, and no triple":            func(p []pstep) []pstep { return append(p, pstep{Rule: -1}) },
		"the zero step":                   func(p []pstep) []pstep { return append(p, pstep{}) },
		"rule -2":                         func(p []pstep) []pstep { p[3].Rule = -2; return p },
		"rule -2 of what is given":        func(p []pstep) []pstep { p[0].Rule = -2; return p },
		"just the number of rules":        func(p []pstep) []pstep { p[5].Rule = 3; return p },
		"the least rule":                  func(p []pstep) []pstep { p[0].Rule = math.MinInt64; return p },
		"the greatest rule":               func(p []pstep) []pstep { p[5].Rule = math.MaxInt64; return p },
		"a rule by its low bits":          func(p []pstep) []pstep { p[5].Rule = 1<<32 + 2; return p },
		"another rule":                    func(p []pstep) []pstep { p[3].Rule = 1; return p },
		"a rule with fewer patterns":      func(p []pstep) []pstep { p[4].Rule = 2; return p },
		"no uses":                         func(p []pstep) []pstep { p[5].Uses = nil; return p },
		"a use too few":                   func(p []pstep) []pstep { p[4].Uses = p[4].Uses[:1]; return p },
		"a use too many":                  func(p []pstep) []pstep { p[5].Uses = []int64{4, 4}; return p },
		"a use too many at the end":       func(p []pstep) []pstep { p[4].Uses = []int64{2, 3, 3}; return p },
		"uses in another order":           func(p []pstep) []pstep { p[4].Uses = []int64{3, 2}; return p },
		"another use":                     func(p []pstep) []pstep { p[4].Uses = []int64{2, 1}; return p },
		"one use twice":                   func(p []pstep) []pstep { p[4].Uses = []int64{2, 2}; return p },
		"a use below 0":                   func(p []pstep) []pstep { p[3].Uses[0] = -1; return p },
		"the least use":                   func(p []pstep) []pstep { p[3].Uses[0] = math.MinInt64; return p },
		"the greatest use":                func(p []pstep) []pstep { p[3].Uses[1] = math.MaxInt64; return p },
		"a use by its low bits":           func(p []pstep) []pstep { p[3].Uses[1] = 1<<32 + 1; return p },
		"a use of its own place":          func(p []pstep) []pstep { p[5].Uses[0] = 5; return p },
		"a use behind":                    func(p []pstep) []pstep { p[3].Uses[0] = 5; return p },
		"a use behind all":                func(p []pstep) []pstep { p[5].Uses[0] = 6; return p },
		"a variable with two terms":       func(p []pstep) []pstep { p[3].Uses[0] = 1; return p },
		"another S":                       func(p []pstep) []pstep { p[5].Triple.S = "<b>"; return p },
		"another P":                       func(p []pstep) []pstep { p[5].Triple.P = "<b>"; return p },
		"another O":                       func(p []pstep) []pstep { p[5].Triple.O = "<b>"; return p },
		"the head itself":                 func(p []pstep) []pstep { p[5].Triple = rules[2].Head; return p },
		"no triple":                       func(p []pstep) []pstep { p[5].Triple = triple{}; return p },
		"a wrong one behind a right one":  func(p []pstep) []pstep { return append(p, by(0, "<a> <sub> <d> .", 0, 1)) },
		"a wrong one ahead of right ones": func(p []pstep) []pstep { p[0].Triple.O = "<d>"; return p },
	} {
		_, _, q := aProof()
		q = change(q)
		if impl.ProofOk(g, rules, q) || plainProofOk(g, rules, q) {
			t.Errorf("%s: %v", why, q)
		}
	}
	for i, x := range g {
		less := slices.Delete(slices.Clone(g), i, i+1)
		if impl.ProofOk(less, rules, p) != (i == 2) {
			t.Error("without " + textOf(x))
		}
	}
	for n := range 3 {
		if impl.ProofOk(g, rules[:n], p) || impl.ProofOk(g, rules[:n], p[:3]) != true || impl.ProofOk(g, rules[:n], p[:4]) != (n > 0) {
			t.Errorf("%d rules", n)
		}
	}
}

// A proof need not be the one of ProofOf: it may have more than it needs, one triple twice, and steps in another order.
func TestOtherProofsThatAreRight(t *testing.T) {
	g, rules, p := aProof()
	for n := 1; n <= len(p); n++ {
		if !impl.ProofOk(g, rules, p[:n]) {
			t.Errorf("the first %d steps", n)
		}
	}
	for why, q := range map[string][]pstep{
		"all of the graph":              append(given(g...), by(0, "<a> <sub> <c> .", 0, 1)),
		"one given twice":               given(g[2], g[2]),
		"given in another order":        append(given(g[1], g[0]), by(0, "<a> <sub> <c> .", 1, 0)),
		"one made twice":                append(slices.Clone(p), p[3], p[4]),
		"the last step not needed":      append(slices.Clone(p), given(g[2])...),
		"no list of uses and an empty":  {{Triple: g[0], Rule: -1}, {Triple: g[1], Rule: -1, Uses: []int64{}}},
		"what was made, and then given": append(given(g[3]), by(2, "<a> <has> <x> .", 0), given(g[0])[0], by(2, "<a> <has> <x> .", 0)),
	} {
		if !impl.ProofOk(g, rules, q) || !plainProofOk(g, rules, q) {
			t.Errorf("%s: %v", why, q)
		}
	}
	round := readRules("?x <p> ?y . => ?y <p> ?x .")
	back := append(given(readPatterns("<a> <p> <b> .")...), by(0, "<b> <p> <a> .", 0), by(0, "<a> <p> <b> .", 1))
	if !impl.ProofOk(readPatterns("<a> <p> <b> ."), round, back) {
		t.Error("what is given, made of what was made of it")
	}
	back[0].Rule, back[0].Uses = 0, []int64{1}
	if impl.ProofOk(readPatterns("<a> <p> <b> ."), round, back) {
		t.Error("two that need each other")
	}
}

func TestStepsOfRulesThatAreSpecial(t *testing.T) {
	g := inOrder(readPatterns("<a> <p> \"t\" . <a> <p> <b> . <a> <p> _:b . <b> <b> <b> . <a> <p> <a> ."))
	at := func(s string) int64 { return int64(slices.Index(g, readPatterns(s)[0])) }
	for _, c := range []struct {
		rule, made string
		uses       []int64
		want       bool
	}{
		{"?x <p> ?y . => ?y <q> ?x .", "<b> <q> <a> .", []int64{at("<a> <p> <b> .")}, true},
		{"?x <p> ?y . => ?y <q> ?x .", "_:b <q> <a> .", []int64{at("<a> <p> _:b .")}, true},
		{"?x <p> ?y . => ?y <q> ?x .", "\"t\" <q> <a> .", []int64{at("<a> <p> \"t\" .")}, false},
		{"?x <p> ?y . => ?x ?y ?x .", "<a> <b> <a> .", []int64{at("<a> <p> <b> .")}, true},
		{"?x <p> ?y . => ?x ?y ?x .", "<a> _:b <a> .", []int64{at("<a> <p> _:b .")}, false},
		{"?x <p> ?y . => ?x ?y ?x .", "<a> ?y <a> .", []int64{at("<a> <p> <b> .")}, false},
		{"?x ?x ?x . => ?x <q> ?x .", "<b> <q> <b> .", []int64{at("<b> <b> <b> .")}, true},
		{"?x <p> ?x . => ?x <q> ?x .", "<a> <q> <a> .", []int64{at("<a> <p> <a> .")}, true},
		{"?x <p> ?x . => ?x <q> ?x .", "<a> <q> <a> .", []int64{at("<a> <p> <b> .")}, false},
		{"?x <p> ?x . => ?x <q> ?x .", "<b> <q> <b> .", []int64{at("<a> <p> <b> .")}, false},
		{"?x ?y ?y . => ?x <q> ?y .", "<b> <q> <b> .", []int64{at("<b> <b> <b> .")}, true},
		{"<a> <p> <b> . => <z> <z> <z> .", "<z> <z> <z> .", []int64{at("<a> <p> <b> .")}, true},
		{"<a> <p> <b> . => <z> <z> <z> .", "<z> <z> <z> .", []int64{at("<a> <p> <a> .")}, false},
		{"<a> <p> <b> . => <z> <z> <z> .", "<a> <p> <b> .", []int64{at("<a> <p> <b> .")}, false},
		{"<a> <p> _:b . ?x ?x ?y . => <z> <z> <z> .", "<z> <z> <z> .", []int64{at("<a> <p> _:b ."), at("<b> <b> <b> .")}, true},
		{"<a> <p> _:b . ?x ?x ?y . => <z> <z> <z> .", "<z> <z> <z> .", []int64{at("<a> <p> <b> ."), at("<b> <b> <b> .")}, false},
		{"?x <p> ?y . ?x <p> ?z . => ?y <q> ?z .", "<b> <q> \"t\" .", []int64{at("<a> <p> <b> ."), at("<a> <p> \"t\" .")}, true},
		{"?x <p> ?y . ?x <p> ?z . => ?y <q> ?z .", "<b> <q> <b> .", []int64{at("<a> <p> <b> ."), at("<a> <p> <b> .")}, true},
		{"?x <p> ?y . ?y ?z ?y . => ?z <q> ?x .", "<b> <q> <a> .", []int64{at("<a> <p> <b> ."), at("<b> <b> <b> .")}, true},
		{"?x <p> ?y . ?y ?z ?y . => ?z <q> ?x .", "<b> <q> <a> .", []int64{at("<a> <p> <a> ."), at("<b> <b> <b> .")}, false},
	} {
		p := append(given(g...), by(0, c.made, c.uses...))
		if got := impl.ProofOk(g, readRules(c.rule), p); got != c.want {
			t.Errorf("%s makes %s of %v: %v", c.rule, c.made, c.uses, got)
		}
	}
}

func TestEightyStepsAreNotTooMany(t *testing.T) {
	g, rules := manyTriples(80), readRules("?x ?p ?y . => <z> ?p ?x .")
	for n := range 83 {
		same := slices.Repeat(given(g[0]), n)
		mixed := append(given(g[0]), slices.Repeat([]pstep{by(0, "<z> <pa> <a> .", 0)}, max(n-1, 0))...)
		for _, p := range [][]pstep{same, mixed[:min(n, len(mixed))], given(append(g, g...)...)[:n]} {
			if impl.ProofOk(g, rules, p) != (n >= 1 && n <= 80) {
				t.Errorf("%d steps: %v", n, p)
			}
		}
	}
}

// brokenBy changes one thing in one step of a proof.
func brokenBy(dice *rand.Rand, p []pstep) []pstep {
	q := slices.Clone(p)
	i, j := dice.Intn(len(q)), dice.Intn(len(q))
	s := pstep{Triple: q[i].Triple, Rule: q[i].Rule, Uses: slices.Clone(q[i].Uses)}
	switch dice.Intn(6) {
	case 0:
		s.Rule = int64(dice.Intn(6) - 2)
	case 1:
		s.Triple = q[j].Triple
	case 2:
		q[i], q[j] = q[j], q[i]
		return q
	case 3:
		s.Uses = append(s.Uses, int64(dice.Intn(4)-1))
	case 4:
		return slices.Delete(q, i, i+1)
	default:
		if len(s.Uses) > 0 {
			s.Uses[dice.Intn(len(s.Uses))] = int64(dice.Intn(len(q)+2) - 1)
		}
	}
	q[i] = s
	return q
}

func TestProofsThatWereChanged(t *testing.T) {
	dice := rand.New(rand.NewSource(59))
	right, wrong := 0, 0
	for range 400 {
		g, rules := chosen(knot(), dice.Intn(1<<11)|1<<dice.Intn(11)), rulesBy(dice, 1+dice.Intn(4))
		come, fits := plainSteps(g, rules)
		if !fits {
			continue
		}
		for range 30 {
			p := plainProof(come, dice.Intn(len(come)))
			if dice.Intn(3) == 0 {
				p = come
			}
			p = brokenBy(dice, p)
			want := plainProofOk(g, rules, p)
			if got := impl.ProofOk(g, rules, p); got != want {
				t.Fatalf("ProofOk(%v, %v, %v) = %v, want %v", g, rules, p, got, want)
			}
			if !want {
				wrong++
				continue
			}
			right++
			// Whatever a right proof ends with, it is in the closure of its leaves.
			leaves := impl.LeavesOf(p)
			if c, ok := impl.Closure(leaves, rules); !ok || !slices.Contains(c, p[len(p)-1].Triple) || !impl.ProofOk(leaves, rules, p) {
				t.Fatalf("%v proves nothing from %v", p, leaves)
			}
		}
	}
	if right < 500 || wrong < 2000 {
		t.Errorf("%d right, %d wrong", right, wrong)
	}
}
