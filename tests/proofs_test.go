package tests

import (
	"math/rand"
	"slices"
	"testing"

	"loop.example/g00420/impl"
)

type pstep = impl.PStep

func sameStep(a, b pstep) bool {
	return a.Triple == b.Triple && a.Rule == b.Rule && slices.Equal(a.Uses, b.Uses)
}

func sameProof(a, b []pstep) bool { return slices.EqualFunc(a, b, sameStep) }

func given(l ...triple) []pstep {
	var p []pstep
	for _, x := range l {
		p = append(p, pstep{Triple: x, Rule: -1})
	}
	return p
}

func by(n int64, s string, uses ...int64) pstep {
	return pstep{Triple: readPatterns(s)[0], Rule: n, Uses: uses}
}

func wantProof(t *testing.T, what string, got []pstep, ok bool, want []pstep) {
	t.Helper()
	if !ok || !sameProof(got, want) {
		t.Errorf("%s: %v, %v, want %v", what, got, ok, want)
	}
}

func wantNoProof(t *testing.T, what string, got []pstep, ok bool) {
	t.Helper()
	if ok || len(got) != 0 {
		t.Errorf("%s: %v, %v", what, got, ok)
	}
}

// plainRound gives what one round takes in, each by the first rule and its first row that make it.
func plainRound(all []triple, come []pstep, rules []rule) []pstep {
	var made []pstep
	has := func(l []pstep, x triple) int { return slices.IndexFunc(l, func(s pstep) bool { return s.Triple == x }) }
	for i, r := range rules {
		for _, row := range plainMemory(all, r.Body) {
			x := plainFilled(row, r.Head)
			if !impl.TripleOk(x) || has(come, x) >= 0 || has(made, x) >= 0 {
				continue
			}
			s := pstep{Triple: x, Rule: int64(i)}
			for _, p := range r.Body {
				s.Uses = append(s.Uses, int64(has(come, plainFilled(row, p))))
			}
			made = append(made, s)
		}
	}
	slices.SortFunc(made, func(a, b pstep) int {
		if inOrder([]triple{a.Triple, b.Triple})[0] == a.Triple {
			return -1
		}
		return 1
	})
	return made
}

// plainSteps gives a step for each triple of the closure, in the order in which they come; false where the closure is.
func plainSteps(g []triple, rules []rule) ([]pstep, bool) {
	come, all := given(g...), g
	for plainRoom(all, rules) {
		made := plainRound(all, come, rules)
		if len(made) == 0 {
			return come, true
		}
		come = append(come, made...)
		for _, s := range made {
			all = append(slices.Clone(all), s.Triple)
		}
		if all = inOrder(all); len(all) > 80 {
			break
		}
	}
	return nil, false
}

// plainProof goes back from the last step, and takes what is used by what is taken.
func plainProof(come []pstep, goal int) []pstep {
	needs := map[int64]bool{int64(goal): true}
	for i := goal; i >= 0; i-- {
		for _, use := range come[i].Uses {
			needs[use] = needs[use] || needs[int64(i)]
		}
	}
	var proof []pstep
	for i, s := range come {
		if !needs[int64(i)] {
			continue
		}
		next := pstep{Triple: s.Triple, Rule: s.Rule}
		for _, use := range s.Uses {
			next.Uses = append(next.Uses, int64(slices.IndexFunc(proof, func(x pstep) bool { return x.Triple == come[use].Triple })))
		}
		proof = append(proof, next)
	}
	return proof
}

// checkProof sees that a proof is one, has nothing that it does not need, and proves its last triple from its leaves alone.
func checkProof(t *testing.T, g []triple, rules []rule, goal triple, p []pstep) {
	t.Helper()
	if !impl.ProofOk(g, rules, p) || p[len(p)-1].Triple != goal {
		t.Fatalf("%v is no proof of %v", p, goal)
	}
	used := map[int64]bool{int64(len(p) - 1): true}
	for _, s := range p {
		for _, use := range s.Uses {
			used[use] = true
		}
	}
	if len(used) != len(p) {
		t.Errorf("%v has what it does not need", p)
	}
	leaves := impl.LeavesOf(p)
	if !impl.GraphOk(leaves) || !hasAll(g, leaves) || !impl.ProofOk(leaves, rules, p) {
		t.Errorf("%v does not prove %v from %v", p, goal, leaves)
	}
	if c, ok := impl.Closure(leaves, rules); !ok || !slices.Contains(c, goal) {
		t.Errorf("%v is not in the closure of %v", goal, leaves)
	}
}

func TestProofsOfAFewTriples(t *testing.T) {
	g := readPatterns("<a> <p> <b> . <b> <p> <c> . <c> <p> <d> . <q> <p> <r> .")
	chain := readRules("?x <p> ?y . ?y <p> ?z . => ?x <p> ?z .")
	for _, c := range []struct {
		what  string
		rules []rule
		goal  string
		want  []pstep
	}{
		{"given, without rules", nil, "<b> <p> <c> .", given(g[1])},
		{"given, with rules", chain, "<a> <p> <b> .", given(g[0])},
		{"given, and made too", readRules("?x <p> ?y . => ?x <p> ?y .", "<a> <p> <b> . => <q> <p> <r> ."), "<q> <p> <r> .", given(g[3])},
		{"in the first round", chain, "<a> <p> <c> .", append(given(g[:2]...), by(0, "<a> <p> <c> .", 0, 1))},
		{"the first two are not needed", chain, "<b> <p> <d> .", append(given(g[1:3]...), by(0, "<b> <p> <d> .", 0, 1))},
		{"in the second round, by the first row", chain, "<a> <p> <d> .", append(given(g[:3]...), by(0, "<b> <p> <d> .", 1, 2), by(0, "<a> <p> <d> .", 0, 3))},
		{"patterns in another order than what they use", readRules("?y <p> ?z . ?x <p> ?y . => ?x <q> ?z ."), "<a> <q> <c> .", append(given(g[:2]...), by(0, "<a> <q> <c> .", 1, 0))},
		{"a triple for two patterns", readRules("<q> <p> ?y . ?x ?p <r> . => ?x <q> ?y ."), "<q> <q> <r> .", append(given(g[3]), by(0, "<q> <q> <r> .", 0, 0))},
		{"two rules, the first", readRules("?x <p> ?y . => <z> <z> ?y .", "?x <p> <b> . => <z> <z> <b> ."), "<z> <z> <b> .", append(given(g[0]), by(0, "<z> <z> <b> .", 0))},
		{"two rules, the other way round", readRules("?x <p> <b> . => <z> <z> <b> .", "?x <p> ?y . => <z> <z> ?y ."), "<z> <z> <b> .", append(given(g[0]), by(0, "<z> <z> <b> .", 0))},
		{"two rules with unlike uses", readRules("?w <q> ?y . ?x <p> ?y . => <z> <z> ?y .", "?x <p> ?y . <q> <p> ?z . => <z> <z> ?y .", "?x <p> <d> . => <z> <z> <d> ."), "<z> <z> <d> .", append(given(g[2:]...), by(1, "<z> <z> <d> .", 0, 1))},
		{"two rows, the first", readRules("?x <p> ?y . => <z> <z> <z> ."), "<z> <z> <z> .", append(given(g[0]), by(0, "<z> <z> <z> .", 0))},
		{"the round counts ahead of the rule", readRules("?x <r> ?y . => <z> <z> <z> .", "<q> <p> ?y . => <z> <z> <z> .", "?x <p> ?y . => ?x <r> ?y ."), "<z> <z> <z> .", append(given(g[3]), by(1, "<z> <z> <z> .", 0))},
		{"the first rule in the second round", readRules("?x <r> ?y . => <z> <z> <z> .", "?x <r> <d> . => <z> <z> <z> .", "?x <p> ?y . => ?x <r> ?y ."), "<z> <z> <z> .", append(given(g[0]), by(2, "<a> <r> <b> .", 0), by(0, "<z> <z> <z> .", 1))},
		{"of one round only what is needed", readRules("?x <p> ?y . => ?y <r> ?x .", "<d> <r> ?x . ?x <p> ?y . => ?x <s> ?y ."), "<c> <s> <d> .", append(given(g[2]), by(0, "<d> <r> <c> .", 0), by(1, "<c> <s> <d> .", 1, 0))},
		{"one that is needed twice stands once", readRules("<a> <p> ?y . => ?y <r> ?y .", "?x <r> ?x . <a> <p> ?x . ?x <r> ?y . => <z> <z> ?x ."), "<z> <z> <b> .", append(given(g[0]), by(0, "<b> <r> <b> .", 0), by(1, "<z> <z> <b> .", 1, 0, 1))},
		{"no variables", readRules("<q> <p> <r> . <a> <p> <b> . => <z> <z> \"t\" ."), "<z> <z> \"t\" .", append(given(g[0], g[3]), by(0, "<z> <z> \"t\" .", 1, 0))},
	} {
		goal := readPatterns(c.goal)[0]
		got, ok := impl.ProofOf(g, c.rules, goal)
		wantProof(t, c.what, got, ok, c.want)
		checkProof(t, g, c.rules, goal, got)
	}
}

// Of two rows the first is the one whose text is, by the least variable: not the one of the first triple.
func TestAProofIsByTheFirstRow(t *testing.T) {
	g, goal := readPatterns("<a> <p> <d> . <b> <p> <c> . <c> <q> <y> . <d> <q> <x> ."), "<z> <z> <z> ."
	for _, c := range []struct {
		rule string
		used []triple
		uses []int64
	}{
		{"?x <p> ?y . => <z> <z> <z> .", g[:1], []int64{0}},
		{"?y <p> ?x . => <z> <z> <z> .", g[1:2], []int64{0}},
		{"?x <p> ?10 . => <z> <z> <z> .", g[1:2], []int64{0}},
		{"?x <p> ?y . ?y <q> ?z . => <z> <z> <z> .", []triple{g[0], g[3]}, []int64{0, 1}},
		{"?y <q> ?x . ?z <p> ?y . => <z> <z> <z> .", []triple{g[0], g[3]}, []int64{1, 0}},
		{"?z <p> ?y . ?y <q> ?a . => <z> <z> <z> .", []triple{g[0], g[3]}, []int64{0, 1}},
		{"?z <p> ?a . ?a <q> ?y . => <z> <z> <z> .", []triple{g[1], g[2]}, []int64{0, 1}},
		{"?a <q> ?z . ?y <p> ?a . => <z> <z> <z> .", []triple{g[1], g[2]}, []int64{1, 0}},
	} {
		got, ok := impl.ProofOf(g, readRules(c.rule), readPatterns(goal)[0])
		wantProof(t, c.rule, got, ok, append(given(c.used...), by(0, goal, c.uses...)))
	}
}

// A row that would make a triple again is of no use for its proof, also when it is the first in order by then.
func TestAProofIsByWhatWasThereAheadOfItsRound(t *testing.T) {
	rules := readRules("?x <p> ?y . => <a> <p> ?x .", "?x <p> ?y . => ?x <q> <z> .")
	g := readPatterns("<b> <p> <c> .")
	got, ok := impl.ProofOf(g, rules, triple{S: "<a>", P: "<p>", O: "<b>"})
	wantProof(t, "the first round", got, ok, append(given(g[0]), by(0, "<a> <p> <b> .", 0)))
	got, ok = impl.ProofOf(g, rules, triple{S: "<a>", P: "<p>", O: "<a>"})
	wantProof(t, "the second round", got, ok, append(given(g[0]), by(0, "<a> <p> <b> .", 0), by(0, "<a> <p> <a> .", 1)))
	// In the third round <a> <p> <a> is the first row for the second rule's head, which is there by then.
	got, ok = impl.ProofOf(g, readRules("?x <p> ?y . => <a> <p> ?x .", "?x <p> ?y . => <z> <z> <z> ."), triple{S: "<z>", P: "<z>", O: "<z>"})
	wantProof(t, "another rule", got, ok, append(given(g[0]), by(1, "<z> <z> <z> .", 0)))
}

func TestThereIsAProofOfJustWhatIsInTheClosure(t *testing.T) {
	dice := rand.New(rand.NewSource(53))
	proofs, long, refused := 0, 0, 0
	for range 150 {
		g, rules := chosen(knot(), dice.Intn(1<<11)), rulesBy(dice, dice.Intn(7))
		come, fits := plainSteps(g, rules)
		all, ok := impl.Closure(g, rules)
		if ok != fits || len(all) != len(come) {
			t.Fatalf("Closure(%v, %v) = %v, %v", g, rules, all, ok)
		}
		if !fits {
			refused++
		}
		for i, s := range come {
			got, ok := impl.ProofOf(g, rules, s.Triple)
			wantProof(t, "ProofOf", got, ok, plainProof(come, i))
			checkProof(t, g, rules, s.Triple, got)
			if t.Failed() {
				t.Fatalf("ProofOf(%v, %v, %v)", g, rules, s.Triple)
			}
			proofs++
			if len(got) > 4 {
				long++
			}
		}
		for _, x := range slices.Concat(knot(), strangersTo(dice), wrongTriples()) {
			if !slices.Contains(all, x) {
				got, ok := impl.ProofOf(g, rules, x)
				wantNoProof(t, "not in the closure: "+textOf(x), got, ok)
			}
		}
	}
	if proofs < 1000 || long < 100 || refused < 5 {
		t.Errorf("%d proofs, %d long ones, %d refused", proofs, long, refused)
	}
}

func TestProofsByTheOntology(t *testing.T) {
	g := readPatterns("<c> <disj> <d> . <c> <sub> <e> . <p> <dom> <c> . <p> <inv> <q> . <q> <dom> <d> . <x> <p> <y> . <x> <same> <z> . <x> <type> <d> .")
	rules := impl.OwlRules()
	come, fits := plainSteps(g, rules)
	if !fits || len(come) < 20 {
		t.Fatal(come)
	}
	for i, s := range come {
		got, ok := impl.ProofOf(g, rules, s.Triple)
		wantProof(t, textOf(s.Triple), got, ok, plainProof(come, i))
		checkProof(t, g, rules, s.Triple, got)
	}
}

func TestProofsOfEightyTriples(t *testing.T) {
	all := manyTriples(81)
	for i, x := range all {
		got, ok := impl.ProofOf(all[:80], nil, x)
		if i < 80 {
			wantProof(t, "one of 80", got, ok, given(x))
		} else {
			wantNoProof(t, "the 81st", got, ok)
		}
	}
	// Each of 79 is given, and a rule needs three of them, one of these twice.
	g, rules := all[:79], []rule{{Body: []triple{all[70], all[3], all[70], all[78]}, Head: triple{S: "<z>", P: "<z>", O: "<z>"}}}
	got, ok := impl.ProofOf(g, rules, rules[0].Head)
	wantProof(t, "three of 79", got, ok, append(given(all[3], all[70], all[78]), pstep{Triple: rules[0].Head, Uses: []int64{1, 0, 1, 2}}))
}

// aLadder gives n rungs, the first of which is known to be good: a closure that has all of them comes in n rounds.
func aLadder(n int) ([]triple, []rule) {
	g := []triple{{S: "<aa>", P: "<is>", O: "<good>"}}
	for i := range n {
		g = append(g, triple{S: "<" + varName(i)[1:] + ">", P: "<next>", O: "<" + varName(i + 1)[1:] + ">"})
	}
	return inOrder(g), readRules("?x <next> ?y . ?x <is> ?c . => ?y <is> ?c .", "<"+varName(n)[1:]+"> <is> <good> . => <all> <is> <good> .")
}

func TestAProofOfEightySteps(t *testing.T) {
	goal := triple{S: "<all>", P: "<is>", O: "<good>"}
	g, rules := aLadder(39)
	got, ok := impl.ProofOf(g, rules, goal)
	if !ok || len(got) != 80 || got[40].Triple != (triple{S: "<ab>", P: "<is>", O: "<good>"}) || got[79].Rule != 1 || !slices.Equal(got[78].Uses, []int64{39, 77}) {
		t.Fatal(got, ok)
	}
	checkProof(t, g, rules, goal, got)
	if leaves := impl.LeavesOf(got); !slices.Equal(leaves, g) {
		t.Error(leaves)
	}
	got, ok = impl.ProofOf(g, rules, triple{S: "<ad>", P: "<is>", O: "<good>"})
	if !ok || len(got) != 7 {
		t.Error(got)
	}
	g, rules = aLadder(40)
	for _, x := range append(g, goal) {
		got, ok = impl.ProofOf(g, rules, x)
		wantNoProof(t, "82 triples", got, ok)
	}
}

// Where there is no closure there is no proof, not even of what is given.
func TestNoProofWhereThereIsNoClosure(t *testing.T) {
	full := readRules("?x <p> ?y . => <z> <z> <z> .")
	for why, c := range map[string]struct {
		g     []triple
		rules []rule
	}{
		"81 triples":           {twoKinds(80, 0), full},
		"81 in a later round":  {twoKinds(20, 1), readRules("?x <p> ?y . => ?x <r> ?y .", "?x <r> ?y . => ?x <s> ?y .", "?x <s> ?y . => ?x <t> ?y .")},
		"301 rows":             {twoKinds(7, 43), readRules("<a> <p> ?x . <a> <q> ?y . => <a> <p> <aa> .")},
		"301 rows, no more":    {twoKinds(7, 43), readRules("<a> <p> ?x . <a> <q> ?y . ?y <q> ?x . => <a> <p> <aa> .")},
		"324 in a later round": {twoKinds(17, 0), readRules("?a <p> ?b . ?c <p> ?d . => <a> <p> <aa> .", "?x <p> ?y . => ?x <p> <new> .")},
		"31 rules":             {twoKinds(2, 0), numberedRules(31)},
		"a wrong rule":         {twoKinds(2, 0), append(numberedRules(2), rule{})},
		"a wrong rule of 30":   {twoKinds(2, 0), append(numberedRules(29), rule{})},
		"not in order":         {[]triple{twoKinds(2, 0)[1], twoKinds(2, 0)[0]}, nil},
		"81 given":             {twoKinds(40, 41), nil},
	} {
		for _, x := range append(c.g, triple{S: "<z>", P: "<z>", O: "<z>"}, triple{}) {
			got, ok := impl.ProofOf(c.g, c.rules, x)
			wantNoProof(t, why, got, ok)
		}
	}
	got, ok := impl.ProofOf(twoKinds(79, 0), full, triple{S: "<z>", P: "<z>", O: "<z>"})
	wantProof(t, "79 and one", got, ok, append(given(twoKinds(1, 0)[0]), by(0, "<z> <z> <z> .", 0)))
	got, ok = impl.ProofOf(nil, full, triple{S: "<z>", P: "<z>", O: "<z>"})
	wantNoProof(t, "no triples", got, ok)
	// A proof asks for no more than its own steps.
	if p := append(given(twoKinds(1, 0)[0]), by(0, "<z> <z> <z> .", 0)); !impl.ProofOk(twoKinds(80, 0), full, p) {
		t.Error("a proof where there is no closure")
	}
}

func TestProofsOfWhatIsNotRight(t *testing.T) {
	for why, g := range wrongGraphs() {
		for _, rules := range [][]rule{nil, numberedRules(1)} {
			for _, x := range append(slices.Clone(g), triple{}) {
				got, ok := impl.ProofOf(g, rules, x)
				wantNoProof(t, why, got, ok)
			}
			if impl.ProofOk(g, rules, given(g[0])) || impl.ProofOk(g, rules, given(g[len(g)-1])) {
				t.Error("a proof of " + why)
			}
		}
	}
	x := readPatterns("<a> <p> <b> .")[0]
	for why, r := range wrongRules() {
		for i := range 3 {
			rules := slices.Insert(numberedRules(2), i, r)
			got, ok := impl.ProofOf([]triple{x}, rules, x)
			wantNoProof(t, why, got, ok)
			if impl.ProofOk([]triple{x}, rules, given(x)) {
				t.Error("a proof with a rule: " + why)
			}
		}
	}
	for n := 30; n <= 31; n++ {
		if impl.ProofOk([]triple{x}, numberedRules(n), given(x)) != (n == 30) {
			t.Errorf("a proof with %d rules", n)
		}
	}
}

func TestLeavesOfSteps(t *testing.T) {
	w := smallWorld()
	odd := []triple{{}, {S: "?x", P: "x", O: "\""}}
	for _, c := range []struct {
		what string
		p    []pstep
		want []triple
	}{
		{"none", nil, nil},
		{"none that is given", []pstep{by(0, "<a> <p> <b> ."), by(1, "<a> <p> <c> .", 0), by(-2, "<a> <p> <d> ."), by(29, "<a> <p> <e> .")}, nil},
		{"all", given(w...), w},
		{"some", append([]pstep{by(0, "<a> <p> <b> ."), {Triple: w[2], Rule: -1}, by(1, "<a> <p> <c> .", 0)}, given(w[4])...), []triple{w[2], w[4]}},
		{"out of order", given(w[3], w[5], w[0], w[4], w[1], w[2]), w},
		{"one twice", given(w[3], w[0], w[3], w[3]), []triple{w[0], w[3]}},
		{"one given, and made as well", []pstep{{Triple: w[1], Rule: 0}, {Triple: w[1], Rule: -1}, {Triple: w[1], Rule: 2}}, w[1:2]},
		{"with uses", []pstep{{Triple: w[1], Rule: -1, Uses: []int64{7, -7}}}, w[1:2]},
		{"no right triples", given(odd[1], odd[0], odd[1]), odd},
		{"more than a graph has", given(append(manyTriples(90), manyTriples(90)...)...), manyTriples(90)},
	} {
		wantTriples(t, c.what, impl.LeavesOf(c.p), true, c.want)
	}
}
