package tests

import (
	"slices"
	"sync"
	"testing"

	"loop.example/g00420/impl"
)

// someRetractions is graphs, and graphs that have all of them or not, with rules that close them or do not.
func someRetractions() []base {
	list := []base{
		{}, someBase(), {Given: knot(), All: knot()}, {Given: knot()[:3], All: knot()},
		{Given: manyTriples(80), All: manyTriples(80)}, {Given: manyTriples(81), All: manyTriples(81)},
		{Rules: readRules("?x <p> ?y . => ?x <q> ?y ."), Given: twoKinds(39, 0), All: twoKinds(39, 39)},
		{Rules: readRules("?x <p> ?y . => ?x <q> ?y ."), Given: twoKinds(40, 0), All: twoKinds(40, 40)},
		{Rules: someBase().Rules, Given: someBase().Given, All: someBase().Given},
		{Rules: someBase().Rules, Given: someBase().All, All: someBase().All},
		{Rules: numberedRules(31), Given: twoKinds(0, 2), All: twoKinds(0, 2)},
		{Rules: []rule{{}}, Given: knot(), All: knot()},
		{Given: []triple{knot()[1], knot()[0]}, All: knot()},
	}
	for _, rules := range someRules() {
		for _, g := range [][]triple{knot()[2:5], twoKinds(3, 2)} {
			if all, ok := impl.Closure(g, rules); ok {
				list = append(list, base{Rules: rules, Given: g, All: all})
			}
		}
	}
	return list
}

func TestNothingIsWrittenIntoWhatIsRetractedAndNothingShared(t *testing.T) {
	for _, b := range someRetractions() {
		for _, x := range slices.Concat(b.Given[:min(len(b.Given), 4)], b.All[:min(len(b.All), 2)], []triple{{}}) {
			given := []any{b.Given, b.All, b.Rules}
			checkAllApart(t, "Doubted", given, func(args []any) []any {
				doubted, ok := impl.Doubted(args[0].([]triple), args[1].([]triple), args[2].([]rule), x)
				return []any{listOf(doubted, ok), ok}
			})
			checkAllApart(t, "Retracted", given, func(args []any) []any {
				left, next, ok := impl.Retracted(args[0].([]triple), args[1].([]triple), args[2].([]rule), x)
				return []any{listOf(left, ok), listOf(next, ok), ok}
			})
			checkAllApart(t, "Why", []any{b}, func(args []any) []any {
				reason, ok := impl.Why(args[0].(base), x)
				return []any{listOf(reason, ok), ok}
			})
		}
	}
}

func TestNothingIsWrittenIntoABaseAndNothingShared(t *testing.T) {
	plays := [][]kact{nil, {{}}, {add("<a> <p> <new> ."), {}, add("<b> <q> _:b ."), drop("<a> <p> <new> .")}, {drop("<z> <z> <z> .")}, slices.Repeat([]kact{add("<a> <p> <new> .")}, 101)}
	for _, b := range someRetractions() {
		checkAllApart(t, "BaseOk", []any{b}, func(args []any) []any { return []any{impl.BaseOk(args[0].(base))} })
		checkAllApart(t, "BaseNew", []any{b.Rules}, func(args []any) []any {
			got, ok := impl.BaseNew(args[0].([]rule))
			return []any{got, ok}
		})
		own := []kact{}
		for _, x := range b.Given[:min(len(b.Given), 3)] {
			own = append(own, kact{Kind: 2, Triple: x}, kact{Kind: 1, Triple: x}, kact{Kind: 3, Triple: x})
		}
		for _, acts := range append(plays, own) {
			checkAllApart(t, "BasePlay", []any{b, acts}, func(args []any) []any {
				got, codes := impl.BasePlay(args[0].(base), args[1].([]kact))
				return []any{got, codes}
			})
			for _, a := range acts[:min(len(acts), 6)] {
				checkAllApart(t, "BaseDo", []any{b}, func(args []any) []any {
					got, code := impl.BaseDo(args[0].(base), a)
					return []any{got, code}
				})
			}
		}
	}
}

// The lists of a base may be one another, and the bodies of its rules parts of one list.
func TestABaseWhoseListsAreOneAnother(t *testing.T) {
	body := readPatterns("?x <p> ?y . ?x <p> ?y . ?x <p> ?y . ?x <p> ?y .")
	var rules []rule
	for i := range body {
		rules = append(rules, rule{Body: body[:i+1], Head: triple{S: "?x", P: "<p>", O: "?y"}}, rule{Body: body[i:], Head: triple{S: "?x", P: "<p>", O: "?y"}})
	}
	all := knot()
	b := base{Rules: rules[:6], Given: all[:9], All: all[:9]}
	before := told(valueOf(all, rules, b), true)
	for _, a := range []kact{{Kind: 1, Triple: all[9]}, {Kind: 2, Triple: all[3]}, {Kind: 1, Triple: all[3]}, {Kind: 2, Triple: all[9]}, {}} {
		want, wantCode := plainDo(b, a)
		got, code := impl.BaseDo(b, a)
		wantBase(t, "BaseDo", got, code, want, wantCode)
		played, codes := impl.BasePlay(b, []kact{a, a})
		left, next, _ := impl.Retracted(b.Given, b.All, b.Rules, all[3])
		if n := sharing(spansIn(valueOf(got, played, codes, left, next))[1:], spansIn(valueOf(all, rules, body))); n > 0 {
			t.Errorf("%d lists share memory", n)
		}
		if told(valueOf(all, rules, b), true) != before {
			t.Fatal("an argument is written into")
		}
	}
}

// Bases that were made of one base can be told something else.
func TestTwoBasesOfOneDoNotMeet(t *testing.T) {
	b := someBase()
	left, code := impl.BaseDo(b, add("<c> <p> <d> ."))
	right, code2 := impl.BaseDo(b, drop("<a> <p> <b> ."))
	same, code3 := impl.BaseDo(b, kact{})
	scribble(same.Given)
	scribble(same.All)
	scribbleRules(same.Rules)
	third, code4 := impl.BaseDo(left, drop("<c> <p> <d> ."))
	wantBase(t, "the first one", b, code3, someBase(), 2)
	wantBase(t, "left", left, code, plainBase(b.Rules, readPatterns("<a> <p> <b> . <b> <p> <c> . <c> <o> \"t\" . <c> <p> <d> .")), 0)
	wantBase(t, "right", right, code2, plainBase(b.Rules, readPatterns("<b> <p> <c> . <c> <o> \"t\" .")), 0)
	wantBase(t, "third", third, code4, someBase(), 0)
}

func TestBasesAtTheSameTime(t *testing.T) {
	b, acts := someBase(), []kact{add("<c> <p> <d> ."), {}, drop("<a> <p> <b> ."), drop("<z> <z> <z> .")}
	want := plainBase(b.Rules, readPatterns("<b> <p> <c> . <c> <o> \"t\" . <c> <p> <d> ."))
	var all sync.WaitGroup
	for range 8 {
		all.Go(func() {
			for range 40 {
				got, codes := impl.BasePlay(b, acts)
				wantBase(t, "BasePlay", got, 0, want, 0)
				left, next, ok := impl.Retracted(b.Given, b.All, b.Rules, b.Given[1])
				wantRetracted(t, "Retracted", left, next, ok, readPatterns("<a> <p> <b> . <c> <o> \"t\" ."), readPatterns("<a> <p> <b> . <b> <q> <a> . <c> <o> \"t\" ."))
				reason, ok := impl.Why(b, readPatterns("<c> <q> <a> .")[0])
				wantTriples(t, "Why", reason, ok, b.Given[:2])
				// A call that refuses leaves nothing behind.
				if _, code := impl.BaseDo(base{All: b.All}, acts[0]); code != 1 || !slices.Equal(codes, []int64{0, 2, 0, 3}) {
					t.Error(code, codes)
				}
			}
		})
	}
	all.Wait()
}
