package tests

import (
	"go/ast"
	"go/parser"
	"go/token"
	"maps"
	"os"
	"path/filepath"
	"reflect"
	"slices"
	"strings"
	"testing"

	"loop.example/g00420/impl"
)

// everyFunction is each function of the document, by name.
func everyFunction() map[string]any {
	return map[string]any{
		"Escaped": impl.Escaped, "Unescaped": impl.Unescaped, "KindOf": impl.KindOf, "TextIn": impl.TextIn,
		"TripleOk": impl.TripleOk, "TripleText": impl.TripleText, "ReadTriple": impl.ReadTriple, "Ahead": impl.Ahead, "GraphOk": impl.GraphOk, "With": impl.With, "Without": impl.Without, "Union": impl.Union, "GraphText": impl.GraphText, "ReadGraph": impl.ReadGraph,
		"PrefixesOk": impl.PrefixesOk, "Shortened": impl.Shortened, "TurtleText": impl.TurtleText, "ReadTurtle": impl.ReadTurtle,
		"StoreOk": impl.StoreOk, "StoreOf": impl.StoreOf, "Found": impl.Found,
		"BgpOk": impl.BgpOk, "VarsOf": impl.VarsOf, "RowOk": impl.RowOk, "Filled": impl.Filled, "Merged": impl.Merged, "Solutions": impl.Solutions, "Projected": impl.Projected, "Extended": impl.Extended,
		"RuleOk": impl.RuleOk, "RuleText": impl.RuleText, "ReadRule": impl.ReadRule, "Fired": impl.Fired,
		"Closure": impl.Closure, "Closed": impl.Closed, "StepFrom": impl.StepFrom,
		"OwlRules": impl.OwlRules, "ClashesOf": impl.ClashesOf, "Consistent": impl.Consistent,
		"ReteOk": impl.ReteOk, "ReteNew": impl.ReteNew, "ReteAdd": impl.ReteAdd, "ReteRun": impl.ReteRun,
		"ProofOk": impl.ProofOk, "ProofOf": impl.ProofOf, "LeavesOf": impl.LeavesOf,
		"Doubted": impl.Doubted, "Retracted": impl.Retracted,
		"BaseOk": impl.BaseOk, "BaseNew": impl.BaseNew, "BaseDo": impl.BaseDo, "BasePlay": impl.BasePlay, "Why": impl.Why,
		"BlanksOf": impl.BlanksOf, "Renamed": impl.Renamed, "Canonical": impl.Canonical, "Alike": impl.Alike,
		"PatchOk": impl.PatchOk, "PatchOf": impl.PatchOf, "Patched": impl.Patched, "Inverse": impl.Inverse, "Chained": impl.Chained,
		"DataOk": impl.DataOk, "DataGraph": impl.DataGraph, "DataWith": impl.DataWith, "DataWithout": impl.DataWithout, "DataMerged": impl.DataMerged,
		"DiskOk": impl.DiskOk, "Do": impl.Do, "Sync": impl.Sync, "Crash": impl.Crash, "ReadFile": impl.ReadFile, "Replace": impl.Replace,
		"FrameOf": impl.FrameOf, "TakeFrames": impl.TakeFrames, "StoreView": impl.StoreView, "StoreDo": impl.StoreDo, "StorePlay": impl.StorePlay,
		"QueryOk": impl.QueryOk, "QueryText": impl.QueryText, "ReadQuery": impl.ReadQuery, "Answer": impl.Answer, "RowsText": impl.RowsText,
		"RunScript": impl.RunScript,
	}
}

func TestEveryFunctionIsThere(t *testing.T) {
	paths, err := filepath.Glob(filepath.Join("..", "impl", "*.go"))
	if err != nil || len(paths) != 19 {
		t.Fatal(paths, err)
	}
	var names []string
	for _, path := range paths {
		text, err := os.ReadFile(path)
		if err != nil {
			t.Fatal(err)
		}
		f, err := parser.ParseFile(token.NewFileSet(), path, text, 0)
		if err != nil {
			t.Fatal(err)
		}
		for _, d := range f.Decls {
			if x, ok := d.(*ast.FuncDecl); ok && x.Recv == nil && x.Name.IsExported() {
				names = append(names, x.Name.Name)
			}
		}
	}
	slices.Sort(names)
	if want := slices.Sorted(maps.Keys(everyFunction())); !slices.Equal(names, want) {
		t.Errorf("%v, want %v", names, want)
	}
}

// valuesOf is values of all types that functions take: some that go together, some that are not right.
func valuesOf() []any {
	b, full, all := someBase(), manyTriples(81), knot()
	proof, _ := impl.ProofOf(b.Given, b.Rules, b.All[1])
	patterns := readPatterns("?x <p> ?y . ?y <p> ?z .")
	return slices.Concat([]any{
		int64(-1), int64(0), int64(1), []int64(nil), []int64{0}, []int64{0, 1}, []int64{1, 0}, []string(nil), []string{"?x", "?y"}, []string{"?y", "?y"}, []string{"x"},
		triple{}, all[3], b.Given[1], b.All[1], patterns[0], triple{P: "<p>"}, []triple(nil), b.Given, b.All, all, patterns, full[:80], full, []triple{all[1], all[0]},
		graphOf("<c> <disj> <d> . <x> <type> <c> . <x> <type> <d> . _:y <type> <nothing> . _:u <same> _:v . _:u <diff> _:v . _:w <type> <c> . _:w <type> <d> . _:x <type> <nothing> ."),
		[]prefix(nil), []prefix{{Name: "e", Long: "e:"}, {Name: "x", Long: "e"}}, []prefix{{Name: "E"}}, plainStore(all), store{Spo: all},
		[]pair(nil), readRow("?x=<a> ?y=<b>"), readRow("?z=\"t\""), renamings("_:b=_:c _:o=_:b"), readRow("?y=<a> ?x=<a>"), readRows("", "?x=<b>", "?x=<a>"), readRows("?x=x"), numberedRows(300), numberedRows(301),
		rule{}, b.Rules[0], b.Rules[1], []rule(nil), b.Rules, numberedRules(31), impl.OwlRules(), rete{}, someNet(), rete{Facts: full}, []pstep(nil), proof, append(proof, pstep{Rule: 9}),
		b, base{}, base{All: all}, kact{Kind: 1, Triple: all[3]}, kact{Kind: 2, Triple: b.Given[1]}, kact{}, []kact{{Kind: 1, Triple: all[3]}, {}, {Kind: 2, Triple: b.Given[1]}},
		aPatch("<a> <p> <b> .", "<a> <p> <a> ."), patch{Add: all}, patch{Drop: all}, patch{Add: full}, aDataset("<a>", "<a> <p> <b> .", "<g>", textOf(all[3])+" <b> <p> \"t\" ."), []named{{Name: "g"}},
		query{}, aQuery("?x ?z", "?x <p> ?y .", "?y <p> ?z ."), aQuery("?y", "?x <p> ?y .", ""),
	}, anyOf(someTexts()), anyOf([]disk{{}, aStore(), tornStore(), aDisk(filesOf("a", "1", "log", "x"), putOp("a", "2"), putOp("log", "3")), synced(filesOf("base", "broken")), {Live: filesOf("a", "x")}}),
		anyOf([]dop{{}, putOp("a", "x"), moveOp("a", "z"), goneOp("log")}), anyOf(someActs()), []any{someActs()[:9]})
}

func anyOf[T any](l []T) []any {
	var list []any
	for _, x := range l {
		list = append(list, x)
	}
	return list
}

// someTexts has texts of all that can be read, and ones that are none.
func someTexts() []string {
	return []string{
		"", "<a>", "<e:a>", "\"a\\n\"", "a\"\\", "_:b", "<g>", "a", "log", "<a> <p> \"t\" .", textOfAll(knot()), "@prefix e: <e:> .\ne:a a e:b ; e:p \"t\" , _:b .", plainRuleText(someBase().Rules[0]), "select ?x where ?x <p> ?y . also ?y <p> ?z .",
		plainFrame("one") + plainFrame("two") + "x", script("owl", "+ <c> <sub> <d> .", "+ <x> <type> <c> .", "why <x> <type> <d> .", "select ?c where <x> <type> ?c .", "clashes", "x", "size"),
	}
}

// argumentsOf gives all ways to choose an argument for each place.
func argumentsOf(f reflect.Type, values []any) [][]any {
	lists := [][]any{nil}
	for i := range f.NumIn() {
		var longer [][]any
		for _, l := range lists {
			for _, v := range values {
				if reflect.TypeOf(v) == f.In(i) {
					longer = append(longer, append(slices.Clone(l), v))
				}
			}
		}
		lists = longer
	}
	return lists
}

// answerOf gives all that f answers as one list.
func answerOf(f, args reflect.Value) reflect.Value {
	var in []reflect.Value
	for i := range args.Len() {
		in = append(in, args.Index(i).Elem())
	}
	var list []any
	for _, out := range f.Call(in) {
		list = append(list, out.Interface())
	}
	return reflect.ValueOf(list)
}

// checkSame calls f with arguments that have no spare room, with ones that have, and with each of them again.
func checkSame(t *testing.T, name string, f reflect.Value, given []any) string {
	t.Helper()
	tight, roomy := tightCopy(reflect.ValueOf(given)), roomyCopy(reflect.ValueOf(given))
	beforeTight, beforeRoomy := told(tight, true), told(roomy, true)
	first := answerOf(f, tight)
	want := told(first, false)
	answers := []reflect.Value{first, answerOf(f, roomy), answerOf(f, roomy), answerOf(f, tight)}
	var spans [][]span
	for i, answer := range answers {
		if got := told(answer, false); got != want {
			t.Errorf("%s of %s: %s, and then %s", name, beforeTight, want, got)
		}
		spans = append(spans, spansIn(answer)[1:])
		if n := sharing(spans[i], slices.Concat(slices.Concat(spans[:i]...), spansIn(tight), spansIn(roomy))); n > 0 {
			t.Errorf("%s of %s: %d lists of an answer share memory", name, beforeTight, n)
		}
	}
	if told(tight, true) != beforeTight || told(roomy, true) != beforeRoomy || told(tightCopy(reflect.ValueOf(given)), true) != beforeTight {
		t.Errorf("%s writes into an argument or behind it: %s", name, beforeTight)
	}
	return want
}

// Each function gives the same answers to the same arguments, whatever room is behind them, and leaves these as they are.
func TestEveryFunctionGivesTheSameAnswers(t *testing.T) {
	values := valuesOf()
	for name, f := range everyFunction() {
		answers, calls := map[string]bool{}, argumentsOf(reflect.TypeOf(f), values)
		for _, given := range calls {
			answers[checkSame(t, name, reflect.ValueOf(f), given)] = true
		}
		// A function that always answers the same would be held against nothing.
		if want := min(len(calls), 2); len(answers) < want || want == 0 {
			t.Errorf("%s: %d answers to %d calls", name, len(answers), len(calls))
		}
	}
}

// Whatever was called in between, in whatever order, an answer stays the same: nothing is kept.
func TestNothingIsKeptFromCallToCall(t *testing.T) {
	values, functions := valuesOf(), everyFunction()
	names := slices.Sorted(maps.Keys(functions))
	said := map[string]string{}
	for range 3 {
		for _, name := range names {
			f := reflect.ValueOf(functions[name])
			calls := argumentsOf(f.Type(), values)
			for i := 0; i < len(calls); i += 1 + len(calls)/20 {
				key := name + told(reflect.ValueOf(calls[i]), false)
				got := told(answerOf(f, reflect.ValueOf(calls[i])), false)
				if want, there := said[key]; there && got != want {
					t.Errorf("%s: %s, and then %s", key, want, got)
				}
				said[key] = got
			}
		}
		slices.Reverse(names)
	}
	if len(said) < 500 || !strings.Contains(strings.Join(names, " "), "RunScript") {
		t.Errorf("only %d calls", len(said))
	}
}
