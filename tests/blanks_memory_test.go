package tests

import (
	"slices"
	"sync"
	"testing"

	"loop.example/g00420/impl"
)

// someBlankGraphs is graphs with and without blanks, and ones that are not right.
func someBlankGraphs() [][]triple {
	return [][]triple{
		nil, {}, knot(), knot()[:1], smallWorld(), manyTriples(80), manyTriples(81), {knot()[1], knot()[0]}, {{}},
		graphOf("_:x <p> _:y . _:y <p> _:z . _:z <p> _:x . _:b0 <p> \"_:x\" . _:b1 <q> <a> ."),
		graphOf("_:b0 <p> <a> . _:b1 <p> _:b0 ."),
		graphOf("_:u <p> _:v . _:w <p> _:x . _:y <p> _:z ."),
	}
}

func TestNothingIsWrittenIntoAGraphOfBlanksAndNothingShared(t *testing.T) {
	lists := [][]pair{nil, {}, renamings("_:b=_:c"), renamings("_:x=_:y _:y=_:x _:x=_:z"), renamings("_:b=_:o _:o=_:b _:b0=_:b"), renamings("_:b=<a>"), {{}}}
	for _, g := range someBlankGraphs() {
		checkAllApart(t, "BlanksOf", []any{g}, func(args []any) []any { return []any{impl.BlanksOf(args[0].([]triple))} })
		checkAllApart(t, "Canonical", []any{g}, func(args []any) []any {
			got, ok := impl.Canonical(args[0].([]triple))
			return []any{listOf(got, ok), ok}
		})
		for _, l := range lists {
			checkAllApart(t, "Renamed", []any{g, l}, func(args []any) []any {
				got, ok := impl.Renamed(args[0].([]triple), args[1].([]pair))
				return []any{listOf(got, ok), ok}
			})
		}
		for _, other := range someBlankGraphs() {
			checkAllApart(t, "Alike", []any{g, other}, func(args []any) []any {
				return []any{impl.Alike(args[0].([]triple), args[1].([]triple))}
			})
		}
		checkAllApart(t, "Alike with itself", []any{g}, func(args []any) []any {
			return []any{impl.Alike(args[0].([]triple), args[0].([]triple))}
		})
	}
}

// somePatches is patches that can be done on the knot, ones that can not, and ones that are not right.
func somePatches() []patch {
	all, full := knot(), manyTriples(81)
	return []patch{
		{}, {Drop: []triple{}, Add: []triple{}}, {Drop: all[2:5]}, {Add: smallWorld()[:3]}, {Drop: all[2:5], Add: smallWorld()[:3]}, {Drop: smallWorld()[:3], Add: all[2:5]},
		{Drop: all}, {Add: all}, {Drop: all, Add: all}, {Drop: full[:80]}, {Drop: full}, {Add: full[:80], Drop: all}, {Add: full}, {Drop: []triple{all[1], all[0]}}, {Add: []triple{{}}},
	}
}

func TestNothingIsWrittenIntoAPatchAndNothingShared(t *testing.T) {
	for _, p := range somePatches() {
		checkAllApart(t, "PatchOk", []any{p}, func(args []any) []any { return []any{impl.PatchOk(args[0].(patch))} })
		checkAllApart(t, "Inverse", []any{p}, func(args []any) []any { return []any{impl.Inverse(args[0].(patch))} })
		for _, g := range someBlankGraphs() {
			checkAllApart(t, "Patched", []any{g, p}, func(args []any) []any {
				got, ok := impl.Patched(args[0].([]triple), args[1].(patch))
				return []any{listOf(got, ok), ok}
			})
		}
		for _, q := range somePatches() {
			checkAllApart(t, "Chained", []any{p, q}, func(args []any) []any {
				got, ok := impl.Chained(args[0].(patch), args[1].(patch))
				return []any{got, ok}
			})
		}
		checkAllApart(t, "Chained with itself turned round", []any{p}, func(args []any) []any {
			one := args[0].(patch)
			got, ok := impl.Chained(one, patch{Drop: one.Add, Add: one.Drop})
			return []any{got, ok}
		})
	}
	for _, a := range someBlankGraphs() {
		for _, b := range someBlankGraphs() {
			checkAllApart(t, "PatchOf", []any{a, b}, func(args []any) []any {
				got, ok := impl.PatchOf(args[0].([]triple), args[1].([]triple))
				return []any{got, ok}
			})
		}
		checkAllApart(t, "PatchOf itself", []any{a}, func(args []any) []any {
			got, ok := impl.PatchOf(args[0].([]triple), args[0].([]triple))
			return []any{got, ok}
		})
	}
}

// The lists of a patch may be one another, or parts of one list, each the spare room of the one ahead.
func TestPatchesThatArePartsOfOneList(t *testing.T) {
	all := twoKinds(6, 6)
	before := slices.Clone(all)
	for i := range len(all) + 1 {
		for j := i; j <= len(all); j++ {
			p, q := patch{Drop: all[:i], Add: all[i:j]}, patch{Drop: all[i:j], Add: all[j:]}
			turned := impl.Inverse(p)
			patched, _ := impl.Patched(all[:i], p)
			chained, _ := impl.Chained(p, q)
			made, _ := impl.PatchOf(all[:j], all[i:])
			same := impl.Inverse(patch{Drop: all, Add: all})
			if n := sharing(spansIn(valueOf(turned, patched, chained, made, same))[1:], spansIn(valueOf(all))); n > 0 {
				t.Errorf("%d lists share memory", n)
			}
			want, fine := plainChained(p, q)
			if !slices.Equal(all, before) || !fine || !samePatch(chained, want) || !slices.Equal(patched, all[i:j]) || !samePatch(turned, patch{Drop: all[i:j], Add: all[:i]}) {
				t.Fatalf("%d, %d: %v, %v, %v", i, j, patched, chained, all)
			}
		}
	}
}

// someDatasets is datasets that are right and ones that are not.
func someDatasets() [][]named {
	six := namedGraphs(6)
	return [][]named{
		nil, {}, six[:1], six[:3], six, namedGraphs(7), {six[1], six[0]}, {six[0], six[0]}, {{Name: "<g>"}}, {{Name: "g", Graph: knot()}}, {{}},
		{{Name: "<g1>", Graph: knot()}, {Name: "<h>", Graph: manyTriples(80)}}, {{Name: "<g>", Graph: knot()}, {Name: "<g1>", Graph: manyTriples(80)}}, {{Name: "<g1>", Graph: manyTriples(81)}},
		{{Name: "<g1>", Graph: smallWorld()}, {Name: "<h>", Graph: []triple{smallWorld()[1], smallWorld()[0]}}},
	}
}

func TestNothingIsWrittenIntoADatasetAndNothingShared(t *testing.T) {
	for _, d := range someDatasets() {
		checkAllApart(t, "DataOk", []any{d}, func(args []any) []any { return []any{impl.DataOk(args[0].([]named))} })
		checkAllApart(t, "DataMerged", []any{d}, func(args []any) []any {
			got, ok := impl.DataMerged(args[0].([]named))
			return []any{listOf(got, ok), ok}
		})
		for _, name := range []string{"<g1>", "<g0>", "<a>", "<z>", "", "_:b"} {
			checkAllApart(t, "DataGraph", []any{d}, func(args []any) []any { return []any{impl.DataGraph(args[0].([]named), name)} })
			own := append(slices.Clone(graphIn(d, name)), knot()[2], triple{S: "<z>", P: "<z>", O: "<z>"}, triple{})
			for _, x := range own[max(len(own)-6, 0):] {
				checkAllApart(t, "DataWith", []any{d}, func(args []any) []any {
					got, ok := impl.DataWith(args[0].([]named), name, x)
					return []any{got, ok}
				})
				checkAllApart(t, "DataWithout", []any{d}, func(args []any) []any {
					got, ok := impl.DataWithout(args[0].([]named), name, x)
					return []any{got, ok}
				})
			}
		}
	}
}

// The graphs of a dataset may be one list, or parts of one: those of an answer are not.
func TestDatasetsWhoseGraphsAreOneList(t *testing.T) {
	all := knot()
	before := slices.Clone(all)
	d := []named{{Name: "<a>", Graph: all[:4]}, {Name: "<b>", Graph: all[4:8]}, {Name: "<c>", Graph: all[:4]}, {Name: "<d>", Graph: all}}
	for _, name := range []string{"<a>", "<b>", "<c>", "<d>", "<e>"} {
		for _, x := range all {
			with, ok := impl.DataWith(d[:3], name, x)
			want, fine := plainWith(d[:3], name, x)
			if !fine || !ok || !sameData(with, want) {
				t.Errorf("DataWith: %v, want %v", with, want)
			}
			less, ok := impl.DataWithout(d, name, x)
			want, fine = plainWithout(d, name, x)
			if ok != fine || ok && !sameData(less, want) {
				t.Errorf("DataWithout: %v, want %v", less, want)
			}
			merged, _ := impl.DataMerged(d)
			graph := impl.DataGraph(d, name)
			if n := sharing(spansIn(valueOf(with, less, merged, graph))[1:], spansIn(valueOf(all, d))); n > 0 {
				t.Errorf("%d lists share memory", n)
			}
			if !slices.Equal(all, before) || d[3].Name != "<d>" {
				t.Fatal("an argument is written into")
			}
		}
	}
}

// Datasets that were made of one dataset can be told something else.
func TestTwoDatasetsOfOneDoNotMeet(t *testing.T) {
	d := aDataset("<g>", "<a> <p> <b> .", "<h>", "<a> <p> <b> . <a> <p> <c> .")
	x := triple{S: "<z>", P: "<z>", O: "<z>"}
	left, ok := impl.DataWith(d, "<g>", x)
	right, fine := impl.DataWithout(d, "<h>", d[1].Graph[0])
	same, good := impl.DataWith(d, "<g>", d[0].Graph[0])
	for _, n := range same {
		scribble(n.Graph)
	}
	scribble(impl.DataGraph(left, "<g>"))
	wantData(t, "the first one", d, good, aDataset("<g>", "<a> <p> <b> .", "<h>", "<a> <p> <b> . <a> <p> <c> ."))
	wantData(t, "left", left, ok, aDataset("<g>", "<a> <p> <b> . <z> <z> <z> .", "<h>", "<a> <p> <b> . <a> <p> <c> ."))
	wantData(t, "right", right, fine, aDataset("<g>", "<a> <p> <b> .", "<h>", "<a> <p> <c> ."))
}

func TestBlanksPatchesAndDatasetsAtTheSameTime(t *testing.T) {
	g := graphOf("_:x <p> _:y . _:y <p> _:z . _:z <p> _:w . _:w <p> _:v . _:v <p> _:x . _:x <q> \"_:x\" .")
	canonical, _ := plainCanonical(g)
	p, d := patch{Drop: g[:2], Add: knot()[:3]}, []named{{Name: "<g>", Graph: g}, {Name: "<h>", Graph: knot()}}
	patched, _ := plainPatched(g, p)
	more, _ := plainWith(d, "<a>", knot()[0])
	var all sync.WaitGroup
	for range 8 {
		all.Go(func() {
			for range 10 {
				got, ok := impl.Canonical(g)
				wantTriples(t, "Canonical", got, ok, canonical)
				got, ok = impl.Patched(g, p)
				wantTriples(t, "Patched", got, ok, patched)
				// A call that refuses leaves nothing behind.
				if _, ok := impl.DataWith(d, "<a>", triple{}); ok || impl.PatchOk(patch{Drop: g, Add: g[1:2]}) || impl.Alike(g, knot()) {
					t.Error("not refused")
				}
				next, ok := impl.DataWith(d, "<a>", knot()[0])
				wantData(t, "DataWith", next, ok, more)
			}
		})
	}
	all.Wait()
}
