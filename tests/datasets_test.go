package tests

import (
	"maps"
	"math/rand"
	"slices"
	"strconv"
	"testing"

	"loop.example/g00420/impl"
)

type named = impl.Named

func sameNamed(a, b named) bool { return a.Name == b.Name && slices.Equal(a.Graph, b.Graph) }

func sameData(a, b []named) bool { return slices.EqualFunc(a, b, sameNamed) }

// aDataset reads names and graphs by turns.
func aDataset(l ...string) []named {
	var d []named
	for i := 0; i+1 < len(l); i += 2 {
		d = append(d, named{Name: l[i], Graph: graphOf(l[i+1])})
	}
	return d
}

// namedGraphs gives n graphs of one triple each, with names that rise.
func namedGraphs(n int) []named {
	var d []named
	for i := range n {
		d = append(d, named{Name: "<g" + strconv.Itoa(i) + ">", Graph: []triple{{S: "<a>", P: "<p>", O: "<" + strconv.Itoa(i) + ">"}}})
	}
	return d
}

// plainDataOk holds the names against those that are sorted.
func plainDataOk(d []named) bool {
	names := map[string]bool{}
	var list []string
	for _, n := range d {
		if plainKind(n.Name) != impl.TmName || !impl.GraphOk(n.Graph) || len(n.Graph) == 0 {
			return false
		}
		names[n.Name], list = true, append(list, n.Name)
	}
	return len(d) <= 6 && slices.Equal(list, slices.Sorted(maps.Keys(names)))
}

// withGraph gives the dataset with another graph of that name, or without one where it is empty.
func withGraph(d []named, name string, g []triple) []named {
	graphs := map[string][]triple{name: g}
	for _, n := range d {
		if n.Name != name {
			graphs[n.Name] = n.Graph
		}
	}
	var changed []named
	for _, one := range slices.Sorted(maps.Keys(graphs)) {
		if len(graphs[one]) > 0 {
			changed = append(changed, named{Name: one, Graph: graphs[one]})
		}
	}
	return changed
}

func graphIn(d []named, name string) []triple {
	for _, n := range d {
		if n.Name == name {
			return n.Graph
		}
	}
	return nil
}

// plainWith and plainWithout are the document's sentence about DataWith and DataWithout.
func plainWith(d []named, name string, x triple) ([]named, bool) {
	changed := withGraph(d, name, allOf(graphIn(d, name), []triple{x}))
	return changed, plainDataOk(d) && plainKind(name) == impl.TmName && plainDataOk(changed)
}

func plainWithout(d []named, name string, x triple) ([]named, bool) {
	g := graphIn(d, name)
	return withGraph(d, name, without(g, []triple{x})), plainDataOk(d) && slices.Contains(g, x)
}

func plainUnion(d []named) ([]triple, bool) {
	var all []triple
	for _, n := range d {
		all = allOf(all, n.Graph)
	}
	return all, plainDataOk(d) && len(all) <= 80
}

func wantData(t *testing.T, what string, got []named, ok bool, want []named) {
	t.Helper()
	if !ok || !sameData(got, want) {
		t.Errorf("%s: %v, %v, want %v", what, got, ok, want)
	}
	if !impl.DataOk(got) {
		t.Errorf("%s: %v is no dataset", what, got)
	}
	for _, n := range want {
		if g := impl.DataGraph(got, n.Name); !slices.Equal(g, n.Graph) {
			t.Errorf("%s: DataGraph of %s: %v", what, n.Name, g)
		}
	}
}

func wantNoData(t *testing.T, what string, got []named, ok bool) {
	t.Helper()
	if ok || len(got) != 0 {
		t.Errorf("%s: %v, %v", what, got, ok)
	}
}

// wantWrongData asks all functions of the chapter.
func wantWrongData(t *testing.T, what string, d []named) {
	t.Helper()
	if impl.DataOk(d) || plainDataOk(d) {
		t.Errorf("%s: %v is no dataset", what, d)
	}
	names, triples := []string{"<g1>", "<none>", ""}, []triple{mark, knot()[0]}
	for _, n := range d {
		names = append(names, n.Name)
		triples = append(triples, n.Graph[:min(len(n.Graph), 2)]...)
	}
	for _, name := range names {
		if g := impl.DataGraph(d, name); len(g) != 0 {
			t.Errorf("%s: DataGraph of %s: %v", what, name, g)
		}
		for _, x := range triples {
			got, ok := impl.DataWith(d, name, x)
			wantNoData(t, what+": DataWith", got, ok)
			got, ok = impl.DataWithout(d, name, x)
			wantNoData(t, what+": DataWithout", got, ok)
		}
	}
	got, ok := impl.DataMerged(d)
	wantNoTriples(t, what+": DataMerged", got, ok)
}

func TestDatasetsThatAreRight(t *testing.T) {
	full := manyTriples(80)
	for _, d := range [][]named{
		nil, {}, namedGraphs(1), namedGraphs(5), namedGraphs(6), {{Name: "<g>", Graph: full}}, {{Name: "<g>", Graph: full}, {Name: "<h>", Graph: full}},
		aDataset("<#>", "<a> <p> <b> .", "</>", "<a> <p> <b> .", "<:>", "<a> <p> <b> .", "<a>", "<a> <p> <b> .", "<aa>", "<a> <p> <b> ."),
		aDataset("<a0>", "_:x <p> _:y .", "<a10>", "_:x <p> _:y .", "<a9>", "_:x <p> _:y .", "<a:>", "<a> <a> <a> .", "<a>", "<a> <p> <b> .", "<abcdefghijkl>", "<a> <p> \"t\" ."),
	} {
		if !impl.DataOk(d) || !plainDataOk(d) {
			t.Errorf("%v is right", d)
		}
		for _, n := range d {
			if g := impl.DataGraph(d, n.Name); !slices.Equal(g, n.Graph) {
				t.Errorf("DataGraph(%v, %s) = %v", d, n.Name, g)
			}
		}
		want, _ := plainUnion(d)
		got, ok := impl.DataMerged(d)
		wantTriples(t, "DataMerged", got, ok, want)
	}
	if impl.MaxGraphs != 6 {
		t.Error("MaxGraphs")
	}
}

func TestDatasetsThatAreNotRight(t *testing.T) {
	right := namedGraphs(4)
	wantWrongData(t, "7", namedGraphs(7))
	wantWrongData(t, "9", namedGraphs(9))
	wantWrongData(t, "out of order", []named{right[1], right[0]})
	wantWrongData(t, "the last one too soon", []named{right[0], right[2], right[3], right[1]})
	wantWrongData(t, "a number is a text", aDataset("<g9>", "<a> <p> <b> .", "<g10>", "<a> <p> <b> ."))
	wantWrongData(t, "a longer name is less", aDataset("<g>", "<a> <p> <b> .", "<g1>", "<a> <p> <b> ."))
	wantWrongData(t, "twice", []named{right[0], right[0]})
	wantWrongData(t, "twice, with another graph", []named{right[0], right[1], {Name: right[1].Name, Graph: knot()}})
	wantWrongData(t, "an empty graph alone", []named{{Name: "<g>"}})
	for i := range right {
		put := func(name string, g []triple) []named {
			d := slices.Clone(right)
			d[i] = named{Name: name, Graph: g}
			return d
		}
		if d := put(right[i].Name, knot()); !impl.DataOk(d) {
			t.Error(d)
		}
		for why, g := range wrongGraphs() {
			wantWrongData(t, why, put(right[i].Name, g))
		}
		wantWrongData(t, "an empty graph among them", put(right[i].Name, nil))
		wantWrongData(t, "an empty list among them", put(right[i].Name, []triple{}))
		wantWrongData(t, "the name of another one", put(right[(i+1)%4].Name, knot()))
		for word, kind := range wordsByKind() {
			if kind != impl.TmName {
				wantWrongData(t, "the name is "+word, put(word, knot()))
				wantWrongData(t, "the one name is "+word, []named{{Name: word, Graph: knot()}})
			}
		}
	}
	for _, word := range []string{"g", "<>", "<G>", "<g", "g>", "<g> ", "<abcdefghijklm>", "<a b>", "<<g>>"} {
		wantWrongData(t, "the name is "+word, []named{{Name: word, Graph: knot()}})
	}
}

func TestTheGraphOfAName(t *testing.T) {
	d := aDataset("<g>", "<a> <p> <b> . _:x <p> <a> .", "<h>", "<c> <p> <d> .")
	for _, name := range []string{"<g>", "<h>"} {
		if g := impl.DataGraph(d, name); !slices.Equal(g, graphIn(d, name)) || len(g) == 0 {
			t.Errorf("%s: %v", name, g)
		}
	}
	for _, name := range []string{"<i>", "<f>", "<gg>", "<g", "g", "<>", "", " ", "_:g", "?g", "\"g\"", "<G>", "<g> ", "<a>"} {
		if g := impl.DataGraph(d, name); len(g) != 0 {
			t.Errorf("%q: %v", name, g)
		}
		if g := impl.DataGraph(nil, name); len(g) != 0 {
			t.Errorf("of none, %q: %v", name, g)
		}
	}
}

func TestPuttingATripleIntoAGraph(t *testing.T) {
	x, y := triple{S: "<a>", P: "<p>", O: "<b>"}, triple{S: "<a>", P: "<p>", O: "<c>"}
	d := aDataset("<d>", "<a> <p> <c> .", "<h>", "<a> <o> <c> . <b> <p> <c> .")
	for _, c := range []struct {
		what string
		name string
		want []named
	}{
		{"ahead of the others", "<a>", aDataset("<a>", "<a> <p> <b> .", "<d>", "<a> <p> <c> .", "<h>", "<a> <o> <c> . <b> <p> <c> .")},
		{"ahead, as bytes", "<d:d>", aDataset("<d:d>", "<a> <p> <b> .", "<d>", "<a> <p> <c> .", "<h>", "<a> <o> <c> . <b> <p> <c> .")},
		{"between them", "<f>", aDataset("<d>", "<a> <p> <c> .", "<f>", "<a> <p> <b> .", "<h>", "<a> <o> <c> . <b> <p> <c> .")},
		{"between them, as bytes", "<dd>", aDataset("<d>", "<a> <p> <c> .", "<dd>", "<a> <p> <b> .", "<h>", "<a> <o> <c> . <b> <p> <c> .")},
		{"behind them", "<z>", aDataset("<d>", "<a> <p> <c> .", "<h>", "<a> <o> <c> . <b> <p> <c> .", "<z>", "<a> <p> <b> .")},
		{"into the first one", "<d>", aDataset("<d>", "<a> <p> <b> . <a> <p> <c> .", "<h>", "<a> <o> <c> . <b> <p> <c> .")},
		{"into the last one", "<h>", aDataset("<d>", "<a> <p> <c> .", "<h>", "<a> <o> <c> . <a> <p> <b> . <b> <p> <c> .")},
	} {
		got, ok := impl.DataWith(d, c.name, x)
		wantData(t, c.what, got, ok, c.want)
		again, ok := impl.DataWith(got, c.name, x)
		wantData(t, c.what+", again", again, ok, c.want)
		back, ok := impl.DataWithout(got, c.name, x)
		wantData(t, c.what+", and taken out", back, ok, d)
	}
	got, ok := impl.DataWith(d, "<d>", y)
	wantData(t, "it is there", got, ok, d)
	got, ok = impl.DataWith(nil, "<g>", x)
	wantData(t, "into none", got, ok, aDataset("<g>", "<a> <p> <b> ."))
	for _, name := range []string{"", "g", "_:g", "?g", "\"g\"", "<>", "<d", "<G>", "<d> ", "<abcdefghijklm>"} {
		for _, some := range [][]named{nil, d, namedGraphs(6)} {
			got, ok := impl.DataWith(some, name, x)
			wantNoData(t, "into "+name, got, ok)
			got, ok = impl.DataWithout(some, name, x)
			wantNoData(t, "out of "+name, got, ok)
		}
	}
}

func TestTakingATripleOutOfAGraph(t *testing.T) {
	x, y := triple{S: "<a>", P: "<p>", O: "<b>"}, triple{S: "<a>", P: "<p>", O: "<c>"}
	d := aDataset("<d>", "<a> <p> <b> .", "<e>", "<a> <p> <b> . <a> <p> <c> .", "<f>", "<a> <p> <c> .")
	for _, c := range []struct {
		what, name string
		x          triple
		want       []named
	}{
		{"the last one of the first graph", "<d>", x, d[1:]},
		{"the last one of the last graph", "<f>", y, d[:2]},
		{"one of two", "<e>", x, aDataset("<d>", "<a> <p> <b> .", "<e>", "<a> <p> <c> .", "<f>", "<a> <p> <c> .")},
		{"the other one of two", "<e>", y, aDataset("<d>", "<a> <p> <b> .", "<e>", "<a> <p> <b> .", "<f>", "<a> <p> <c> .")},
	} {
		got, ok := impl.DataWithout(d, c.name, c.x)
		wantData(t, c.what, got, ok, c.want)
		back, ok := impl.DataWith(got, c.name, c.x)
		wantData(t, c.what+", and put in again", back, ok, d)
		twice, ok := impl.DataWithout(got, c.name, c.x)
		wantNoData(t, c.what+", twice", twice, ok)
	}
	got, ok := impl.DataWithout(aDataset("<d>", "<a> <p> <b> ."), "<d>", x)
	wantData(t, "the last one of all", got, ok, nil)
	for _, c := range []struct {
		what, name string
		x          triple
	}{
		{"not there", "<d>", y}, {"there in others alone", "<f>", x}, {"no graph of that name", "<g>", x}, {"no graph of that name, ahead", "<a>", y},
		{"nowhere", "<e>", triple{S: "<a>", P: "<p>", O: "<d>"}}, {"another P", "<e>", triple{S: "<a>", P: "<q>", O: "<b>"}}, {"nothing", "<d>", triple{}}, {"a variable", "<d>", triple{S: "?x", P: "<p>", O: "<b>"}},
	} {
		got, ok := impl.DataWithout(d, c.name, c.x)
		wantNoData(t, c.what, got, ok)
		got, ok = impl.DataWithout(nil, c.name, c.x)
		wantNoData(t, c.what+", of none", got, ok)
	}
	for _, wrong := range wrongTriples() {
		for _, name := range []string{"<d>", "<e>", "<a>", "<z>", "<none>"} {
			for _, some := range [][]named{nil, d, namedGraphs(6)} {
				got, ok := impl.DataWith(some, name, wrong)
				wantNoData(t, "DataWith of what is not right", got, ok)
				got, ok = impl.DataWithout(some, name, wrong)
				wantNoData(t, "DataWithout of what is not right", got, ok)
			}
		}
	}
}

func TestSixGraphsOfEightyTriplesAreNotTooMany(t *testing.T) {
	x, six := triple{S: "<z>", P: "<z>", O: "<z>"}, namedGraphs(6)
	for i, n := range six {
		less := slices.Delete(namedGraphs(6), i, i+1)
		got, ok := impl.DataWith(less, n.Name, n.Graph[0])
		wantData(t, "a sixth one", got, ok, six)
		got, ok = impl.DataWith(six, n.Name, x)
		wantData(t, "into one of six", got, ok, withGraph(six, n.Name, append(slices.Clone(n.Graph), x)))
		got, ok = impl.DataWith(six, n.Name, n.Graph[0])
		wantData(t, "there in one of six", got, ok, six)
		got, ok = impl.DataWithout(six, n.Name, n.Graph[0])
		wantData(t, "without one of six", got, ok, less)
	}
	for _, name := range []string{"<a>", "<g0a>", "<g3a>", "<z>"} {
		got, ok := impl.DataWith(six, name, x)
		wantNoData(t, "a seventh one: "+name, got, ok)
		got, ok = impl.DataWith(six, name, six[0].Graph[0])
		wantNoData(t, "a seventh one, with a triple that another one has: "+name, got, ok)
	}
	full, d := manyTriples(80), namedGraphs(3)
	d[1].Graph = full
	for i := range full {
		got, ok := impl.DataWith(d, "<g1>", full[i])
		wantData(t, "there in 80", got, ok, d)
		less := withGraph(d, "<g1>", without(full, full[i:i+1]))
		got, ok = impl.DataWithout(d, "<g1>", full[i])
		wantData(t, "out of 80", got, ok, less)
		got, ok = impl.DataWith(less, "<g1>", full[i])
		wantData(t, "80", got, ok, d)
	}
	got, ok := impl.DataWith(d, "<g1>", x)
	wantNoData(t, "81", got, ok)
	got, ok = impl.DataWith(d, "<g1>", triple{S: "<a>", P: "<a>", O: "<a>"})
	wantNoData(t, "81, ahead of the others", got, ok)
	got, ok = impl.DataWith(d, "<g0>", x)
	wantData(t, "beside 80", got, ok, withGraph(d, "<g0>", append(slices.Clone(d[0].Graph), x)))
}

func TestMergingDatasets(t *testing.T) {
	for _, c := range []struct {
		what string
		d    []named
		want string
	}{
		{"none", nil, ""},
		{"one", aDataset("<g>", "<a> <p> <b> . <b> <p> <c> ."), "<a> <p> <b> . <b> <p> <c> ."},
		{"two, turned round", aDataset("<g>", "<b> <p> <c> .", "<h>", "<a> <p> <b> ."), "<a> <p> <b> . <b> <p> <c> ."},
		{"a triple in two", aDataset("<g>", "<a> <p> <b> . <b> <p> <c> .", "<h>", "<a> <p> <b> . <a> <p> <c> ."), "<a> <p> <b> . <a> <p> <c> . <b> <p> <c> ."},
		{"a triple in three", aDataset("<g>", "<a> <p> <b> .", "<h>", "<a> <p> <b> .", "<i>", "<a> <p> <b> ."), "<a> <p> <b> ."},
		{"blanks of one name are one", aDataset("<g>", "_:x <p> <a> .", "<h>", "_:x <p> <b> . _:y <p> <a> ."), "_:x <p> <a> . _:x <p> <b> . _:y <p> <a> ."},
		{"six", namedGraphs(6), "<a> <p> <0> . <a> <p> <1> . <a> <p> <2> . <a> <p> <3> . <a> <p> <4> . <a> <p> <5> ."},
	} {
		got, ok := impl.DataMerged(c.d)
		wantTriples(t, c.what, got, ok, graphOf(c.want))
	}
	all := manyTriples(81)
	parted := func(places ...int) []named {
		d, from := []named{}, 0
		for i, to := range places {
			d = append(d, named{Name: "<g" + strconv.Itoa(9-len(places)+i) + ">", Graph: all[from:to]})
			from = to
		}
		return d
	}
	for _, places := range [][]int{{80}, {1, 80}, {79, 80}, {20, 40, 60, 80}, {10, 20, 30, 40, 50, 80}} {
		d := parted(places...)
		got, ok := impl.DataMerged(d)
		wantTriples(t, "80", got, ok, all[:80])
		d[len(d)-1].Graph = all[max(places[len(places)-1]-40, 0):80]
		got, ok = impl.DataMerged(d)
		if want, fine := plainUnion(d); !fine || !ok || !slices.Equal(got, want) {
			t.Error("80 with some twice", got, ok)
		}
	}
	for _, places := range [][]int{{1, 81}, {80, 81}, {40, 81}, {20, 40, 60, 81}, {10, 20, 30, 40, 50, 81}} {
		got, ok := impl.DataMerged(parted(places...))
		wantNoTriples(t, "81", got, ok)
	}
	var most []named
	for i := range 6 {
		most = append(most, named{Name: "<g" + strconv.Itoa(i) + ">", Graph: all[:80]})
	}
	got, ok := impl.DataMerged(most)
	wantTriples(t, "80 six times", got, ok, all[:80])
	most[5].Graph = all[1:]
	got, ok = impl.DataMerged(most)
	wantNoTriples(t, "and one more", got, ok)
	for i := range most {
		most[i].Graph = twoKinds(80, 80)[i*16 : i*16+80]
	}
	got, ok = impl.DataMerged(most)
	wantNoTriples(t, "160", got, ok)
}

// What is put into a graph is there, and all other graphs stay as they were.
func TestDatasetsAreAsTheDocumentSays(t *testing.T) {
	dice := rand.New(rand.NewSource(89))
	names := []string{"<a>", "<b:>", "<b>", "<bb>", "<c>", "<d>", "<e>", "_:b", ""}
	all, puts, takes := knot()[:5], 0, 0
	var d []named
	for range 6000 {
		name, x := names[dice.Intn(len(names))], all[dice.Intn(len(all))]
		if dice.Intn(20) == 0 {
			x = wrongTriples()[dice.Intn(len(wrongTriples()))]
		}
		next, ok := impl.DataWith(d, name, x)
		want, fine := plainWith(d, name, x)
		if dice.Intn(5) > 2 {
			next, ok = impl.DataWithout(d, name, x)
			want, fine = plainWithout(d, name, x)
			takes++
		} else if fine {
			puts++
		}
		if !fine {
			wantNoData(t, "refused", next, ok)
		} else {
			wantData(t, "done", next, ok, want)
			d = next
		}
		merged, ok := impl.DataMerged(d)
		wantAll, _ := plainUnion(d)
		wantTriples(t, "DataMerged", merged, ok, wantAll)
		if t.Failed() {
			t.Fatalf("%v, %s, %v", d, name, x)
		}
	}
	if puts < 500 || takes < 500 {
		t.Error(puts, takes)
	}
}

func TestDataOkIsAsTheDocumentSays(t *testing.T) {
	dice := rand.New(rand.NewSource(97))
	names := []string{"<a>", "<b:>", "<b>", "<bb>", "<c>", "<d>", "<e>", "<f>"}
	right := 0
	for range 4000 {
		var d []named
		for _, name := range names {
			if dice.Intn(3) > 0 {
				d = append(d, named{Name: name, Graph: knot()[dice.Intn(3) : 3+dice.Intn(3)]})
			}
		}
		if len(d) > 1 && dice.Intn(3) == 0 {
			i := dice.Intn(len(d) - 1)
			d[i], d[i+1] = d[i+1], d[i]
		}
		if len(d) > 0 && dice.Intn(6) == 0 {
			d[dice.Intn(len(d))].Graph = nil
		}
		want := plainDataOk(d)
		if impl.DataOk(d) != want {
			t.Fatalf("DataOk(%v) = %v", d, !want)
		}
		if want {
			right++
		}
	}
	if right < 500 || right > 3500 {
		t.Error(right)
	}
}
