package tests

import (
	"slices"
	"testing"

	"loop.example/g00420/impl"
)

var mark = triple{S: "spare", P: "spare", O: "spare"}

// roomy is g with spare room behind it, and all of that memory.
func roomy(g []triple) ([]triple, []triple) {
	all := slices.Concat(g, []triple{mark, mark, mark, mark})
	return all[:len(g):len(all)], all
}

// scribble writes over a list and all the spare room behind it.
func scribble(l []triple) {
	l = l[:cap(l)]
	for i := range l {
		l[i] = triple{S: "scribbled"}
	}
}

// checkApart calls f with graphs that have spare room and sees that neither writes to the other's memory.
func checkApart(t *testing.T, name string, f func(a, b []triple) []triple, a, b []triple) {
	t.Helper()
	ra, allA := roomy(a)
	rb, allB := roomy(b)
	keptA, keptB := slices.Clone(allA), slices.Clone(allB)
	first := f(ra, rb)
	want := slices.Clone(first)
	if !slices.Equal(allA, keptA) || !slices.Equal(allB, keptB) {
		t.Errorf("%s writes into an argument or behind it", name)
	}
	second := f(ra, rb)
	if !slices.Equal(second, want) {
		t.Errorf("%s: the same arguments give %v and %v", name, want, second)
	}
	scribble(second)
	if !slices.Equal(first, want) {
		t.Errorf("%s: two answers share memory", name)
	}
	scribble(first)
	if !slices.Equal(allA, keptA) || !slices.Equal(allB, keptB) {
		t.Errorf("%s: an answer shares memory with an argument", name)
	}
	third := f(ra, rb)
	scribble(allA)
	scribble(allB)
	if !slices.Equal(third, want) {
		t.Errorf("%s: an argument shares memory with an answer", name)
	}
}

func listOf(g []triple, ok bool) []triple {
	if !ok && len(g) != 0 {
		panic("a list beside a false")
	}
	return g
}

func TestNothingIsWrittenIntoAGraphAndNothingShared(t *testing.T) {
	graphs := [][]triple{nil, smallWorld(), smallWorld()[:1], smallWorld()[2:4], manyTriples(79), manyTriples(80), manyTriples(81), {smallWorld()[1], smallWorld()[0]}}
	ones := append(smallWorld(), triple{}, triple{S: "<zz>", P: "<p>", O: "<o>"}, manyTriples(1)[0])
	for _, a := range graphs {
		for _, x := range ones {
			checkApart(t, "With", func(g, _ []triple) []triple { return listOf(impl.With(g, x)) }, a, nil)
			checkApart(t, "Without", func(g, _ []triple) []triple { return listOf(impl.Without(g, x)) }, a, nil)
		}
		for _, b := range graphs {
			checkApart(t, "Union", func(g, h []triple) []triple { return listOf(impl.Union(g, h)) }, a, b)
		}
		checkApart(t, "Union with itself", func(g, _ []triple) []triple { return listOf(impl.Union(g, g)) }, a, nil)
		checkApart(t, "GraphText and ReadGraph", func(g, _ []triple) []triple { return listOf(impl.ReadGraph(impl.GraphText(g))) }, a, nil)
		checkApart(t, "GraphOk", func(g, _ []triple) []triple {
			impl.GraphOk(g)
			return nil
		}, a, nil)
	}
}

// A part of a longer graph has the rest of it as its spare room.
func TestAPartOfAGraphLeavesTheRestAlone(t *testing.T) {
	all := smallWorld()
	for n := range len(all) + 1 {
		g := smallWorld()
		impl.With(g[:n], triple{S: "_:c", P: "<p>", O: "<o>"})
		impl.Without(g[:n], all[0])
		impl.Union(g[:n], all[n:])
		impl.Union(g[n:], g[:n])
		if !slices.Equal(g, all) {
			t.Fatalf("with %d triples: %v", n, g)
		}
	}
}

func TestTheSameArgumentsGiveTheSameAnswers(t *testing.T) {
	g := manyTriples(80)
	for range 200 {
		h, ok := impl.Union(g[:50], g[30:])
		if !ok || !slices.Equal(h, g) {
			t.Fatal(h)
		}
		if impl.GraphText(h) != textOfAll(g) || impl.KindOf("\"a\"") != impl.TmText || impl.Escaped("\"") != "\\\"" {
			t.Fatal("another answer")
		}
	}
}

func TestNothingIsWrittenIntoPrefixesAndNothingShared(t *testing.T) {
	lists := [][]prefix{}
	for _, l := range wrongPrefixes() {
		lists = append(lists, l)
	}
	for _, l := range append(lists, rightPrefixes()...) {
		spare := prefix{Name: "spare", Long: "spare"}
		all := slices.Concat(l, []prefix{spare, spare, spare})
		kept := slices.Clone(all)
		part := all[:len(l):len(all)]
		impl.PrefixesOk(part)
		impl.Shortened(part, "<e:a>")
		for _, g := range [][]triple{nil, awkwardTriples(), manyTriples(81)} {
			checkApart(t, "TurtleText and ReadTurtle", func(g, _ []triple) []triple { return listOf(impl.ReadTurtle(impl.TurtleText(part, g))) }, g, nil)
			checkApart(t, "TurtleText", func(g, _ []triple) []triple { return []triple{{S: impl.TurtleText(part, g)}} }, g, nil)
		}
		if !slices.Equal(all, kept) {
			t.Errorf("%v: an argument is written into", kept)
		}
	}
}

func TestNothingIsWrittenIntoAGraphOfAStoreAndNothingShared(t *testing.T) {
	graphs := [][]triple{nil, smallWorld(), mixedWorld(), mixedWorld()[:1], manyTriples(80), manyTriples(81), {smallWorld()[1], smallWorld()[0]}}
	parts := map[string]func(s store) []triple{
		"Spo": func(s store) []triple { return s.Spo },
		"Pos": func(s store) []triple { return s.Pos },
		"Osp": func(s store) []triple { return s.Osp },
	}
	for _, g := range graphs {
		for name, part := range parts {
			checkApart(t, "StoreOf: "+name, func(g, _ []triple) []triple {
				s, ok := impl.StoreOf(g)
				return listOf(part(s), ok)
			}, g, nil)
		}
		checkListsApart(t, g)
	}
}

// checkListsApart writes over each list of a store, and over the room behind it, and looks at the other two.
func checkListsApart(t *testing.T, g []triple) {
	t.Helper()
	s, _ := impl.StoreOf(g)
	want := plainStore(s.Spo)
	scribble(s.Spo)
	if !slices.Equal(s.Pos, want.Pos) || !slices.Equal(s.Osp, want.Osp) {
		t.Error("Spo shares memory with another list")
	}
	scribble(s.Pos)
	if !slices.Equal(s.Osp, want.Osp) {
		t.Error("Pos and Osp share memory")
	}
}

func TestNothingIsWrittenIntoAStoreAndNothingShared(t *testing.T) {
	right := plainStore(mixedWorld())
	stores := []store{{}, right, plainStore(manyTriples(80)), {Spo: right.Pos, Pos: right.Spo, Osp: right.Osp}, {Spo: right.Spo, Pos: right.Osp, Osp: right.Pos}, {Spo: right.Spo}}
	for _, s := range stores {
		for _, p := range []triple{{}, {P: "<p>"}, {S: "<a>", O: "<b>"}, {S: "none"}, mixedWorld()[3]} {
			osp, allOsp := roomy(s.Osp)
			kept := slices.Clone(allOsp)
			checkApart(t, "Found", func(spo, pos []triple) []triple {
				asked := store{Spo: spo, Pos: pos, Osp: osp}
				impl.StoreOk(asked)
				found := impl.Found(asked, p)
				return found
			}, s.Spo, s.Pos)
			found := impl.Found(store{Spo: s.Spo, Pos: s.Pos, Osp: osp}, p)
			scribble(found)
			if !slices.Equal(allOsp, kept) {
				t.Error("Found writes into Osp, or shares memory with it")
			}
		}
	}
}

func TestTurtleAndStoresGiveTheSameAnswers(t *testing.T) {
	l := []prefix{{Name: "e", Long: "e:"}, {Name: "x", Long: "e"}}
	g := awkwardTriples()
	text := impl.TurtleText(l, g)
	s := plainStore(g)
	for range 200 {
		h, ok := impl.ReadTurtle(text)
		if !ok || !slices.Equal(h, g) || impl.TurtleText(l, h) != text || impl.Shortened(l, "<e:a>") != "e:a" {
			t.Fatal(h)
		}
		if again, ok := impl.StoreOf(h); !ok || !sameStore(again, s) || !slices.Equal(impl.Found(again, triple{}), g) {
			t.Fatal(again)
		}
		// A reader that gave up has left nothing behind.
		if _, ok := impl.ReadTurtle(text + "<a>"); ok {
			t.Fatal("a text that ends too soon")
		}
		if _, ok := impl.ReadTurtle("e:a a e:a ."); ok {
			t.Fatal("a name that an earlier text gave")
		}
	}
}
