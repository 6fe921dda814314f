package tests

import (
	"slices"
	"testing"

	"loop.example/g00420/impl"
)

var mark = triple{S: "spare", P: "spare", O: "spare"}

// roomy is g with spare room behind it, and all of that memory.
func roomy(g []triple) ([]triple, []triple) {
	all := slices.Concat(g, []triple{mark, mark, mark, mark})
	return all[:len(g):len(all)], all
}

// scribble writes over a list and all the spare room behind it.
func scribble(l []triple) {
	l = l[:cap(l)]
	for i := range l {
		l[i] = triple{S: "scribbled"}
	}
}

// checkApart calls f with graphs that have spare room and sees that neither writes to the other's memory.
func checkApart(t *testing.T, name string, f func(a, b []triple) []triple, a, b []triple) {
	t.Helper()
	ra, allA := roomy(a)
	rb, allB := roomy(b)
	keptA, keptB := slices.Clone(allA), slices.Clone(allB)
	first := f(ra, rb)
	want := slices.Clone(first)
	if !slices.Equal(allA, keptA) || !slices.Equal(allB, keptB) {
		t.Errorf("%s writes into an argument or behind it", name)
	}
	second := f(ra, rb)
	if !slices.Equal(second, want) {
		t.Errorf("%s: the same arguments give %v and %v", name, want, second)
	}
	scribble(second)
	if !slices.Equal(first, want) {
		t.Errorf("%s: two answers share memory", name)
	}
	scribble(first)
	if !slices.Equal(allA, keptA) || !slices.Equal(allB, keptB) {
		t.Errorf("%s: an answer shares memory with an argument", name)
	}
	third := f(ra, rb)
	scribble(allA)
	scribble(allB)
	if !slices.Equal(third, want) {
		t.Errorf("%s: an argument shares memory with an answer", name)
	}
}

func listOf(g []triple, ok bool) []triple {
	if !ok && len(g) != 0 {
		panic("a list beside a false")
	}
	return g
}

func TestNothingIsWrittenIntoAGraphAndNothingShared(t *testing.T) {
	graphs := [][]triple{nil, smallWorld(), smallWorld()[:1], smallWorld()[2:4], manyTriples(79), manyTriples(80), manyTriples(81), {smallWorld()[1], smallWorld()[0]}}
	ones := append(smallWorld(), triple{}, triple{S: "<zz>", P: "<p>", O: "<o>"}, manyTriples(1)[0])
	for _, a := range graphs {
		for _, x := range ones {
			checkApart(t, "With", func(g, _ []triple) []triple { return listOf(impl.With(g, x)) }, a, nil)
			checkApart(t, "Without", func(g, _ []triple) []triple { return listOf(impl.Without(g, x)) }, a, nil)
		}
		for _, b := range graphs {
			checkApart(t, "Union", func(g, h []triple) []triple { return listOf(impl.Union(g, h)) }, a, b)
		}
		checkApart(t, "Union with itself", func(g, _ []triple) []triple { return listOf(impl.Union(g, g)) }, a, nil)
		checkApart(t, "GraphText and ReadGraph", func(g, _ []triple) []triple { return listOf(impl.ReadGraph(impl.GraphText(g))) }, a, nil)
		checkApart(t, "GraphOk", func(g, _ []triple) []triple {
			impl.GraphOk(g)
			return nil
		}, a, nil)
	}
}

// A part of a longer graph has the rest of it as its spare room.
func TestAPartOfAGraphLeavesTheRestAlone(t *testing.T) {
	all := smallWorld()
	for n := range len(all) + 1 {
		g := smallWorld()
		impl.With(g[:n], triple{S: "_:c", P: "<p>", O: "<o>"})
		impl.Without(g[:n], all[0])
		impl.Union(g[:n], all[n:])
		impl.Union(g[n:], g[:n])
		if !slices.Equal(g, all) {
			t.Fatalf("with %d triples: %v", n, g)
		}
	}
}

func TestTheSameArgumentsGiveTheSameAnswers(t *testing.T) {
	g := manyTriples(80)
	for range 200 {
		h, ok := impl.Union(g[:50], g[30:])
		if !ok || !slices.Equal(h, g) {
			t.Fatal(h)
		}
		if impl.GraphText(h) != textOfAll(g) || impl.KindOf("\"a\"") != impl.TmText || impl.Escaped("\"") != "\\\"" {
			t.Fatal("another answer")
		}
	}
}
