package tests

import (
	"slices"
	"sort"
	"testing"

	"loop.example/g00420/impl"
)

type store = impl.Store

// mixedWorld has triples that each of the three orders tells apart from the other two.
func mixedWorld() []triple {
	var l []triple
	for _, s := range []string{"<a>", "<b>", "_:b"} {
		for _, p := range []string{"<a>", "<p>"} {
			for _, o := range []string{"\"b\"", "<a>", "<b>", "_:b"} {
				l = append(l, triple{S: s, P: p, O: o})
			}
		}
	}
	return l
}

// plainSorted puts the parts that key names behind one another, the first of them first.
func plainSorted(g []triple, key func(x triple) [3]string) []triple {
	l := slices.Clone(g)
	sort.Slice(l, func(i, j int) bool {
		a, b := key(l[i]), key(l[j])
		return a[0] < b[0] || a[0] == b[0] && (a[1] < b[1] || a[1] == b[1] && a[2] < b[2])
	})
	return l
}

func plainStore(g []triple) store {
	return store{
		Spo: plainSorted(g, func(x triple) [3]string { return [3]string{x.S, x.P, x.O} }),
		Pos: plainSorted(g, func(x triple) [3]string { return [3]string{x.P, x.O, x.S} }),
		Osp: plainSorted(g, func(x triple) [3]string { return [3]string{x.O, x.S, x.P} }),
	}
}

func sameStore(a, b store) bool {
	return slices.Equal(a.Spo, b.Spo) && slices.Equal(a.Pos, b.Pos) && slices.Equal(a.Osp, b.Osp)
}

// someGraphs is right graphs of many sizes.
func someGraphs() [][]triple {
	all := mixedWorld()
	list := [][]triple{nil, {}, all, smallWorld(), awkwardTriples(), manyTriples(1), manyTriples(79), manyTriples(80)}
	for mask := 1; mask < 1<<len(all); mask += 1 + mask/13 {
		list = append(list, chosen(all, mask))
	}
	return list
}

func TestTheThreeOrdersOfAStore(t *testing.T) {
	g, ok := impl.ReadGraph("<a> <p> <c> .\n<a> <q> <b> .\n<b> <p> <a> .\n<b> <p> <c> .\n<c> <p> <b> .\n")
	if !ok {
		t.Fatal("graph")
	}
	want := store{Spo: g, Pos: []triple{g[2], g[4], g[0], g[3], g[1]}, Osp: []triple{g[2], g[1], g[4], g[0], g[3]}}
	got, ok := impl.StoreOf(g)
	if !ok || !sameStore(got, want) || !impl.StoreOk(want) {
		t.Errorf("StoreOf = %v, %v", got, ok)
	}
}

func TestStoresOfGraphs(t *testing.T) {
	for _, g := range someGraphs() {
		got, ok := impl.StoreOf(g)
		if want := plainStore(g); !ok || !sameStore(got, want) || !impl.StoreOk(got) || !impl.StoreOk(want) {
			t.Fatalf("StoreOf(%v) = %v, %v", g, got, ok)
		}
	}
	if !impl.StoreOk(store{}) || !impl.StoreOk(store{Spo: []triple{}, Osp: []triple{}}) {
		t.Error("a store of nothing")
	}
}

func refusesStore(t *testing.T, why string, s store) {
	t.Helper()
	if impl.StoreOk(s) {
		t.Errorf("%s: %v is not right", why, s)
	}
	asked := []triple{{}, {S: "<a>"}, {P: "<p>"}, {O: "<o>"}}
	if len(s.Spo) > 0 {
		asked = append(asked, s.Spo[0])
	}
	for _, p := range asked {
		if got := impl.Found(s, p); len(got) != 0 {
			t.Errorf("%s: Found = %v", why, got)
		}
	}
}

func TestStoresOfWhatIsNotRight(t *testing.T) {
	for why, g := range wrongGraphs() {
		if got, ok := impl.StoreOf(g); ok || !sameStore(got, store{}) {
			t.Errorf("%s: StoreOf = %v, %v", why, got, ok)
		}
		s := plainStore(g)
		s.Spo = g
		refusesStore(t, why, s)
		refusesStore(t, why+", alone", store{Spo: g})
		refusesStore(t, why+", three times", store{Spo: g, Pos: g, Osp: g})
	}
}

// Each list of a right store is spoilt in each way, while the other two stay as they are.
func TestStoresThatAreNotRight(t *testing.T) {
	for _, g := range [][]triple{manyTriples(80), mixedWorld(), smallWorld()} {
		lists := []func(s *store) *[]triple{
			func(s *store) *[]triple { return &s.Spo },
			func(s *store) *[]triple { return &s.Pos },
			func(s *store) *[]triple { return &s.Osp },
		}
		for _, list := range lists {
			spoilt := func(why string, spoil func(l []triple) []triple) {
				t.Helper()
				s := plainStore(g)
				*list(&s) = spoil(*list(&s))
				refusesStore(t, why, s)
			}
			for i := range g {
				spoilt("one is not there", func(l []triple) []triple { return slices.Delete(l, i, i+1) })
				spoilt("one is there twice", func(l []triple) []triple { return slices.Insert(l, i, l[i]) })
				spoilt("one in the place of another", func(l []triple) []triple {
					l[i] = l[(i+1)%len(l)]
					return l
				})
				spoilt("two have changed places", func(l []triple) []triple {
					l[i], l[(i+1)%len(l)] = l[(i+1)%len(l)], l[i]
					return l
				})
				spoilt("one is another", func(l []triple) []triple {
					l[i].O = "<other>"
					return l
				})
				spoilt("one is not right", func(l []triple) []triple {
					l[i].P = "_:p"
					return l
				})
			}
			spoilt("one more", func(l []triple) []triple { return append(l, triple{S: "_:z", P: "<zz>", O: "_:z"}) })
			spoilt("an empty one more", func(l []triple) []triple { return append(l, triple{}) })
			spoilt("the first ones", func(l []triple) []triple { return l[:len(l)-1] })
			spoilt("none", func(l []triple) []triple { return nil })
			spoilt("backward", func(l []triple) []triple {
				slices.Reverse(l)
				return l
			})
		}
	}
}

func TestAStoreWhoseListsStandInEachOthersPlaces(t *testing.T) {
	s := plainStore(mixedWorld())
	list := [][]triple{s.Spo, s.Pos, s.Osp}
	for i, spo := range list {
		for j, pos := range list {
			for k, osp := range list {
				if i == 0 && j == 1 && k == 2 {
					continue
				}
				refusesStore(t, "changed places", store{Spo: spo, Pos: pos, Osp: osp})
			}
		}
	}
	byPso := plainSorted(s.Spo, func(x triple) [3]string { return [3]string{x.P, x.S, x.O} })
	byOps := plainSorted(s.Spo, func(x triple) [3]string { return [3]string{x.O, x.P, x.S} })
	refusesStore(t, "by P, S, O", store{Spo: s.Spo, Pos: byPso, Osp: s.Osp})
	refusesStore(t, "by O, P, S", store{Spo: s.Spo, Pos: s.Pos, Osp: byOps})
}

// plainFound asks of each triple what the document says of it.
func plainFound(g []triple, p triple) []triple {
	var l []triple
	for _, x := range g {
		asked := x
		if p.S != "" {
			asked.S = p.S
		}
		if p.P != "" {
			asked.P = p.P
		}
		if p.O != "" {
			asked.O = p.O
		}
		if asked == x {
			l = append(l, x)
		}
	}
	return l
}

func TestWhatIsFoundIsJustWhatFits(t *testing.T) {
	words := []string{"", "<a>", "<b>", "<p>", "<q>", "_:b", "\"b\"", "\"\"", "?x", " ", "a", "<A>", "<", "\xff"}
	for i, g := range someGraphs() {
		if i > 40 {
			break
		}
		s := plainStore(g)
		for _, subject := range words {
			for _, predicate := range words {
				for _, object := range words {
					p := triple{S: subject, P: predicate, O: object}
					if got, want := impl.Found(s, p), plainFound(s.Spo, p); !slices.Equal(got, want) {
						t.Fatalf("Found(%v, %v) = %v, want %v", s, p, got, want)
					}
				}
			}
		}
		for _, x := range g {
			for _, p := range []triple{x, {S: x.S}, {P: x.P}, {O: x.O}, {S: x.S, P: x.P}, {S: x.S, O: x.O}, {P: x.P, O: x.O}} {
				if got, want := impl.Found(s, p), plainFound(s.Spo, p); !slices.Equal(got, want) || !slices.Contains(got, x) {
					t.Fatalf("Found(%v, %v) = %v, want %v", s, p, got, want)
				}
			}
		}
	}
}

func TestFoundOfAFewPatterns(t *testing.T) {
	g := smallWorld()
	s, ok := impl.StoreOf(g)
	if !ok {
		t.Fatal("right")
	}
	for _, c := range []struct {
		p    triple
		want []triple
	}{
		{triple{}, g},
		{triple{S: "<a>"}, g[:5]},
		{triple{P: "<p>"}, []triple{g[0], g[1], g[2], g[3], g[5]}},
		{triple{O: "_:b"}, g[4:5]},
		{triple{S: "<a>", P: "<q>"}, g[4:5]},
		{triple{S: "_:b", O: "\"t u\""}, g[5:]},
		{triple{S: "_:b", O: "<a>"}, nil},
		{triple{P: "<p>", O: "<a>"}, g[3:4]},
		{g[2], g[2:3]},
		{triple{S: "<a>", P: "<p>", O: "_:b"}, nil},
		{triple{S: "?x"}, nil},
		{triple{S: "<"}, nil},
		{triple{S: "<a> "}, nil},
	} {
		if got := impl.Found(s, c.p); !slices.Equal(got, c.want) {
			t.Errorf("Found(%v) = %v, want %v", c.p, got, c.want)
		}
	}
}
