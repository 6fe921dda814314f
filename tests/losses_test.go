package tests

import (
	"math/rand"
	"slices"
	"testing"

	"loop.example/g00420/impl"
)

// A watch has what may be there behind a loss of power: what was there at the last sync or save, and then behind each act since.
type watch struct {
	disk  disk
	views [][]triple
}

func (w watch) now() []triple { return w.views[len(w.views)-1] }

// seen holds what is on the disk against what the acts made.
func (w watch) seen(t *testing.T) {
	t.Helper()
	if g, code := impl.StoreView(w.disk); code != 0 || !slices.Equal(g, w.now()) {
		t.Fatalf("StoreView: %v, %d, want %v", g, code, w.now())
	}
}

// after is the watch behind an act that may end with StPower: whether it was synced can be told by its steps alone.
func (w watch) after(t *testing.T, a act) (watch, int64) {
	t.Helper()
	d, code := impl.StoreDo(w.disk, a)
	next := watch{disk: d, views: slices.Clone(w.views)}
	made := code == 0 || code == 5 && a.Power >= 1
	switch {
	case a.Kind == 2 && made:
		next.views = append(next.views, allOf(w.now(), []triple{a.Triple}))
	case a.Kind == 3 && made:
		next.views = append(next.views, without(w.now(), []triple{a.Triple}))
	}
	if a.Kind == 4 && made || a.Kind <= 3 && a.Sync && code == 0 {
		next.views = [][]triple{next.now()}
	}
	next.seen(t)
	return next, code
}

// lost loses the power in one way, and then again between the steps of the AcOpen behind it.
func (w watch) lost(t *testing.T, keep []int64, torn int64) watch {
	t.Helper()
	d, code := impl.StoreDo(w.disk, act{Kind: 6, Keep: keep, Torn: torn, Power: -1})
	g, viewCode := impl.StoreView(d)
	if code != 0 || viewCode != 0 || !slices.ContainsFunc(w.views, func(v []triple) bool { return slices.Equal(v, g) }) {
		t.Fatalf("%v, %d: %v, %d, want one of %v on %s", keep, torn, g, code, w.views, shortDisk(w.disk))
	}
	for power := range int64(9) {
		cut, code := impl.StoreDo(w.disk, act{Kind: 6, Keep: keep, Torn: torn, Power: power})
		if code == 0 {
			break
		}
		for _, again := range somePlaces(len(cut.Ops)) {
			left, ok := impl.Crash(cut, again, torn)
			if h, c := impl.StoreView(left); !ok || c != 0 || !slices.Equal(h, g) {
				t.Fatalf("%v, %d, and %v behind %d steps: %v, %d, want %v", keep, torn, again, power, h, c, g)
			}
		}
	}
	return watch{disk: d, views: [][]triple{g}}
}

// lostInAllWays keeps all that can be kept of what was not synced. Where much was not, it takes some ways only.
func (w watch) lostInAllWays(t *testing.T, dice *rand.Rand) {
	t.Helper()
	n := len(w.disk.Ops)
	ways := somePlaces(min(n, 6))
	for range 20 * max(0, n-6) {
		ways = append(ways, slices.DeleteFunc(allPlaces(n), func(int64) bool { return dice.Intn(3) == 0 }))
	}
	for _, keep := range ways {
		for _, torn := range []int64{0, 1, 7, 8, 9, 20, 1000} {
			w.lost(t, keep, torn)
		}
	}
}

// inAllPowers makes an act with each Power that ends it, and loses the power then.
func (w watch) inAllPowers(t *testing.T, a act, dice *rand.Rand) watch {
	t.Helper()
	for power := int64(0); ; power++ {
		next, code := w.after(t, withPower(a, power))
		next.lostInAllWays(t, dice)
		if code != 5 {
			return next
		}
	}
}

func aWatch(g []triple) watch {
	return watch{disk: synced(filesOf("base", baseText("0", g))), views: [][]triple{g}}
}

func TestALossOfPowerBetweenAnyTwoSteps(t *testing.T) {
	dice := rand.New(rand.NewSource(87))
	x, y, z := knot()[0], knot()[2], knot()[10]
	for _, acts := range [][]act{
		{{Kind: 2, Triple: x}, {Kind: 2, Triple: y}, {Kind: 3, Triple: x}, {Kind: 4}, {Kind: 2, Triple: x}, {Kind: 4}, {Kind: 3, Triple: y}},
		{{Kind: 2, Triple: x, Sync: true}, {Kind: 3, Triple: x}, {Kind: 2, Triple: x}, {Kind: 3, Triple: x}, {Kind: 2, Triple: y, Sync: true}, {Kind: 2, Triple: z}, {Kind: 4}, {Kind: 5}, {Kind: 4}},
		{{Kind: 4}, {Kind: 2, Triple: x}, {Kind: 2, Triple: x}, {Kind: 3, Triple: x}, {Kind: 3, Triple: x}, {Kind: 9}, {Kind: 1}, {Kind: 2, Triple: z, Sync: true}},
	} {
		for _, g := range [][]triple{nil, {z}, manyTriples(79)} {
			w := aWatch(g)
			for _, a := range acts {
				if _, code := w.after(t, withPower(a, -1)); code == 0 {
					w = w.inAllPowers(t, a, dice)
				} else {
					w.lostInAllWays(t, dice)
				}
			}
		}
	}
}

// An act that was cut short may be followed by others, without any loss: what is left of a save is in no one's way.
func TestALossOfPowerBehindASaveThatWasCutShort(t *testing.T) {
	dice := rand.New(rand.NewSource(89))
	x, y := knot()[0], knot()[2]
	for power := int64(1); power < 7; power++ {
		for again := int64(1); again < 9; again++ {
			w := aWatch(knot()[3:5])
			for _, a := range []act{{Kind: 2, Triple: x, Power: -1}, {Kind: 4, Power: power}, {Kind: 2, Triple: y, Power: -1}, {Kind: 3, Triple: x, Power: -1}, {Kind: 4, Power: again}, {Kind: 3, Triple: y, Power: -1}} {
				w, _ = w.after(t, a)
				w.lostInAllWays(t, dice)
			}
		}
	}
}

// While a base is made there is none, or it is the new one; all else is gone with the first sync.
func TestALossOfPowerWhileABaseIsMade(t *testing.T) {
	old := filesOf("a", "x", "log", logText("1 + "+textOf(newTriple)), "z", "y")
	for power := range int64(8) {
		d, code := impl.StoreDo(synced(old), act{Kind: 1, Power: power})
		if (code == 5) != (power < 7) {
			t.Fatal(power, code)
		}
		for _, keep := range somePlaces(len(d.Ops)) {
			for _, torn := range []int64{0, 1, 8, 9, 10} {
				left, ok := impl.Crash(d, keep, torn)
				g, viewCode := impl.StoreView(left)
				whole := power >= 6 && (code == 0 || len(keep) == 2)
				if !ok || len(g) != 0 || (viewCode == 0) != whole || viewCode != 0 && viewCode != 7 {
					t.Errorf("%d, %v, %d: %v, %d", power, keep, torn, g, viewCode)
				}
				next, c := impl.StoreDo(left, act{Kind: 1, Power: -1})
				if whole {
					wantDisk(t, "a base is there", next, c, left, 3)
				} else {
					wantDisk(t, "AcNew again", next, c, synced(filesOf("base", baseText("0", nil))), 0)
				}
			}
		}
	}
}

func TestManyActsAndLosses(t *testing.T) {
	dice := rand.New(rand.NewSource(91))
	kinds := []int64{2, 2, 2, 2, 3, 3, 3, 4, 5}
	counts := map[int64]int{}
	for range 40 {
		w := aWatch(graphBy(dice, knot()))
		for range 60 {
			a := act{Kind: kinds[dice.Intn(9)], Triple: knot()[dice.Intn(11)], Sync: dice.Intn(8) == 0, Power: int64(dice.Intn(8)) - 1}
			if dice.Intn(3) > 0 {
				a.Power = -1
			}
			next, code := w.after(t, a)
			w = next
			counts[code]++
			if dice.Intn(6) == 0 {
				keep := slices.DeleteFunc(allPlaces(len(w.disk.Ops)), func(int64) bool { return dice.Intn(3) == 0 })
				w = w.lost(t, keep, int64(dice.Intn(40)))
			}
		}
	}
	if counts[0] < 1000 || counts[5] < 100 || counts[8] < 300 || counts[6]+counts[4]+counts[2] != 0 {
		t.Error(counts)
	}
}
