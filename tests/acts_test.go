package tests

import (
	"math"
	"slices"
	"strconv"
	"strings"
	"testing"

	"loop.example/g00420/impl"
)

// syncStep stands among ops for a Sync.
var syncStep = dop{}

// stepped makes the first ones of some steps.
func stepped(d disk, steps []dop) disk {
	for _, op := range steps {
		if op == syncStep {
			d = synced(d.Live)
			continue
		}
		next, code := plainDoing(d, op)
		if code != 0 {
			panic("a step is refused")
		}
		d = next
	}
	return d
}

func withPower(a act, power int64) act {
	a.Power = power
	return a
}

// wantSteps wants these steps of an act that begins with from, and only the first ones of them with less Power.
func wantSteps(t *testing.T, what string, d disk, a act, from disk, steps ...dop) disk {
	t.Helper()
	for power := int64(-3); power < int64(len(steps))+3; power++ {
		n, code := int64(len(steps)), int64(0)
		if power >= 0 && power < n {
			n, code = power, 5
		}
		got, c := impl.StoreDo(d, withPower(a, power))
		wantDisk(t, what+", Power "+strconv.FormatInt(power, 10), got, c, stepped(from, steps[:n]), code)
		played, codes := impl.StorePlay(d, []act{withPower(a, power)})
		if !slices.Equal(codes, []int64{code}) || !sameDisk(played, got) {
			t.Errorf("%s: StorePlay: %s, %v", what, shortDisk(played), codes)
		}
	}
	for _, power := range []int64{math.MinInt64, math.MaxInt64} {
		got, c := impl.StoreDo(d, withPower(a, power))
		wantDisk(t, what, got, c, stepped(from, steps), 0)
	}
	return stepped(from, steps)
}

// wantNoSteps wants a refusal ahead of all steps, with any Power, and the disk as it is, or behind Crash.
func wantNoSteps(t *testing.T, what string, d disk, a act, left disk, code int64) {
	t.Helper()
	for power := int64(-1); power < 3; power++ {
		got, c := impl.StoreDo(d, withPower(a, power))
		wantDisk(t, what, got, c, left, code)
		played, codes := impl.StorePlay(d, []act{withPower(a, power)})
		if !slices.Equal(codes, []int64{code}) || !sameDisk(played, got) {
			t.Errorf("%s: StorePlay: %s, %v", what, shortDisk(played), codes)
		}
	}
}

// wantStepRefused wants StPower with each Power up to the number of steps that can be made, StFull and the disk left with more.
func wantStepRefused(t *testing.T, what string, d disk, a act, left disk, steps ...dop) {
	t.Helper()
	n := int64(len(steps))
	for power := int64(-1); power < n+3; power++ {
		got, c := impl.StoreDo(d, withPower(a, power))
		if power >= 0 && power <= n {
			wantDisk(t, what+", Power "+strconv.FormatInt(power, 10), got, c, stepped(left, steps[:power]), 5)
		} else {
			wantDisk(t, what+", Power "+strconv.FormatInt(power, 10), got, c, left, 4)
		}
	}
}

// saveSteps is what the document calls to save, where neither base.new nor log is there.
func saveSteps(number string, g []triple) []dop {
	return []dop{syncStep, putOp("base.new", baseText(number, g)), moveOp("base.new", "base"), syncStep}
}

func entry(n int, mark string, x triple) dop {
	return putOp("log", plainFrame(strconv.Itoa(n)+" "+mark+" "+textOf(x)))
}

// aStore has knot() on it: a base with 7, and two frames behind it; the last one is not synced.
func aStore() disk {
	g := knot()
	log := logText("8 - "+textOf(g[0]), "9 + "+textOf(g[0]))
	return aDisk(filesOf("base", baseText("7", g), "log", log[:len(log)/2], "z", "other"), putOp("log", log[len(log)/2:]))
}

// tornStore is aStore with a log that is not good.
func tornStore() disk { return stepped(aStore(), []dop{putOp("log", "torn")}) }

var newTriple = triple{S: "<new>", P: "<new>", O: "\"new \\\"\\n\""}

func TestActsOfNoKind(t *testing.T) {
	for _, d := range []disk{{}, aStore(), tornStore(), synced(filesOf("base", "broken")), synced(filesOf("a", "x"))} {
		for _, kind := range []int64{0, 7, 8, -1, math.MinInt64, math.MaxInt64, 1<<32 + 1} {
			for _, x := range []triple{{}, newTriple} {
				wantNoSteps(t, "no kind", d, act{Kind: kind, Triple: x, Sync: true, Keep: []int64{0}}, d, 3)
			}
		}
	}
}

func TestANewBase(t *testing.T) {
	a := act{Kind: 1}
	wantSteps(t, "no files", disk{}, a, disk{}, saveSteps("0", nil)...)
	wantSteps(t, "what is not asked", disk{}, act{Kind: 1, Triple: newTriple, Sync: true, Keep: []int64{3}, Torn: -1}, disk{}, saveSteps("0", nil)...)
	for _, d := range []disk{
		synced(filesOf("a", "x")), synced(filesOf("log", logText("1 + <a> <p> <b> ."))), synced(filesOf("base.new", "x")),
		aDisk(filesOf("base.new", "x", "c", ""), putOp("log", "y"), moveOp("c", "b"), putOp("Base", "z")),
		aDisk(filesOf("base", "x"), goneOp("base")), synced(manyFiles(60)), synced(filesOf("a", long(200000))),
	} {
		var steps []dop
		for _, f := range d.Live {
			steps = append(steps, goneOp(f.Name))
		}
		got := wantSteps(t, "files", d, a, d, append(steps, saveSteps("0", nil)...)...)
		if !sameDisk(got, synced(filesOf("base", "\x00\x00\x00\x02\x12\xcd\x4a\x7e0\n"))) {
			t.Errorf("%s", shortDisk(got))
		}
	}
	for _, d := range []disk{aStore(), tornStore(), synced(filesOf("base", "")), synced(filesOf("a", "", "base", "broken")), aDisk(nil, putOp("base", "x"))} {
		wantNoSteps(t, "a base", d, a, d, 3)
	}
}

// manyOps has that many ops that change nothing.
func manyOps(l []file, n int) disk {
	d := synced(l)
	for range n {
		d.Ops = append(d.Ops, putOp(l[0].Name, ""))
	}
	return d
}

func TestANewBaseWithoutRoomForOps(t *testing.T) {
	l := filesOf("a", "x", "b", "y", "c", "z")
	wantSteps(t, "200 ops", manyOps(l, 197), act{Kind: 1}, manyOps(l, 197), append([]dop{goneOp("a"), goneOp("b"), goneOp("c")}, saveSteps("0", nil)...)...)
	wantStepRefused(t, "201 ops", manyOps(l, 198), act{Kind: 1}, manyOps(l, 198), goneOp("a"), goneOp("b"))
	wantStepRefused(t, "203 ops", manyOps(l, 200), act{Kind: 1}, manyOps(l, 200))
}

func TestAddAndDrop(t *testing.T) {
	d, g := aStore(), knot()
	wantSteps(t, "add", d, act{Kind: 2, Triple: newTriple}, d, entry(10, "+", newTriple))
	wantSteps(t, "add and sync", d, act{Kind: 2, Triple: newTriple, Sync: true}, d, entry(10, "+", newTriple), syncStep)
	wantSteps(t, "what is not asked", d, act{Kind: 2, Triple: newTriple, Keep: []int64{-1}, Torn: -1}, d, entry(10, "+", newTriple))
	for _, x := range g {
		wantSteps(t, "drop", d, act{Kind: 3, Triple: x}, d, entry(10, "-", x))
		wantSteps(t, "drop and sync", d, act{Kind: 3, Triple: x, Sync: true}, d, entry(10, "-", x), syncStep)
		wantNoSteps(t, "add what is there", d, act{Kind: 2, Triple: x, Sync: true}, d, 8)
	}
	wantNoSteps(t, "drop what is not there", d, act{Kind: 3, Triple: newTriple}, d, 8)
	bare := synced(filesOf("base", baseText("0", nil)))
	wantSteps(t, "without a log", bare, act{Kind: 2, Triple: newTriple}, bare, entry(1, "+", newTriple))
	wantNoSteps(t, "drop without a log", bare, act{Kind: 3, Triple: newTriple}, bare, 8)
	left := synced(filesOf("base", baseText("41", nil), "base.new", "left", "log", logText("12 x")))
	wantSteps(t, "behind a frame that is passed over", left, act{Kind: 2, Triple: g[0], Sync: true}, left, entry(42, "+", g[0]), syncStep)
	for _, x := range wrongTriples() {
		for kind := int64(2); kind <= 3; kind++ {
			wantNoSteps(t, "a wrong triple", d, act{Kind: kind, Triple: x}, d, 3)
			wantNoSteps(t, "a wrong triple ahead of a torn log", tornStore(), act{Kind: kind, Triple: x}, tornStore(), 3)
		}
	}
	for _, x := range append(knot()[:2], newTriple) {
		for kind := int64(2); kind <= 3; kind++ {
			wantNoSteps(t, "a torn log", tornStore(), act{Kind: kind, Triple: x}, tornStore(), 6)
		}
	}
}

func TestAddAndDropAtTheLimits(t *testing.T) {
	all := manyTriples(81)
	d := synced(filesOf("base", baseText("5", all[:80])))
	wantNoSteps(t, "81", d, act{Kind: 2, Triple: all[80]}, d, 4)
	wantNoSteps(t, "one of 80", d, act{Kind: 2, Triple: all[3]}, d, 8)
	wantSteps(t, "one of 80 dropped", d, act{Kind: 3, Triple: all[3]}, d, entry(6, "-", all[3]))
	d = synced(filesOf("base", baseText("5", all[:79])))
	wantSteps(t, "80", d, act{Kind: 2, Triple: all[79]}, d, entry(6, "+", all[79]))
	d = synced(filesOf("base", baseText("999999998", knot())))
	for kind, x := range map[int64]triple{2: newTriple, 3: knot()[2]} {
		other := map[int64]triple{2: knot()[2], 3: newTriple}[kind]
		a := act{Kind: kind, Triple: x}
		wantSteps(t, "the last number", d, a, d, entry(999999999, []string{"+", "-"}[kind-2], x))
		last := synced(filesOf("base", baseText("999999999", knot())))
		wantNoSteps(t, "behind the last number", last, a, last, 4)
		wantNoSteps(t, "the same behind the last number", last, act{Kind: kind, Triple: other}, last, 8)
		wantNoSteps(t, "no triple behind the last number", last, act{Kind: kind}, last, 3)
		left := synced(filesOf("base", baseText("999999998", knot()), "log", logText("999999999 + "+textOf(knot()[0]))))
		wantNoSteps(t, "a log that ends with the last number", left, a, left, 4)
		wantSteps(t, "save with the last number", left, act{Kind: 4}, left, append(saveSteps("999999999", knot()), goneOp("log"), syncStep)...)
	}
}

func TestSaveAndOpen(t *testing.T) {
	d, g := aStore(), knot()
	gone := []dop{goneOp("log"), syncStep}
	wantSteps(t, "save", d, act{Kind: 4}, d, append(saveSteps("9", g), gone...)...)
	wantSteps(t, "what is not asked", d, act{Kind: 4, Triple: newTriple, Sync: true, Keep: []int64{5, 2}, Torn: -1}, d, append(saveSteps("9", g), gone...)...)
	wantSteps(t, "open a good log", d, act{Kind: 5}, d)
	wantSteps(t, "open a torn log", tornStore(), act{Kind: 5}, tornStore(), append(saveSteps("9", g), gone...)...)
	wantNoSteps(t, "save a torn log", tornStore(), act{Kind: 4}, tornStore(), 6)
	for _, log := range []string{"", logText("3 x"), logText("5 + " + textOf(newTriple))} {
		d = aDisk(filesOf("base", "x"), moveOp("base", "base.new"), putOp("base", baseText("4", g)), putOp("log", log), putOp("other", "y"))
		number, all := "4", g
		if strings.HasPrefix(log[min(len(log), 8):], "5") {
			number, all = "5", allOf(g, []triple{newTriple})
		}
		save := slices.Insert(saveSteps(number, all), 1, goneOp("base.new"), syncStep)
		wantSteps(t, "save with one in the way", d, act{Kind: 4}, d, append(save, gone...)...)
		wantSteps(t, "open with one in the way", d, act{Kind: 5}, d)
		torn := stepped(d, []dop{putOp("log", "\x00")})
		wantSteps(t, "open a torn log with one in the way", torn, act{Kind: 5}, torn, append(save, gone...)...)
		d = stepped(d, []dop{goneOp("log")})
		save = slices.Insert(saveSteps("4", g), 1, goneOp("base.new"), syncStep)
		wantSteps(t, "save with one in the way, without a log", d, act{Kind: 4}, d, save...)
		d = stepped(d, []dop{goneOp("base.new")})
		wantSteps(t, "save without a log", d, act{Kind: 4}, d, saveSteps("4", g)...)
		wantSteps(t, "open without a log", d, act{Kind: 5}, d)
	}
}

func TestACrash(t *testing.T) {
	g := knot()
	x, y := entry(10, "+", newTriple), entry(11, "-", g[0])
	d := stepped(aStore(), []dop{syncStep, x, y})
	more := allOf(g, []triple{newTriple})
	log := d.Safe[1].Data
	left := func(behind string) disk {
		return synced(filesOf("base", baseText("7", g), "log", log+behind, "z", "other"))
	}
	n, m := int64(len(x.Data)), int64(len(y.Data))
	for _, c := range []struct {
		keep   []int64
		torn   int64
		behind string
	}{{nil, 0, ""}, {nil, 99, ""}, {[]int64{0}, 0, ""}, {[]int64{0}, n, x.Data}, {[]int64{0}, 99, x.Data}, {[]int64{0, 1}, 0, x.Data}, {[]int64{0, 1}, m, x.Data + y.Data}, {[]int64{1}, 0, ""}} {
		wantSteps(t, "a good log", d, act{Kind: 6, Keep: c.keep, Torn: c.torn, Triple: newTriple, Sync: true}, left(c.behind))
	}
	gone := []dop{goneOp("log"), syncStep}
	wantSteps(t, "a drop whose number is one too many", d, act{Kind: 6, Keep: []int64{1}, Torn: 99}, left(y.Data), append(saveSteps("9", g), gone...)...)
	for torn := int64(1); torn < n; torn += 3 {
		wantSteps(t, "a torn adding", d, act{Kind: 6, Keep: []int64{0}, Torn: torn}, left(x.Data[:torn]), append(saveSteps("9", g), gone...)...)
		wantSteps(t, "a torn drop", d, act{Kind: 6, Keep: []int64{0, 1}, Torn: min(torn, m-1)}, left(x.Data+y.Data[:min(torn, m-1)]), append(saveSteps("10", more), gone...)...)
	}
	for _, keep := range [][]int64{{2}, {-1}, {0, 0}, {1, 0}, {0, 1, 2}, {math.MaxInt64}} {
		wantNoSteps(t, "Keep", d, act{Kind: 6, Keep: keep, Torn: 1}, d, 3)
		wantNoSteps(t, "Keep, on a disk without a base", aDisk(nil, putOp("a", "x"), putOp("a", "")), act{Kind: 6, Keep: keep}, aDisk(nil, putOp("a", "x"), putOp("a", "")), 3)
	}
	for _, keep := range [][]int64{nil, {0}, {0, 1}, {9}} {
		wantNoSteps(t, "Torn", d, act{Kind: 6, Keep: keep, Torn: -1}, d, 3)
	}
	half := long(100000)
	full := aDisk(filesOf("base", baseText("7", nil), "z", half), goneOp("z"), putOp("y", half))
	wantNoSteps(t, "too much", full, act{Kind: 6, Keep: []int64{1}, Torn: 100000}, full, 3)
}

// What Crash leaves may have no base, or a broken one, where the disk had one; and the other way round.
func TestACrashThatLeavesNoBase(t *testing.T) {
	d := stepped(disk{}, saveSteps("0", nil)[1:3])
	base := baseText("0", nil)
	wantNoSteps(t, "nothing is kept", d, act{Kind: 6}, disk{}, 7)
	wantNoSteps(t, "a fresh one is kept", d, act{Kind: 6, Keep: []int64{0}, Torn: 99}, synced(filesOf("base.new", base)), 7)
	wantNoSteps(t, "a rename is kept", d, act{Kind: 6, Keep: []int64{1}}, disk{}, 7)
	wantSteps(t, "all is kept", d, act{Kind: 6, Keep: []int64{0, 1}}, synced(filesOf("base", base)))
	d = aDisk(filesOf("base", base), putOp("base", "x"))
	wantNoSteps(t, "a broken one", d, act{Kind: 6, Keep: []int64{0}, Torn: 1}, synced(filesOf("base", base+"x")), 2)
	wantSteps(t, "a good one", d, act{Kind: 6, Keep: []int64{0}}, synced(filesOf("base", base)))
	wantNoSteps(t, "no base on the disk, nor behind it", aDisk(nil, putOp("log", "x")), act{Kind: 6, Keep: []int64{0}, Torn: 9}, synced(filesOf("log", "x")), 7)
	for kind := int64(2); kind <= 5; kind++ {
		wantNoSteps(t, "a broken one that is seen", d, act{Kind: kind, Triple: newTriple}, d, 2)
	}
}

func TestActsOnADiskThatIsFull(t *testing.T) {
	base, frame := baseText("0", nil), entry(1, "+", newTriple).Data
	a := act{Kind: 2, Triple: newTriple, Sync: true}
	for room := range len(frame) + 2 {
		d := aDisk(filesOf("base", base), putOp("z", long(200000-len(base)-room)))
		if room >= len(frame) {
			wantSteps(t, "the last bytes", d, a, d, putOp("log", frame), syncStep)
		} else {
			wantStepRefused(t, "one byte too many", d, a, d)
		}
	}
	for room := range len(base) + 1 {
		d := aDisk(filesOf("base", base), putOp("z", long(200000-len(base)-room)))
		if room == len(base) {
			wantSteps(t, "room for one more", d, act{Kind: 4}, d, saveSteps("0", nil)...)
		} else {
			wantStepRefused(t, "no room for one more", d, act{Kind: 4}, d, syncStep)
		}
	}
	ops := manyOps(filesOf("base", base), 199)
	wantSteps(t, "the last op", ops, a, ops, putOp("log", frame), syncStep)
	ops = manyOps(filesOf("base", base), 200)
	wantStepRefused(t, "one op too many", ops, a, ops)
	wantSteps(t, "many ops ahead of a Sync", ops, act{Kind: 4}, ops, saveSteps("0", nil)...)
}

// among puts some files among as many others as there have to be for n.
func among(n int, l ...string) []file {
	some := filesOf(l...)
	return inNames(plainFiles(append(some, manyFiles(n-len(some))...)))
}

func TestActsOnADiskWithSixtyFiles(t *testing.T) {
	base, frame := baseText("0", nil), entry(1, "+", newTriple).Data
	a := act{Kind: 2, Triple: newTriple}
	d := synced(among(60, "base", base))
	wantStepRefused(t, "a log too many", d, a, d)
	wantStepRefused(t, "a fresh one too many", d, act{Kind: 4}, d, syncStep)
	d = synced(among(59, "base", base))
	wantSteps(t, "room for a log", d, a, d, putOp("log", frame))
	wantSteps(t, "room for a fresh one", d, act{Kind: 4}, d, saveSteps("0", nil)...)
	d = synced(among(60, "base", base, "base.new", "x"))
	wantSteps(t, "one in the way makes room", d, act{Kind: 4}, d, slices.Insert(saveSteps("0", nil), 1, goneOp("base.new"), syncStep)...)
	d = synced(among(60, "base", base, "log", ""))
	wantSteps(t, "the log is there", d, a, d, putOp("log", frame))
	d = aDisk(d.Live, putOp("log", "torn"), putOp("aa", "x"))
	wantStepRefused(t, "open", d, act{Kind: 5}, d, syncStep)
	wantStepRefused(t, "behind Crash", d, act{Kind: 6, Keep: []int64{0}, Torn: 2}, synced(among(60, "base", base, "log", "to")), syncStep)
	wantSteps(t, "nothing to be done behind Crash", d, act{Kind: 6, Keep: []int64{1}, Torn: 9}, synced(inNames(plainFiles(append(among(60, "base", base, "log", ""), file{Name: "aa", Data: "x"})))))
	// The log is too many, and goes too late.
	half := long(100000 - len(base))
	d = synced(filesOf("base", base, "log", half, "z", long(100000)))
	wantStepRefused(t, "a log that would make room", d, act{Kind: 5}, d, syncStep)
}

func TestActsOneBehindTheOther(t *testing.T) {
	x, y := knot()[0], knot()[1]
	all := -int64(1)
	acts := []act{
		{Kind: 3, Triple: x, Power: all}, {Kind: 1, Power: all}, {Kind: 1, Power: all}, {Kind: 2, Triple: y, Power: all}, {Kind: 2, Triple: x, Power: 0}, {Kind: 2, Triple: x, Power: 1},
		{Kind: 2, Triple: x, Power: all}, {Kind: 9}, {Kind: 3, Triple: y, Sync: true, Power: 1}, {Kind: 2, Triple: newTriple, Power: all}, {Kind: 6, Keep: []int64{0, 1, 2, 3}, Torn: 3, Power: all},
		{Kind: 6, Keep: []int64{0}, Power: all}, {Kind: 4, Power: 3}, {Kind: 5, Power: all}, {Kind: 4, Power: all}, {Kind: 5, Power: all},
	}
	codes := []int64{7, 0, 3, 0, 5, 0, 8, 3, 5, 0, 0, 3, 5, 0, 0, 0}
	d, got := impl.StorePlay(disk{}, acts)
	wantDisk(t, "StorePlay", d, 0, synced(filesOf("base", baseText("3", []triple{x}))), 0)
	if !slices.Equal(got, codes) {
		t.Errorf("%v, want %v", got, codes)
	}
	now := disk{}
	for i, a := range acts {
		next, code := impl.StoreDo(now, a)
		played, some := impl.StorePlay(disk{}, acts[:i+1])
		wantDisk(t, "StorePlay of some", played, code, next, codes[i])
		if !slices.Equal(some, codes[:i+1]) {
			t.Error(some)
		}
		now = next
	}
	for _, d := range []disk{{}, aStore(), tornStore(), synced(manyFiles(60))} {
		played, some := impl.StorePlay(d, nil)
		wantDisk(t, "StorePlay of none", played, int64(len(some)), d, 0)
	}
	many := slices.Repeat([]act{{Kind: 2, Triple: x, Sync: true, Power: all}, {Kind: 3, Triple: x, Sync: true, Power: all}}, 300)
	d, got = impl.StorePlay(synced(filesOf("base", baseText("0", nil))), many)
	if !slices.Equal(got, make([]int64, 600)) || len(d.Ops) != 0 {
		t.Error(got)
	}
	wantView(t, "many acts", d.Live, nil, 600, true)
}
