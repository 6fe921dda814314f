package tests

import (
	"math"
	"math/rand"
	"slices"
	"strconv"
	"testing"

	"loop.example/g00420/impl"
)

// plainCrash is the document's sentence about Crash, of a right disk.
func plainCrash(d disk, keep []int64, torn int64) (disk, bool) {
	for i, place := range keep {
		if place < 0 || place >= int64(len(d.Ops)) || i > 0 && keep[i-1] >= place {
			return disk{}, false
		}
	}
	l := d.Safe
	for i, place := range keep {
		op := d.Ops[place]
		if op.Kind == 1 && i == len(keep)-1 && torn >= 0 && torn < int64(len(op.Data)) {
			op.Data = op.Data[:torn]
		}
		l, _ = plainOp(l, op)
	}
	if torn < 0 || !plainFit(l) {
		return disk{}, false
	}
	return synced(l), true
}

func wantCrash(t *testing.T, what string, d disk, keep []int64, torn int64, want []file) {
	t.Helper()
	got, ok := impl.Crash(d, keep, torn)
	wantDisk(t, what, got, 0, synced(want), 0)
	plain, fine := plainCrash(d, keep, torn)
	if !ok || !fine || !sameDisk(got, plain) {
		t.Errorf("%s: Crash of %v, %d: %v, plainCrash says %s, %v", what, keep, torn, ok, shortDisk(plain), fine)
	}
}

func wantNoCrash(t *testing.T, what string, d disk, keep []int64, torn int64) {
	t.Helper()
	got, ok := impl.Crash(d, keep, torn)
	wantNoDisk(t, what, got, ok)
	if _, fine := plainCrash(d, keep, torn); fine {
		t.Errorf("%s: plainCrash is true", what)
	}
}

// allPlaces gives 0 and on, n of them.
func allPlaces(n int) []int64 {
	var l []int64
	for i := range n {
		l = append(l, int64(i))
	}
	return l
}

// somePlaces gives all ways to choose some of n places.
func somePlaces(n int) [][]int64 {
	var all [][]int64
	for mask := range 1 << n {
		var keep []int64
		for _, place := range allPlaces(n) {
			if mask>>place&1 == 1 {
				keep = append(keep, place)
			}
		}
		all = append(all, keep)
	}
	return all
}

func TestWhichOpsAreKept(t *testing.T) {
	d := aDisk(filesOf("a", "1", "b", "2"), putOp("a", "34"), putOp("c", "5"), moveOp("c", "b"), goneOp("a"), putOp("b", "678"))
	for _, c := range []struct {
		keep []int64
		torn int64
		want []file
	}{
		{nil, 0, d.Safe}, {[]int64{}, 9, d.Safe}, {nil, math.MaxInt64, d.Safe},
		{[]int64{0}, 0, filesOf("a", "1", "b", "2")}, {[]int64{0}, 1, filesOf("a", "13", "b", "2")}, {[]int64{0}, 2, filesOf("a", "134", "b", "2")}, {[]int64{0}, 3, filesOf("a", "134", "b", "2")}, {[]int64{0}, math.MaxInt64, filesOf("a", "134", "b", "2")},
		{[]int64{1}, 0, filesOf("a", "1", "b", "2", "c", "")}, {[]int64{1}, 1, filesOf("a", "1", "b", "2", "c", "5")},
		{[]int64{0, 1}, 0, filesOf("a", "134", "b", "2", "c", "")}, {[]int64{0, 2}, 0, filesOf("a", "134", "b", "2")}, {[]int64{2}, 0, d.Safe}, {[]int64{1, 2}, 0, filesOf("a", "1", "b", "5")},
		{[]int64{1, 2, 3}, 0, filesOf("b", "5")}, {[]int64{0, 3}, 0, filesOf("b", "2")}, {[]int64{3}, 1, filesOf("b", "2")},
		{[]int64{4}, 0, filesOf("a", "1", "b", "2")}, {[]int64{4}, 2, filesOf("a", "1", "b", "267")}, {[]int64{2, 4}, 1, filesOf("a", "1", "b", "26")}, {[]int64{1, 2, 4}, 9, filesOf("a", "1", "b", "5678")},
		{[]int64{0, 1, 2, 3, 4}, 2, filesOf("b", "567")}, {[]int64{0, 1, 2, 3, 4}, 3, d.Live}, {[]int64{0, 1, 2, 3, 4}, 0, filesOf("b", "5")},
	} {
		wantCrash(t, "Crash", d, c.keep, c.torn, c.want)
	}
	for _, keep := range [][]int64{{5}, {-1}, {0, 5}, {-1, 0}, {0, 0}, {1, 0}, {0, 1, 1}, {0, 2, 1, 3}, {4, 4}, {0, 1, 2, 3, 4, 5}, {math.MaxInt64}, {math.MinInt64}, {1 << 32}} {
		for _, torn := range []int64{0, 9, -1} {
			wantNoCrash(t, "keep", d, keep, torn)
		}
	}
	for _, keep := range [][]int64{nil, {0}, {2}, {0, 1, 2, 3, 4}, {9}} {
		wantNoCrash(t, "torn", d, keep, -1)
		wantNoCrash(t, "torn", d, keep, math.MinInt64)
	}
	wantNoCrash(t, "no ops", disk{}, []int64{0}, 0)
}

// What an op wants may not have been kept: then it does nothing, and what comes behind it still counts.
func TestOpsThatFindNoFile(t *testing.T) {
	d := aDisk(filesOf("a", "1"), putOp("b", "2"), moveOp("b", "c"), goneOp("c"), putOp("c", "3"), moveOp("c", "a"))
	wantCrash(t, "a rename without its file", d, []int64{1}, 0, d.Safe)
	wantCrash(t, "a removal without its file", d, []int64{2}, 0, d.Safe)
	wantCrash(t, "both", d, []int64{1, 2}, 0, d.Safe)
	wantCrash(t, "both, and an append", d, []int64{1, 2, 3}, 1, filesOf("a", "1", "c", "3"))
	wantCrash(t, "a removal without the rename", d, []int64{0, 2}, 1, filesOf("a", "1", "b", "2"))
	wantCrash(t, "a rename onto what is there without its file", d, []int64{4}, 0, d.Safe)
	wantCrash(t, "behind what does nothing", d, []int64{2, 3, 4}, 0, filesOf("a", "3"))
	// Where another op made a file of that name.
	wantCrash(t, "a file that was not gone", d, []int64{0, 1, 3, 4}, 0, filesOf("a", "23"))
	wantCrash(t, "a file that was not gone, alone", d, []int64{0, 1, 4}, 0, filesOf("a", "2"))
}

func TestCrashesThatLeaveTooMuch(t *testing.T) {
	half := long(100000)
	d := aDisk(filesOf("a", half), putOp("b", half), goneOp("b"), putOp("c", half), goneOp("a"), putOp("c", half))
	wantCrash(t, "all", d, allPlaces(5), 100000, filesOf("c", half+half))
	wantCrash(t, "on the way, not at the end", d, []int64{0, 2, 3}, 0, filesOf("b", half, "c", half))
	wantNoCrash(t, "three halves", d, []int64{0, 2}, 100000)
	wantNoCrash(t, "one byte", d, []int64{0, 2}, 1)
	wantCrash(t, "no byte", d, []int64{0, 2}, 0, filesOf("a", half, "b", half, "c", ""))
	wantCrash(t, "just all", d, []int64{0, 3, 4}, 100000, filesOf("b", half, "c", half))
	wantNoCrash(t, "three halves and one gone", d, []int64{0, 2, 3, 4}, 1)
	wantCrash(t, "far too much on the way", d, []int64{0, 1, 2, 3}, 0, filesOf("c", half))
	sixty := manyFiles(60)
	d = aDisk(sixty, goneOp("aa"), putOp("zz", ""), goneOp("ab"), putOp("zy", "x"), moveOp("zz", "ac"))
	wantNoCrash(t, "61", d, []int64{1}, 0)
	wantNoCrash(t, "62", d, []int64{1, 3}, 0)
	wantNoCrash(t, "61 of 62", d, []int64{0, 1, 3}, 0)
	wantCrash(t, "61 on the way", d, []int64{1, 2}, 0, append(slices.Delete(slices.Clone(sixty), 1, 2), file{Name: "zz"}))
	wantCrash(t, "61 and a rename", d, []int64{1, 4}, 0, sixty)
	wantCrash(t, "all of 60", d, allPlaces(5), 0, append(slices.Clone(sixty[2:]), file{Name: "zy", Data: "x"}))
	many := disk{Safe: filesOf("k", "")}
	for range 60 {
		many.Ops = append(many.Ops, putOp("a", long(200000)), goneOp("a"))
	}
	many.Live = many.Safe
	var appends []int64
	for i := range 60 {
		appends = append(appends, int64(2*i))
	}
	wantNoCrash(t, "sixty times too much", many, appends, 0)
	wantCrash(t, "sixty times too much on the way", many, append(appends, 119), 0, filesOf("k", ""))
}

// Promise 16, in every way to keep some ops, and with every torn that can be told apart.
func TestWhateverIsKept(t *testing.T) {
	dice := rand.New(rand.NewSource(83))
	for range 60 {
		d := synced(filesOf("a", "x", "b", ""))
		for _, op := range opsBy(dice, 10) {
			if next, code := impl.Do(d, op); code == 0 && len(d.Ops) < 6 {
				d = next
			}
		}
		for _, keep := range somePlaces(len(d.Ops)) {
			for torn := range int64(5) {
				want, _ := plainCrash(d, keep, torn)
				wantCrash(t, "some", d, keep, torn, want.Live)
			}
			wantNoCrash(t, "torn", d, keep, -1)
			wantNoCrash(t, "one that is none", d, append(slices.Clone(keep), int64(len(d.Ops))), 0)
			if n := len(keep); n > 0 {
				wantNoCrash(t, "twice", d, append(slices.Clone(keep), keep[n-1]), 0)
			}
		}
		wantCrash(t, "none", d, nil, 3, d.Safe)
		wantCrash(t, "all", d, allPlaces(len(d.Ops)), 3, d.Live)
		wantCrash(t, "all of what is synced", impl.Sync(d), nil, 0, d.Live)
		if t.Failed() {
			t.Fatal(shortDisk(d))
		}
	}
}

func TestSync(t *testing.T) {
	for _, d := range []disk{
		{}, synced(filesOf("a", "x")), aDisk(filesOf("a", "x"), putOp("b", "y")), aDisk(filesOf("a", "x"), goneOp("a")), aDisk(nil, putOp("a", "")), aDisk(manyFiles(60), moveOp("aa", "zz")),
	} {
		got := impl.Sync(d)
		wantDisk(t, "Sync", got, 0, synced(d.Live), 0)
		wantDisk(t, "Sync again", impl.Sync(got), 0, synced(d.Live), 0)
	}
}

// plainReplaced is the three ops, each by impl.Do.
func plainReplaced(d disk, name, data string) (disk, int64) {
	ops := []dop{putOp(name+".new", data), moveOp(name+".new", name)}
	if _, there := plainFiles(d.Live)[name+".new"]; there {
		ops = append([]dop{goneOp(name + ".new")}, ops...)
	}
	now := d
	for _, op := range ops {
		next, code := plainDoing(now, op)
		if code != 0 {
			return d, code
		}
		now = next
	}
	return now, 0
}

func wantReplaced(t *testing.T, what string, d disk, name, data string, ops int, wantCode int64) disk {
	t.Helper()
	got, code := impl.Replace(d, name, data)
	want, plainCode := plainReplaced(d, name, data)
	wantDisk(t, what, got, code, want, wantCode)
	if plainCode != wantCode || len(got.Ops) != len(d.Ops)+ops {
		t.Errorf("%s: %d ops, plainReplaced says %d", what, len(got.Ops)-len(d.Ops), plainCode)
	}
	if read, ok := impl.ReadFile(got, name); wantCode == 0 && (!ok || read != data) {
		t.Errorf("%s: ReadFile: %v", what, ok)
	}
	return got
}

func TestReplace(t *testing.T) {
	wantReplaced(t, "a new file", disk{}, "a", "x", 2, 0)
	wantReplaced(t, "an empty one", disk{}, "a", "", 2, 0)
	old := synced(filesOf("a", "old", "b", "y"))
	wantReplaced(t, "an old file", old, "a", "new", 2, 0)
	wantReplaced(t, "an old file by an empty one", old, "a", "", 2, 0)
	left := synced(filesOf("a", "old", "a.new", "left", "b", "y"))
	got := wantReplaced(t, "with another one in the way", left, "a", "new", 3, 0)
	if !slices.Equal(got.Live, filesOf("a", "new", "b", "y")) {
		t.Error(got.Live)
	}
	got = wantReplaced(t, "the one in the way", left, "a.new", "new", 2, 0)
	if !slices.Equal(got.Live, filesOf("a", "old", "a.new", "new", "b", "y")) {
		t.Error(got.Live)
	}
	wantReplaced(t, "behind other ops", aDisk(filesOf("a", "old"), moveOp("a", "b"), putOp("a.new", "x")), "a", "new", 3, 0)
	wantReplaced(t, "no name", old, "", "x", 0, 2)
	wantReplaced(t, "no name, with another one in the way", synced(filesOf(".new", "x")), "", "y", 0, 2)
	wantReplaced(t, "a name of 96 bytes", old, long(96), "x", 2, 0)
	for _, n := range []int{97, 100, 101, 200} {
		wantReplaced(t, "a long name", old, long(n), "x", 0, 2)
		wantReplaced(t, "a long name of a file", synced(filesOf(long(min(n, 100)), "x")), long(n), "y", 0, 2)
	}
}

func TestReplaceOnADiskThatIsFull(t *testing.T) {
	half := long(100000)
	for _, c := range []struct {
		data string
		code int64
	}{{half, 0}, {half + "x", 4}, {half + half, 4}, {long(200001), 4}} {
		ops := 2
		if c.code != 0 {
			ops = 0
		}
		wantReplaced(t, "both are there on the way", synced(filesOf("a", half)), "a", c.data, ops, c.code)
	}
	wantReplaced(t, "the one in the way makes room", synced(filesOf("a", half, "a.new", half)), "a", half, 3, 0)
	wantReplaced(t, "not enough room", synced(filesOf("a", half, "a.new", half)), "a", half+"x", 0, 4)
	wantReplaced(t, "60 files", synced(manyFiles(60)), "aa", "x", 0, 4)
	wantReplaced(t, "59 files", synced(manyFiles(59)), "aa", "x", 2, 0)
	wantReplaced(t, "59 files and a new one", synced(manyFiles(59)), "zz", "x", 2, 0)
	for _, left := range [][]file{nil, filesOf("a", "x"), filesOf("a", "x", "a.new", "y")} {
		for n := 196; n <= 200; n++ {
			d := synced(left)
			for range n {
				d.Ops = append(d.Ops, putOp("b", ""))
			}
			d.Live = inNames(plainFiles(append(slices.Clone(left), file{Name: "b"})))
			ops, code := 2+len(left)/2, int64(0)
			if n+ops > 200 {
				ops, code = 0, 4
			}
			wantReplaced(t, strconv.Itoa(n)+" ops", d, "a", "z", ops, code)
		}
	}
}

// A file is the old one or the new one, whichever of the ops are kept, and all other files are as they were.
func TestAFileThatIsReplacedIsTheOldOneOrTheNewOne(t *testing.T) {
	for _, old := range [][]file{nil, filesOf("a", "old"), filesOf("a", ""), filesOf("a.ne", "1", "b", "2"), filesOf("a", "old", "b", "b", "b.new", "c")} {
		for _, data := range []string{"", "n", "new", "old and new"} {
			d, code := impl.Replace(synced(old), "a", data)
			if code != 0 || len(d.Ops) != 2 {
				t.Fatal(code, shortDisk(d))
			}
			olds, news := 0, 0
			for _, keep := range somePlaces(2) {
				for torn := range int64(len(data) + 2) {
					got, ok := impl.Crash(d, keep, torn)
					rest := plainFiles(got.Live)
					delete(rest, "a.new")
					switch {
					case ok && slices.Equal(inNames(rest), old):
						olds++
					case ok && slices.Equal(got.Live, d.Live):
						news++
					default:
						t.Errorf("%v, %d: %s, %v", keep, torn, shortDisk(got), ok)
					}
				}
			}
			if want := len(data) + 2; news != want && !slices.Equal(d.Live, old) {
				t.Errorf("%d are old, %d are new", olds, news)
			}
		}
	}
}
