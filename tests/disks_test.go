package tests

import (
	"maps"
	"math"
	"math/rand"
	"slices"
	"strconv"
	"strings"
	"testing"

	"loop.example/g00420/impl"
)

type (
	file = impl.File
	dop  = impl.DOp
	disk = impl.Disk
)

func putOp(name, data string) dop { return dop{Kind: 1, Name: name, Data: data} }

func moveOp(name, to string) dop { return dop{Kind: 2, Name: name, To: to} }

func goneOp(name string) dop { return dop{Kind: 3, Name: name} }

// filesOf reads names and Data by turns.
func filesOf(l ...string) []file {
	var list []file
	for i := 0; i+1 < len(l); i += 2 {
		list = append(list, file{Name: l[i], Data: l[i+1]})
	}
	return list
}

// manyFiles gives n files without Data, with names of two letters that rise.
func manyFiles(n int) []file {
	var l []file
	for i := range n {
		l = append(l, file{Name: varName(i)[1:]})
	}
	return l
}

func long(n int) string { return strings.Repeat("x", n) }

func plainFiles(l []file) map[string]string {
	m := map[string]string{}
	for _, f := range l {
		m[f.Name] = f.Data
	}
	return m
}

func inNames(m map[string]string) []file {
	var l []file
	for _, name := range slices.Sorted(maps.Keys(m)) {
		l = append(l, file{Name: name, Data: m[name]})
	}
	return l
}

func plainFit(l []file) bool {
	n := 0
	for _, f := range l {
		n += len(f.Data)
	}
	return len(l) <= 60 && n <= 200000
}

func plainFileName(name string) bool { return name != "" && len(name) <= 100 }

// plainFilesOk holds the files against those that are sorted, each name once.
func plainFilesOk(l []file) bool {
	return plainFit(l) && slices.Equal(l, inNames(plainFiles(l))) && !slices.ContainsFunc(l, func(f file) bool { return !plainFileName(f.Name) })
}

// plainOp does an op that is of its form, if it finds its file.
func plainOp(l []file, op dop) ([]file, bool) {
	m := plainFiles(l)
	data, there := m[op.Name]
	if op.Kind != 1 && !there {
		return l, false
	}
	delete(m, op.Name)
	switch op.Kind {
	case 1:
		m[op.Name] = data + op.Data
	case 2:
		m[op.To] = data
	}
	return inNames(m), true
}

func plainForm(op dop) bool {
	switch op.Kind {
	case 1:
		return plainFileName(op.Name) && op.To == ""
	case 2:
		return plainFileName(op.Name) && plainFileName(op.To) && op.Data == ""
	case 3:
		return plainFileName(op.Name) && op.To == "" && op.Data == ""
	}
	return false
}

func plainDiskOk(d disk) bool {
	l, ok := d.Safe, plainFilesOk(d.Safe) && plainFilesOk(d.Live) && len(d.Ops) <= 200
	for _, op := range d.Ops {
		if !ok || !plainForm(op) {
			return false
		}
		l, ok = plainOp(l, op)
		ok = ok && plainFit(l)
	}
	return ok && slices.Equal(l, d.Live)
}

// plainDoing is the document's sentence about Do.
func plainDoing(d disk, op dop) (disk, int64) {
	if !plainDiskOk(d) {
		return disk{}, 1
	}
	if !plainForm(op) {
		return d, 2
	}
	l, there := plainOp(d.Live, op)
	if !there {
		return d, 3
	}
	if len(d.Ops) == 200 || !plainFit(l) {
		return d, 4
	}
	return disk{Live: l, Safe: d.Safe, Ops: append(slices.Clone(d.Ops), op)}, 0
}

func sameDisk(a, b disk) bool {
	return slices.Equal(a.Live, b.Live) && slices.Equal(a.Safe, b.Safe) && slices.Equal(a.Ops, b.Ops)
}

// shortDisk is for messages: some disks have much in them.
func shortDisk(d disk) string {
	s := told(valueOf(d), false)
	return s[:min(len(s), 600)]
}

func wantDisk(t *testing.T, what string, got disk, code int64, want disk, wantCode int64) {
	t.Helper()
	if code != wantCode || !sameDisk(got, want) {
		t.Errorf("%s: %s, %d, want %s, %d", what, shortDisk(got), code, shortDisk(want), wantCode)
	}
	if wantCode != 1 && !impl.DiskOk(got) {
		t.Errorf("%s: %s is no disk", what, shortDisk(got))
	}
}

func synced(l []file) disk { return disk{Live: l, Safe: l} }

// aDisk gives a right disk on which that was done since all was synced.
func aDisk(safe []file, ops ...dop) disk {
	d := synced(safe)
	for _, op := range ops {
		next, code := plainDoing(d, op)
		if code != 0 {
			panic("no disk: " + strconv.FormatInt(code, 10))
		}
		d = next
	}
	return d
}

// wantDone asks Do for what plainDoing says, and what is seen then.
func wantDone(t *testing.T, what string, d disk, op dop, wantCode int64) disk {
	t.Helper()
	got, code := impl.Do(d, op)
	want, plainCode := plainDoing(d, op)
	wantDisk(t, what, got, code, want, wantCode)
	if plainCode != wantCode {
		t.Errorf("%s: plainDoing says %d, want %d", what, plainCode, wantCode)
	}
	for _, f := range got.Live {
		if data, ok := impl.ReadFile(got, f.Name); !ok || data != f.Data {
			t.Errorf("%s: ReadFile of %q: %q, %v", what, f.Name, data, ok)
		}
	}
	return got
}

// wantWrongDisk asks all functions that want a disk.
func wantWrongDisk(t *testing.T, what string, d disk) {
	t.Helper()
	if impl.DiskOk(d) || plainDiskOk(d) {
		t.Errorf("%s: %s is no disk", what, shortDisk(d))
	}
	for _, op := range []dop{{}, putOp("a", "x"), putOp("", ""), moveOp("a", "b"), moveOp("a", "a"), goneOp("a"), goneOp("none")} {
		got, code := impl.Do(d, op)
		wantDisk(t, what+": Do", got, code, disk{}, 1)
	}
	wantDisk(t, what+": Sync", impl.Sync(d), 1, disk{}, 1)
	for _, keep := range [][]int64{nil, {0}, {-1}} {
		got, ok := impl.Crash(d, keep, 0)
		wantNoDisk(t, what+": Crash", got, ok)
	}
	for _, name := range []string{"a", "b", "", "base"} {
		if data, ok := impl.ReadFile(d, name); ok || data != "" {
			t.Errorf("%s: ReadFile: %q, %v", what, data, ok)
		}
		got, code := impl.Replace(d, name, "x")
		wantDisk(t, what+": Replace", got, code, disk{}, 1)
	}
	if g, code := impl.StoreView(d); code != 1 || len(g) != 0 {
		t.Errorf("%s: StoreView: %v, %d", what, g, code)
	}
	for kind := range int64(9) {
		for power := int64(-1); power < 2; power++ {
			a := act{Kind: kind - 1, Triple: knot()[0], Power: power}
			got, code := impl.StoreDo(d, a)
			wantDisk(t, what+": StoreDo", got, code, disk{}, 1)
			got, codes := impl.StorePlay(d, []act{a, a})
			wantDisk(t, what+": StorePlay", got, int64(len(codes)), disk{}, 0)
		}
	}
	got, codes := impl.StorePlay(d, nil)
	wantDisk(t, what+": StorePlay of none", got, int64(len(codes)), disk{}, 0)
}

func wantNoDisk(t *testing.T, what string, got disk, ok bool) {
	t.Helper()
	if ok || !sameDisk(got, disk{}) {
		t.Errorf("%s: %s, %v", what, shortDisk(got), ok)
	}
}

func TestTheNumbersOfDisks(t *testing.T) {
	got := []int64{impl.MaxFiles, impl.MaxBytes, impl.MaxOps, impl.DkAppend, impl.DkRename, impl.DkRemove, impl.DkOk, impl.DkDisk, impl.DkForm, impl.DkNone, impl.DkFull}
	if want := []int64{60, 200000, 200, 1, 2, 3, 0, 1, 2, 3, 4}; !slices.Equal(got, want) {
		t.Error(got)
	}
}

func someFiles() [][]file {
	return [][]file{
		nil, {}, filesOf("a", ""), filesOf("a", "x", "b", "", "c", "x"), filesOf(long(100), "a"), manyFiles(59), manyFiles(60),
		filesOf("a", long(200000)), filesOf("a", long(199999), "b", "", "c", "x"), filesOf("\x00", "\x00\xff", " ", "\n", "a/b", "x", "ab", "\"", "\xff\xfe", ""),
	}
}

// wrongFiles is one of each way in which files are not right.
func wrongFiles() map[string][]file {
	return map[string][]file{
		"no name":                     filesOf("", "x"),
		"no name ahead of one":        filesOf("", "x", "a", "y"),
		"a name of 101 bytes":         filesOf(long(101), "x"),
		"two out of order":            filesOf("b", "", "a", ""),
		"the last one out of order":   filesOf("a", "", "c", "", "d", "", "b", ""),
		"one behind its longer name":  filesOf("ab", "", "a", ""),
		"two of one name":             filesOf("a", "x", "a", "x"),
		"two of one name at the end":  filesOf("a", "x", "b", "y", "b", ""),
		"61 files":                    manyFiles(61),
		"70 files":                    manyFiles(70),
		"200001 bytes":                filesOf("a", long(200001)),
		"200001 bytes in three files": filesOf("a", long(100000), "b", long(100000), "c", "x"),
		"many bytes in 60 files":      append(manyFiles(59), file{Name: "zz", Data: long(300000)}),
	}
}

func TestDisksOnWhichAllIsSynced(t *testing.T) {
	for _, l := range someFiles() {
		d := synced(l)
		if !impl.DiskOk(d) || !plainDiskOk(d) {
			t.Errorf("%s is right", shortDisk(d))
		}
		wantDisk(t, "Sync", impl.Sync(d), 0, d, 0)
		got, ok := impl.Crash(d, nil, 0)
		wantDisk(t, "Crash", got, 0, d, 0)
		if !ok {
			t.Error("Crash is false")
		}
		for _, f := range l {
			if data, ok := impl.ReadFile(d, f.Name); !ok || data != f.Data {
				t.Errorf("ReadFile of %q: %v", f.Name, ok)
			}
		}
		for _, name := range []string{"", "none", "x", long(101), "a "} {
			if data, ok := impl.ReadFile(d, name); ok || data != "" {
				t.Errorf("ReadFile of %q: %q, %v", name, data, ok)
			}
		}
	}
}

func TestDisksWhoseFilesAreNotRight(t *testing.T) {
	for why, l := range wrongFiles() {
		wantWrongDisk(t, why, synced(l))
		wantWrongDisk(t, why+", seen", disk{Live: l, Safe: filesOf("a", "x")})
		wantWrongDisk(t, why+", safe", disk{Live: filesOf("a", "x"), Safe: l})
	}
	// Ops that make right files of wrong ones, and wrong ones of right ones.
	wantWrongDisk(t, "61 and one gone", disk{Live: manyFiles(61)[1:], Safe: manyFiles(61), Ops: []dop{goneOp("aa")}})
	wantWrongDisk(t, "60 and one more", disk{Live: manyFiles(61), Safe: manyFiles(61)[1:], Ops: []dop{putOp("aa", "")}})
	wantWrongDisk(t, "200001 bytes and a file gone", disk{Safe: filesOf("a", long(200001)), Ops: []dop{goneOp("a")}})
	wantWrongDisk(t, "a byte more than 200000", disk{Live: filesOf("a", long(200001)), Safe: filesOf("a", long(200000)), Ops: []dop{putOp("a", "x")}})
	wantWrongDisk(t, "a file without a name is gone", disk{Safe: filesOf("", "x"), Ops: []dop{goneOp("")}})
	wantWrongDisk(t, "two of one name and one op that takes both", disk{Safe: filesOf("a", "", "a", ""), Ops: []dop{goneOp("a")}})
}

func TestDisksWhoseOpsDoNotMakeWhatIsSeen(t *testing.T) {
	safe := filesOf("a", "x", "b", "y")
	for _, ops := range [][]dop{nil, {putOp("a", "z")}, {putOp("c", "")}, {moveOp("a", "b")}, {moveOp("b", "c")}, {goneOp("b")}, {goneOp("a"), goneOp("b")}} {
		d := aDisk(safe, ops...)
		if !impl.DiskOk(d) {
			t.Errorf("%s is right", shortDisk(d))
		}
		for _, l := range [][]file{nil, safe, filesOf("a", "x"), filesOf("a", "x", "b", "z"), filesOf("a", "xz", "b", "y"), filesOf("a", "zx", "b", "y"), filesOf("a", "x", "b", "y", "c", ""), filesOf("a", "x", "c", "y"), filesOf("b", "x"), filesOf("b", "y")} {
			if !slices.Equal(l, d.Live) {
				wantWrongDisk(t, "other files", disk{Live: l, Safe: safe, Ops: ops})
			}
		}
	}
}

func wrongOps() []dop {
	list := []dop{{}, {Name: "a"}, {Kind: 4, Name: "a"}, {Kind: 4, Name: "a", To: "b"}, {Kind: -1, Name: "a"}, {Kind: math.MinInt64, Name: "a"}, {Kind: math.MaxInt64, Name: "a"}, {Kind: 1 << 32, Name: "a"}, {Kind: 1<<32 + 1, Name: "a"}}
	for _, name := range []string{"", long(101), long(5000)} {
		list = append(list, putOp(name, ""), putOp(name, "x"), moveOp(name, "a"), moveOp("a", name), moveOp(name, name), goneOp(name))
	}
	return append(list,
		dop{Kind: 1, Name: "a", To: "b"}, dop{Kind: 1, Name: "a", To: "a", Data: "x"}, dop{Kind: 3, Name: "a", To: "b"}, dop{Kind: 3, Name: "a", To: "a"},
		dop{Kind: 2, Name: "a", To: "b", Data: "x"}, dop{Kind: 2, Name: "a", To: "a", Data: "\x00"}, dop{Kind: 3, Name: "a", Data: "x"}, dop{Kind: 3, Name: "a", To: "b", Data: "x"})
}

func TestDisksWithAnOpThatCanNotBeDone(t *testing.T) {
	safe := filesOf("a", "x", "b", "y")
	wrong := append(wrongOps(), moveOp("c", "a"), moveOp("c", "c"), goneOp("c"))
	for _, op := range wrong {
		for i := range 3 {
			// Were it passed over, the others would make what is seen.
			d := aDisk(safe, putOp("a", "z"), moveOp("b", "d"))
			d.Ops = slices.Insert(d.Ops, i, op)
			wantWrongDisk(t, told(valueOf(op), false)[:9], d)
		}
	}
	wantWrongDisk(t, "a file that is there too late", disk{Live: filesOf("b", "")})
	wantWrongDisk(t, "a rename ahead of the file", disk{Live: filesOf("c", "y"), Safe: filesOf("a", "x"), Ops: []dop{moveOp("b", "c"), putOp("c", "y"), goneOp("a")}})
	wantWrongDisk(t, "a removal behind a removal", disk{Safe: filesOf("a", "x"), Ops: []dop{goneOp("a"), goneOp("a")}})
	wantWrongDisk(t, "a removal behind a rename", disk{Live: filesOf("b", "x"), Safe: filesOf("a", "x"), Ops: []dop{moveOp("a", "b"), goneOp("a")}})
	sixty := manyFiles(60)
	wantWrongDisk(t, "61 files on the way", disk{Live: sixty, Safe: sixty, Ops: []dop{putOp("zz", ""), goneOp("zz")}})
	wantWrongDisk(t, "a byte too many on the way", disk{Safe: filesOf("a", long(200000)), Ops: []dop{putOp("b", "x"), goneOp("a"), goneOp("b")}})
	wantWrongDisk(t, "a byte too many on the way in one file", disk{Safe: filesOf("a", long(200000)), Ops: []dop{putOp("a", "x"), goneOp("a")}})
	for _, d := range []disk{
		aDisk(sixty, goneOp("aa"), putOp("zz", ""), goneOp("zz"), putOp("aa", "")),
		aDisk(sixty, moveOp("aa", "zz"), moveOp("zz", "aa"), moveOp("aa", "ab"), putOp("zz", "x")),
		aDisk(filesOf("a", long(200000)), goneOp("a"), putOp("b", long(200000)), putOp("b", ""), moveOp("b", "a")),
	} {
		if !impl.DiskOk(d) {
			t.Errorf("%s is right", shortDisk(d))
		}
	}
}

func TestDisksWithManyOps(t *testing.T) {
	d := synced(filesOf("a", "x"))
	for i := range 200 {
		op := []dop{putOp("b", "y"), moveOp("b", "c"), moveOp("c", "c"), goneOp("c")}[i%4]
		d = wantDone(t, strconv.Itoa(i), d, op, 0)
	}
	if len(d.Ops) != 200 || !sameDisk(impl.Sync(d), synced(filesOf("a", "x"))) {
		t.Error(shortDisk(d))
	}
	for _, op := range []dop{putOp("a", ""), putOp("a", "x"), putOp("b", ""), moveOp("a", "a"), moveOp("a", "b"), goneOp("a")} {
		wantDone(t, "201 ops", d, op, 4)
	}
	wantDone(t, "no file, and no room for an op", d, goneOp("b"), 3)
	wantDone(t, "no form, and no room for an op", d, goneOp(""), 2)
	wantDone(t, "synced", impl.Sync(d), goneOp("a"), 0)
	more := d
	more.Ops = append(slices.Clone(d.Ops), putOp("a", ""))
	wantWrongDisk(t, "201 ops", more)
	more.Ops = append(slices.Clone(d.Ops), putOp("b", ""), goneOp("b"))
	wantWrongDisk(t, "202 ops", more)
}

func TestWhatIsDoneIsSeen(t *testing.T) {
	for _, c := range []struct {
		safe []file
		op   dop
		live []file
	}{
		{nil, putOp("a", "x"), filesOf("a", "x")},
		{nil, putOp("a", ""), filesOf("a", "")},
		{nil, putOp(long(100), "x"), filesOf(long(100), "x")},
		{filesOf("b", "y"), putOp("a", "x"), filesOf("a", "x", "b", "y")},
		{filesOf("b", "y"), putOp("c", ""), filesOf("b", "y", "c", "")},
		{filesOf("b", "y"), putOp("b", "x"), filesOf("b", "yx")},
		{filesOf("b", "y"), putOp("b", ""), filesOf("b", "y")},
		{filesOf("a", "1", "b", "2"), moveOp("a", "b"), filesOf("b", "1")},
		{filesOf("a", "1", "b", "2"), moveOp("b", "a"), filesOf("a", "2")},
		{filesOf("a", "1", "b", "2"), moveOp("a", "a"), filesOf("a", "1", "b", "2")},
		{filesOf("a", "1", "b", "2"), moveOp("a", "c"), filesOf("b", "2", "c", "1")},
		{filesOf("b", "1", "c", ""), moveOp("c", "a"), filesOf("a", "", "b", "1")},
		{filesOf("a", "1"), moveOp("a", long(100)), filesOf(long(100), "1")},
		{filesOf(long(100), "1"), moveOp(long(100), "a"), filesOf("a", "1")},
		{filesOf("a", "1", "b", "2"), goneOp("a"), filesOf("b", "2")},
		{filesOf("a", "1"), goneOp("a"), nil},
		{filesOf(long(100), ""), goneOp(long(100)), nil},
	} {
		got := wantDone(t, "Do", synced(c.safe), c.op, 0)
		if !slices.Equal(got.Live, c.live) || !slices.Equal(got.Safe, c.safe) || !slices.Equal(got.Ops, []dop{c.op}) {
			t.Errorf("%v: %s", c.op, shortDisk(got))
		}
	}
}

func TestWhatIsNotDone(t *testing.T) {
	d := aDisk(filesOf("a", "x"), putOp("b", "y"), moveOp("a", "c"))
	for _, op := range wrongOps() {
		wantDone(t, "no form", d, op, 2)
		wantDone(t, "no form, on a disk without files", disk{}, op, 2)
	}
	for _, op := range []dop{moveOp("a", "b"), moveOp("a", "a"), moveOp(long(100), "b"), goneOp("a"), goneOp(long(100)), goneOp("bb")} {
		wantDone(t, "no file", d, op, 3)
		wantDone(t, "no file, on a disk without files", disk{}, op, 3)
	}
	// Ahead of what is not there and of what is too much comes what is not of its form.
	wantDone(t, "no file, no form", d, dop{Kind: 3, Name: "none", Data: "x"}, 2)
	wantDone(t, "too much, no form", d, dop{Kind: 1, Name: "none", To: "x", Data: long(200001)}, 2)
}

func TestADiskThatIsFull(t *testing.T) {
	d := aDisk(filesOf("a", long(99999)), putOp("b", long(100000)))
	full := wantDone(t, "the last byte", d, putOp("a", "x"), 0)
	for _, name := range []string{"a", "b", "c"} {
		wantDone(t, "one byte more", full, putOp(name, "x"), 4)
		wantDone(t, "no byte more", full, putOp(name, ""), 0)
		wantDone(t, "a byte and one more", d, putOp(name, "xy"), 4)
		wantDone(t, "a byte", d, putOp(name, "x"), 0)
		wantDone(t, "far too many", full, putOp(name, long(300000)), 4)
	}
	less := wantDone(t, "onto another one", full, moveOp("a", "b"), 0)
	wantDone(t, "the room of the other one", less, putOp("c", long(100000)), 0)
	wantDone(t, "a byte more than that", less, putOp("c", long(100001)), 4)
	wantDone(t, "all at once", disk{}, putOp("a", long(200000)), 0)
	wantDone(t, "more than all at once", disk{}, putOp("a", long(200001)), 4)
	sixty := wantDone(t, "the last file", aDisk(manyFiles(58), putOp("zy", "")), putOp("zz", "x"), 0)
	wantDone(t, "one file more", sixty, putOp("a", ""), 4)
	wantDone(t, "one that is there", sixty, putOp("aa", "x"), 0)
	wantDone(t, "another name", sixty, moveOp("aa", "a"), 0)
	wantDone(t, "not there", sixty, moveOp("none", "a"), 3)
	wantDone(t, "one less", wantDone(t, "one gone", sixty, goneOp("aa"), 0), putOp("a", ""), 0)
}

func opsBy(dice *rand.Rand, n int) []dop {
	names := []string{"a", "b", "c", "a.new"}
	var ops []dop
	for range n {
		op := putOp(names[dice.Intn(4)], []string{"", "1", "23", "456"}[dice.Intn(4)])
		switch dice.Intn(6) {
		case 0, 1:
			op = moveOp(op.Name, names[dice.Intn(4)])
		case 2:
			op = goneOp(op.Name)
		}
		if dice.Intn(20) == 0 {
			op = wrongOps()[dice.Intn(len(wrongOps()))]
		}
		ops = append(ops, op)
	}
	return ops
}

func TestOpsOneBehindTheOther(t *testing.T) {
	dice := rand.New(rand.NewSource(81))
	counts := map[int64]int{}
	for range 200 {
		d := synced(filesOf("a", "x", "b", ""))
		for _, op := range opsBy(dice, 30) {
			_, want := plainDoing(d, op)
			d = wantDone(t, "Do", d, op, want)
			counts[want]++
			if dice.Intn(12) == 0 {
				wantDisk(t, "Sync", impl.Sync(d), 0, synced(d.Live), 0)
				d = impl.Sync(d)
			}
		}
		if t.Failed() {
			t.Fatal(shortDisk(d))
		}
	}
	if counts[0] < 3000 || counts[2] < 100 || counts[3] < 300 || counts[4] != 0 {
		t.Error(counts)
	}
}
