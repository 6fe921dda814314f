package tests

import (
	"slices"
	"sync"
	"testing"

	"loop.example/g00420/impl"
)

// someDisks is disks that are right, with and without a base, and ones that are not.
func someDisks() []disk {
	return []disk{
		{}, {Live: []file{}, Safe: []file{}, Ops: []dop{}}, synced(filesOf("a", "x")), synced(manyFiles(60)), synced(manyFiles(61)), synced(filesOf("b", "", "a", "")),
		aDisk(filesOf("a", "1", "b", "2"), putOp("a", "3"), moveOp("b", "a.new"), goneOp("a"), putOp("a", "4")), aDisk(nil, putOp("a", "")), aDisk(filesOf("a", "1"), goneOp("a")),
		manyOps(filesOf("a", "x"), 200), manyOps(filesOf("a", "x"), 201), {Live: filesOf("a", "x")}, {Safe: filesOf("a", "x"), Ops: []dop{goneOp("b")}},
		aStore(), tornStore(), synced(filesOf("base", "broken", "log", "x")), stepped(aStore(), []dop{putOp("base.new", "x"), entry(10, "+", newTriple)}), manyOps(filesOf("base", baseText("999999999", knot())), 200),
	}
}

func TestNothingIsWrittenIntoADiskAndNothingShared(t *testing.T) {
	for _, d := range someDisks() {
		checkAllApart(t, "DiskOk", []any{d}, func(args []any) []any { return []any{impl.DiskOk(args[0].(disk))} })
		checkAllApart(t, "Sync", []any{d}, func(args []any) []any { return []any{impl.Sync(args[0].(disk))} })
		checkAllApart(t, "StoreView", []any{d}, func(args []any) []any {
			g, code := impl.StoreView(args[0].(disk))
			return []any{g, code}
		})
		for _, op := range []dop{{}, putOp("a", "x"), putOp("aa", ""), moveOp("a", "z"), moveOp("a", "a"), goneOp("a"), goneOp("none")} {
			checkAllApart(t, "Do", []any{d}, func(args []any) []any {
				got, code := impl.Do(args[0].(disk), op)
				return []any{got, code}
			})
		}
		for _, name := range []string{"a", "base", "none", ""} {
			checkAllApart(t, "ReadFile", []any{d}, func(args []any) []any {
				data, ok := impl.ReadFile(args[0].(disk), name)
				return []any{data, ok}
			})
			checkAllApart(t, "Replace", []any{d}, func(args []any) []any {
				got, code := impl.Replace(args[0].(disk), name, "new")
				return []any{got, code}
			})
		}
		for _, keep := range [][]int64{nil, {}, {0}, {0, 1}, {0, 1, 2, 3}, {1, 0}, {-1}} {
			checkAllApart(t, "Crash", []any{d, keep}, func(args []any) []any {
				got, ok := impl.Crash(args[0].(disk), args[1].([]int64), 1)
				return []any{got, ok}
			})
		}
	}
}

func someActs() []act {
	return []act{
		{Kind: 1, Power: -1}, {Kind: 1, Power: 1}, {Kind: 2, Triple: newTriple, Power: -1}, {Kind: 2, Triple: newTriple, Sync: true, Power: -1}, {Kind: 2, Triple: newTriple, Sync: true, Power: 1}, {Kind: 2, Triple: knot()[0], Power: -1}, {Kind: 3, Triple: knot()[0], Power: -1}, {Kind: 3},
		{Kind: 4, Power: -1}, {Kind: 4, Power: 2}, {Kind: 4}, {Kind: 5, Power: -1}, {Kind: 5, Power: 3}, {Kind: 6, Power: -1}, {Kind: 6, Keep: []int64{0}, Torn: 2, Power: -1}, {Kind: 6, Keep: []int64{0}, Torn: 99}, {Kind: 6, Keep: []int64{}, Power: -1}, {Kind: 6, Keep: []int64{1, 0}, Power: -1}, {Kind: 7, Keep: []int64{1}},
	}
}

func TestNothingIsWrittenIntoAnActAndNothingShared(t *testing.T) {
	for _, d := range someDisks() {
		for _, a := range someActs() {
			checkAllApart(t, "StoreDo", []any{d, a}, func(args []any) []any {
				got, code := impl.StoreDo(args[0].(disk), args[1].(act))
				return []any{got, code}
			})
			checkAllApart(t, "StorePlay", []any{d, []act{a, {Kind: 5, Power: -1}, a}}, func(args []any) []any {
				got, codes := impl.StorePlay(args[0].(disk), args[1].([]act))
				return []any{got, codes}
			})
		}
		for _, list := range [][]act{nil, {}, someActs()} {
			checkAllApart(t, "StorePlay", []any{d, list}, func(args []any) []any {
				got, codes := impl.StorePlay(args[0].(disk), args[1].([]act))
				return []any{got, codes}
			})
		}
	}
	for _, s := range []string{"", "x", logText("a", "", "b"), logText("a") + "\x00"} {
		checkAllApart(t, "TakeFrames", []any{s}, func(args []any) []any {
			list, end := impl.TakeFrames(args[0].(string))
			return []any{list, end}
		})
	}
}

// The files that are seen may be those that are safe, in one list, or in parts of one, each the spare room of the one ahead.
func TestDisksWhoseFilesAreOneList(t *testing.T) {
	all := filesOf("a", "x", "b", "y", "a", "x", "b", "y", "c", "z")
	before := slices.Clone(all)
	ops := []dop{putOp("a", ""), putOp("c", "z"), goneOp("c"), putOp("d", "")}
	kept := slices.Clone(ops)
	for _, d := range []disk{{Live: all[:2], Safe: all[:2]}, {Live: all[:2], Safe: all[2:4], Ops: ops[:1]}, {Live: all[2:], Safe: all[:2], Ops: ops[1:2]}, {Live: all[:2], Safe: all[2:5], Ops: ops[2:3]}} {
		done, code := impl.Do(d, putOp("c", "new"))
		wantDisk(t, "Do", done, code, disk{Live: inNames(withFile(d.Live, "c", "new")), Safe: d.Safe, Ops: append(slices.Clone(d.Ops), putOp("c", "new"))}, 0)
		refused, _ := impl.Do(d, goneOp("none"))
		replaced, _ := impl.Replace(d, "c", "new")
		crashed, _ := impl.Crash(d, allPlaces(len(d.Ops)), 9)
		stored, _ := impl.StoreDo(d, act{Kind: 2, Power: -1})
		if n := sharing(spansIn(valueOf(done, refused, replaced, crashed, stored, impl.Sync(d)))[1:], spansIn(valueOf(all, ops))); n > 0 {
			t.Errorf("%d lists share memory", n)
		}
		if !slices.Equal(all, before) || !slices.Equal(ops, kept) {
			t.Fatal("an argument is written into")
		}
	}
}

func withFile(l []file, name, data string) map[string]string {
	m := plainFiles(l)
	m[name] += data
	return m
}

// Disks that were made of one disk can be told something else.
func TestTwoDisksOfOneDoNotMeet(t *testing.T) {
	d := aDisk(filesOf("a", "x"), putOp("a", "y"), putOp("b", ""))
	first, _ := impl.Do(d, putOp("c", "1"))
	second, _ := impl.Do(d, putOp("c", "2"))
	third, code := impl.Do(first, putOp("d", "3"))
	fourth, _ := impl.Do(first, putOp("e", "4"))
	wantDisk(t, "third", third, code, aDisk(filesOf("a", "x"), putOp("a", "y"), putOp("b", ""), putOp("c", "1"), putOp("d", "3")), 0)
	wantDisk(t, "fourth", fourth, code, aDisk(filesOf("a", "x"), putOp("a", "y"), putOp("b", ""), putOp("c", "1"), putOp("e", "4")), 0)
	wantDisk(t, "second", second, code, aDisk(filesOf("a", "x"), putOp("a", "y"), putOp("b", ""), putOp("c", "2")), 0)
}

func TestDisksAndJournalsAtTheSameTime(t *testing.T) {
	d, g := aStore(), knot()
	saved := synced(inNames(plainFiles(filesOf("base", baseText("9", g), "z", "other"))))
	log := logText("a", "", "b")
	var all sync.WaitGroup
	for range 8 {
		all.Go(func() {
			for range 20 {
				got, code := impl.StoreDo(d, act{Kind: 4, Power: -1})
				wantDisk(t, "StoreDo", got, code, saved, 0)
				view, code := impl.StoreView(d)
				wantTriples(t, "StoreView", view, code == 0, g)
				// A call that refuses leaves nothing behind.
				if _, code := impl.StoreDo(d, act{Kind: 2, Triple: g[0], Power: -1}); code != 8 || impl.DiskOk(synced(manyFiles(61))) {
					t.Error(code)
				}
				wantFrames(t, "TakeFrames", log+"x", []string{"a", "", "b"}, len(log))
				crashed, ok := impl.Crash(d, []int64{0}, 1)
				want, _ := plainCrash(d, []int64{0}, 1)
				wantDisk(t, "Crash", crashed, 0, want, 0)
				if !ok {
					t.Error("Crash is false")
				}
			}
		})
	}
	all.Wait()
}
