package tests

import (
	"slices"
	"strconv"
	"strings"
	"testing"

	"loop.example/g00420/impl"
)

type act = impl.Act

// stored gives the files of a base and a log, by name.
func stored(base, log string) []file { return filesOf("base", base, "log", log) }

// baseText is what the file base has for a number and a graph.
func baseText(n string, g []triple) string { return plainFrame(n + "\n" + textOfAll(g)) }

// logText is one frame for each text.
func logText(list ...string) string {
	s := ""
	for _, l := range list {
		s += plainFrame(l)
	}
	return s
}

// wantView asks for what is there, for the number that the log ends with, and for whether the log is good.
func wantView(t *testing.T, what string, l []file, want []triple, number int64, good bool) {
	t.Helper()
	d := synced(l)
	if g, code := impl.StoreView(d); code != 0 || !slices.Equal(g, want) {
		t.Errorf("%s: StoreView: %v, %d, want %v", what, g, code, want)
	}
	after := plainFiles(l)
	delete(after, "log")
	delete(after, "base.new")
	after["base"] = baseText(strconv.FormatInt(number, 10), want)
	fresh := synced(inNames(after))
	torn := int64(6)
	if good {
		torn = 0
	}
	for kind, code := range map[int64]int64{4: torn, 5: 0} {
		wanted := d
		if good && kind == 4 || !good && kind == 5 {
			wanted = fresh
		}
		got, c := impl.StoreDo(d, act{Kind: kind, Power: -1})
		wantDisk(t, what+": StoreDo of "+strconv.FormatInt(kind, 10), got, c, wanted, code)
	}
}

// wantNoView asks StoreView and all acts that want a base.
func wantNoView(t *testing.T, what string, l []file, code int64) {
	t.Helper()
	d := synced(l)
	if g, c := impl.StoreView(d); c != code || len(g) != 0 {
		t.Errorf("%s: StoreView: %v, %d, want %d", what, g, c, code)
	}
	for kind := int64(2); kind <= 6; kind++ {
		for _, x := range []triple{{}, knot()[0]} {
			for power := int64(-1); power < 2; power++ {
				got, c := impl.StoreDo(d, act{Kind: kind, Triple: x, Power: power})
				wantDisk(t, what+": StoreDo of "+strconv.FormatInt(kind, 10), got, c, d, code)
			}
		}
	}
}

func TestTheNumbersOfTheJournal(t *testing.T) {
	got := []int64{impl.StOk, impl.StDisk, impl.StBad, impl.StForm, impl.StFull, impl.StPower, impl.StTorn, impl.StNone, impl.StSame, impl.AcNew, impl.AcAdd, impl.AcDrop, impl.AcSave, impl.AcOpen, impl.AcCrash}
	if want := []int64{0, 1, 2, 3, 4, 5, 6, 7, 8, 1, 2, 3, 4, 5, 6}; !slices.Equal(got, want) {
		t.Error(got)
	}
}

func TestBasesOnADisk(t *testing.T) {
	for _, g := range [][]triple{nil, knot(), smallWorld(), manyTriples(80), manyTriples(1)} {
		for _, n := range []string{"0", "1", "9", "10", "120", "123456789", "999999999"} {
			number, _ := strconv.ParseInt(n, 10, 64)
			wantView(t, n, filesOf("base", baseText(n, g)), g, number, true)
			wantView(t, n+" beside other files", filesOf("a", "x", "base", baseText(n, g), "base.ne", "y", "logs", "z"), g, number, true)
			wantView(t, n+" with an empty log", stored(baseText(n, g), ""), g, number, true)
			wantView(t, n+" with a fresh one", filesOf("base", baseText(n, g), "base.new", baseText("0", nil)), g, number, true)
		}
	}
}

func TestBasesThatAreBroken(t *testing.T) {
	whole := baseText("3", knot())
	list := map[string]string{
		"nothing": "", "two frames": whole + whole, "two frames, the second one empty": whole + plainFrame(""), "a byte behind it": whole + "\x00", "a line feed behind it": whole + "\n", "a byte ahead of it": "\x00" + whole,
		"not in a frame": "3\n" + textOfAll(knot()), "an empty frame": plainFrame(""), "no line feed": plainFrame("3"), "no number": plainFrame("\n"), "no number ahead of a graph": plainFrame("\n" + textOfAll(knot())), "a graph alone": plainFrame(textOfAll(knot())),
		"a wrong sum": whole[:4] + "\x00\x00\x00\x00" + whole[8:], "in a frame of a frame": plainFrame(whole), "a blank for the line feed": plainFrame("3 " + textOfAll(knot())), "another line feed": plainFrame("3\n\n" + textOfAll(knot())), "81": baseText("3", manyTriples(81)),
		"no last line feed": plainFrame("3\n" + strings.TrimSuffix(textOfAll(knot()), "\n")), "one byte more in the frame": plainFrame("3\n" + textOfAll(knot()) + " "),
	}
	for _, n := range []string{"", "00", "01", "007", "1000000000", "0000000000", "9999999999", "12345678901234567890", "-1", "-0", "+1", " 1", "1 ", "1\r", "a", "0x1", "1_0", "1.0", "1e3", "\x00", "٣"} {
		list["the number "+n] = baseText(n, knot())
		list["the number "+n+" without triples"] = baseText(n, nil)
	}
	for why, g := range wrongGraphs() {
		list["a graph: "+why] = baseText("3", g)
	}
	for i := range len(whole) {
		list["cut at "+strconv.Itoa(i)] = whole[:i]
	}
	for why, base := range list {
		wantNoView(t, why, filesOf("base", base), 2)
		wantNoView(t, why+", with a log", filesOf("base", base, "base.new", whole, "log", logText("1 + <a> <p> <b> .")), 2)
	}
	for why, l := range map[string][]file{"no files": nil, "a log alone": filesOf("log", logText("1 + <a> <p> <b> .")), "a fresh one": filesOf("base.new", whole), "other names": filesOf("Base", whole, "bas", whole, "base ", whole, "bases", whole)} {
		wantNoView(t, why, l, 7)
	}
}

func TestLogsThatAreGood(t *testing.T) {
	ab, ac, text := "<a> <p> <b> .", "<a> <p> <c> .", "_:x <p> \"\\\" \\\\ + - \\n\" ."
	g := graphOf("<a> <p> <c> .")
	for _, c := range []struct {
		base   string
		log    []string
		want   string
		number int64
	}{
		{"0", nil, ac, 0},
		{"0", []string{"1 + " + ab}, ab + " " + ac, 1},
		{"0", []string{"1 - " + ac}, "", 1},
		{"0", []string{"1 - " + ac, "2 + " + ac}, ac, 2},
		{"0", []string{"1 + " + ab, "2 - " + ac, "3 - " + ab, "4 + " + ab}, ab, 4},
		{"9", []string{"10 + " + ab, "11 - " + ac}, ab, 11},
		{"999999998", []string{"999999999 - " + ac}, "", 999999999},
		// What is there already can be put in.
		{"0", []string{"1 + " + ac, "2 + " + ac, "3 - " + ac}, "", 3},
		// These were done ahead of the base.
		{"2", []string{"1 + " + ab, "2 - " + ac}, ac, 2},
		{"2", []string{"1 + " + ab, "2 - " + ac, "3 - " + ac}, "", 3},
		{"2", []string{"2 - " + ac, "2 - " + ac, "1 + " + ab, "0 + " + ab}, ac, 2},
		{"2", []string{"3 + " + ab, "3 - " + ab, "2 - " + ab, "4 - " + ac, "1 + " + ac}, ab, 4},
		{"5", []string{"5 ", "5  ", "4 x", "0 \n", "3 + <a>", "5 * " + ab, "2 + " + ab + "\n", "1  + " + ab, "5 + " + ab + " " + ab}, ac, 5},
		{"999999999", []string{"999999999 + " + ab, "999999998 ?"}, ac, 999999999},
		{"0", []string{"0 ", "1 + " + ab, "1 ", "0 "}, ab + " " + ac, 1},
	} {
		wantView(t, c.base+": "+strings.Join(c.log, ", "), stored(baseText(c.base, g), logText(c.log...)), graphOf(c.want), c.number, true)
	}
	awkward, _ := impl.ReadTriple(text)
	wantView(t, "all that is awkward in a text", stored(baseText("0", g), logText("1 + "+text)), allOf(g, []triple{awkward}), 1, true)
	for _, x := range awkwardTriples() {
		wantView(t, textOf(x), stored(baseText("7", nil), logText("8 + "+textOf(x))), []triple{x}, 8, true)
		wantView(t, textOf(x), stored(baseText("7", []triple{x}), logText("8 - "+textOf(x))), nil, 8, true)
	}
}

// The first frame that is not good, and all behind it, do not count.
func TestLogsThatAreNotGood(t *testing.T) {
	ab, ac := "<a> <p> <b> .", "<a> <p> <c> ."
	g, now := graphOf(ac), graphOf(ab+" <f> <p> <f> .")
	var bad []string
	// The log has gone to 3 there.
	for _, n := range []string{"", "00", "01", "04", "+4", "-1", "-0", " 4", "4.", "a", "1000000000", "0000000004", "5", "6", "44", "999999999", "12345678901234567890"} {
		bad = append(bad, n+" + <d> <p> <d> .", n+" ")
	}
	bad = append(bad, "", " ", "4", "3", "0", "4 ", "4 +", "4 + ", "4 -", "4 * <d> <p> <d> .", "4 +- <d> <p> <d> .", "4 <d> <p> <d> .", "4  + <d> <p> <d> .", "4 +  <d> <p> <d> .", "4\n+ <d> <p> <d> .", "4 +\n<d> <p> <d> .", "4 + <d> <p> <d>", "4 + <d> <p> <d> . ", "4 + <d> <p> <d> .\n", "4 +<d> <p> <d> .", "4 + <d> <p> .", "4 + <d> <p> <d> . <d> <p> <e> .", "4 + <d> <p> ?d .", "4 + \"d\" <p> <d> .", "4 - <d> <p> <d> .", "4 - "+ac, "3\n", "3+", "3\t+", "4 + <D> <p> <d> .")
	for _, frame := range bad {
		for _, behind := range []string{"", logText("4 + <e> <p> <e> ."), logText("1 - " + ab), "\x00", logText(frame)} {
			log := logText("1 + "+ab, "0 x", "2 - "+ac, "3 + <f> <p> <f> .") + plainFrame(frame) + behind
			wantView(t, "behind good ones: "+frame, stored(baseText("0", g), log), now, 3, false)
			log = plainFrame(frame) + behind
			wantView(t, "the first one: "+frame, stored(baseText("3", now), log), now, 3, false)
		}
	}
	wantView(t, "behind the last number", stored(baseText("999999998", g), logText("999999999 + "+ab, "1000000000 - "+ab)), graphOf(ab+" "+ac), 999999999, false)
	wantView(t, "a drop whose adding was lost", stored(baseText("0", g), logText("2 - "+ab, "1 + "+ab)), g, 0, false)
	wantView(t, "a drop of what is not there any more", stored(baseText("0", g), logText("1 - "+ac, "2 - "+ac, "2 + "+ab)), nil, 1, false)
}

func TestLogsThatAreCut(t *testing.T) {
	ab, ac := "<a> <p> <b> .", "<a> <p> <c> ."
	frames := []string{"1 + " + ab, "2 + " + ac, "3 - " + ab}
	views := []string{"", ab, ab + " " + ac, ac}
	log := logText(frames...)
	for i := range len(log) + 1 {
		n := 0
		for n < 3 && len(logText(frames[:n+1]...)) <= i {
			n++
		}
		l := stored(baseText("0", nil), log[:i])
		wantView(t, "cut at "+strconv.Itoa(i), l, graphOf(views[n]), int64(n), i == len(logText(frames[:n]...)))
		if i == len(log) {
			continue
		}
		broken := []byte(log)
		broken[i]++
		n = 0
		for n < 2 && len(logText(frames[:n+1]...)) <= i {
			n++
		}
		wantView(t, "broken at "+strconv.Itoa(i), stored(baseText("0", nil), string(broken)), graphOf(views[n]), int64(n), false)
	}
	for _, behind := range []string{"\x00", "\x00\x00\x00\x00\x00\x00\x00", "x", "\n", plainFrame(long(100001))} {
		wantView(t, "with bytes behind it", stored(baseText("0", nil), log+behind), graphOf(ac), 3, false)
		wantView(t, "bytes alone", stored(baseText("0", nil), behind), nil, 0, false)
	}
}

func TestLogsOfAGraphThatIsFull(t *testing.T) {
	all := manyTriples(81)
	var frames []string
	for i, x := range all[70:] {
		frames = append(frames, strconv.Itoa(i+1)+" + "+textOf(x))
	}
	base := baseText("0", all[:70])
	wantView(t, "79", stored(base, logText(frames[:9]...)), all[:79], 9, true)
	wantView(t, "80", stored(base, logText(frames[:10]...)), all[:80], 10, true)
	wantView(t, "81", stored(base, logText(frames...)), all[:80], 10, false)
	wantView(t, "80 and one of them", stored(base, logText(append(frames[:10:10], "11 + "+textOf(all[3]), "12 - "+textOf(all[0]))...)), all[1:80], 12, true)
	wantView(t, "80, one less and one more", stored(base, logText(append(frames[:10:10], "11 - "+textOf(all[0]), "12 + "+textOf(all[80]))...)), all[1:], 12, true)
	wantView(t, "81 and one less", stored(base, logText(append(frames, "12 - "+textOf(all[0]))...)), all[:80], 10, false)
}

// A log may fill nearly the whole disk: by turns y is put in, x taken out, y taken out, x put in.
func TestALongLog(t *testing.T) {
	x, y := triple{S: "<a>", P: "<p>", O: "<b>"}, triple{S: "<a>", P: "<p>", O: "<c>"}
	changes := []string{" + " + textOf(x), " + " + textOf(y), " - " + textOf(x), " - " + textOf(y)}
	views := [][]triple{{x}, {x, y}, {y}, nil}
	log, n := strings.Builder{}, 0
	for log.Len() < 190000 {
		n++
		log.WriteString(plainFrame(strconv.Itoa(n) + changes[n%4]))
	}
	wantView(t, "a long log", stored(baseText("0", []triple{x}), log.String()), views[n%4], int64(n), true)
	wantView(t, "a long log that is passed over", stored(baseText(strconv.Itoa(n), []triple{x}), log.String()), []triple{x}, int64(n), true)
	if n < 4000 {
		t.Error(n)
	}
}
