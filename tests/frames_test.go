package tests

import (
	"encoding/binary"
	"hash/crc32"
	"slices"
	"strings"
	"testing"

	"loop.example/g00420/impl"
)

// plainFrame is a frame of any length, also of one that is too long.
func plainFrame(data string) string {
	head := binary.BigEndian.AppendUint32(nil, uint32(len(data)))
	return string(binary.LittleEndian.AppendUint32(head, crc32.ChecksumIEEE([]byte(data)))) + data
}

func someData() []string {
	list := []string{"", "a", "abc", "\x00", "\x00\x00\x00\x00", "\xff\xff\xff\xff", "123456789", everyByte(), strings.Repeat(everyByte(), 3), long(255), long(256), long(65535), long(65536), long(99999), long(100000)}
	for i := range 256 {
		list = append(list, everyByte()[i:i+1])
	}
	return list
}

func wantFrames(t *testing.T, what string, s string, want []string, wantEnd int) {
	t.Helper()
	list, end := impl.TakeFrames(s)
	if end != int64(wantEnd) || !slices.Equal(list, want) {
		t.Errorf("%s: %d frames that end at %d, want %d and %d", what, len(list), end, len(want), wantEnd)
	}
}

func TestFrames(t *testing.T) {
	if f := impl.FrameOf("123456789"); f != "\x00\x00\x00\x09\x26\x39\xf4\xcb123456789" {
		t.Errorf("%q", f)
	}
	if f := impl.FrameOf(""); f != "\x00\x00\x00\x00\x00\x00\x00\x00" {
		t.Errorf("%q", f)
	}
	for _, data := range someData() {
		f := impl.FrameOf(data)
		if f != plainFrame(data) {
			t.Errorf("FrameOf of %d bytes", len(data))
		}
		wantFrames(t, "one", f, []string{data}, len(f))
		wantFrames(t, "two", f+f, []string{data, data}, 2*len(f))
		wantFrames(t, "one and more", f+"\x00", []string{data}, len(f))
		wantFrames(t, "one ahead of another one's end", f+f[1:], []string{data}, len(f))
	}
	for _, n := range []int{100001, 100002, 131072, 200000} {
		if f := impl.FrameOf(long(n)); f != "" {
			t.Errorf("FrameOf of %d bytes has %d", n, len(f))
		}
		wantFrames(t, "a long one", plainFrame(long(n)), nil, 0)
		wantFrames(t, "a long one behind another one", plainFrame("a")+plainFrame(long(n)), []string{"a"}, 9)
	}
	wantFrames(t, "nothing", "", nil, 0)
	wantFrames(t, "empty ones", strings.Repeat("\x00", 8*25000+7), make([]string, 25000), 200000)
	for _, s := range []string{"\x00", "\xff", "frames", strings.Repeat("\x00", 7), strings.Repeat("\xff", 8), strings.Repeat("\xff", 100), "\x7f\xff\xff\xff\x00\x00\x00\x00", "\x80\x00\x00\x00\x00\x00\x00\x00", "\x01\x00\x00\x00\x00\x00\x00\x00"} {
		wantFrames(t, "none", s, nil, 0)
		wantFrames(t, "none behind one", plainFrame("ab")+s, []string{"ab"}, 10)
	}
}

func TestFramesThatAreCutOrBroken(t *testing.T) {
	data := []string{"first", "", "the third", "\x00\x00\x00\x00"}
	s, ends := "", []int{0}
	for _, d := range data {
		s += plainFrame(d)
		ends = append(ends, len(s))
	}
	for i := range len(s) + 1 {
		whole := 0
		for ends[whole+1] <= i && whole+1 < len(data) {
			whole++
		}
		if i == len(s) {
			whole = len(data)
		}
		wantFrames(t, "cut", s[:i], data[:whole], ends[whole])
		if i == len(s) {
			continue
		}
		for bit := range 8 {
			broken := []byte(s)
			broken[i] ^= 1 << bit
			wantFrames(t, "with a wrong bit", string(broken), data[:whole], ends[whole])
		}
	}
	// The other order of the bytes of the length, or of the sum.
	f := plainFrame("abc")
	wantFrames(t, "length turned", f[3:4]+f[2:3]+f[1:2]+f[:1]+f[4:], nil, 0)
	wantFrames(t, "sum turned", f[:4]+f[7:8]+f[6:7]+f[5:6]+f[4:5]+f[8:], nil, 0)
}

func TestFramesOfAnyLengths(t *testing.T) {
	s, want := "", []string{}
	for i := range 300 {
		d := strings.Repeat(everyByte(), 2)[i%256 : i%256+i*7%256]
		s += impl.FrameOf(d)
		want = append(want, d)
	}
	wantFrames(t, "many", s, want, len(s))
	wantFrames(t, "many and one that is cut", s+s[:7], want, len(s))
}
