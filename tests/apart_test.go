package tests

import (
	"fmt"
	"reflect"
	"slices"
	"strings"
	"testing"
)

// A span is the memory of a list, with the spare room behind it.
type span struct{ from, to uintptr }

// spansIn gives the memory of all lists in v, and in what is in them.
func spansIn(v reflect.Value) []span {
	var list []span
	switch v.Kind() {
	case reflect.Interface:
		return spansIn(v.Elem())
	case reflect.Struct:
		for i := range v.NumField() {
			list = append(list, spansIn(v.Field(i))...)
		}
	case reflect.Slice:
		if size := uintptr(v.Cap()) * v.Type().Elem().Size(); size > 0 {
			list = append(list, span{from: v.Pointer(), to: v.Pointer() + size})
		}
		for i := range v.Len() {
			list = append(list, spansIn(v.Index(i))...)
		}
	}
	return list
}

// sharing gives how many of the spans of an answer share memory with one of other, or with another one of the answer.
func sharing(answer, other []span) int {
	n := 0
	for i, a := range answer {
		for _, b := range slices.Concat(answer[i+1:], other) {
			if a.from < b.to && b.from < a.to {
				n++
			}
		}
	}
	return n
}

// roomyCopy copies v; each list in the copy has spare room behind it that is filled.
func roomyCopy(v reflect.Value) reflect.Value { return copyWith(v, 3) }

// tightCopy copies v; no list in the copy has spare room.
func tightCopy(v reflect.Value) reflect.Value { return copyWith(v, 0) }

func copyWith(v reflect.Value, room int) reflect.Value {
	c := reflect.New(v.Type()).Elem()
	c.Set(v)
	switch v.Kind() {
	case reflect.Interface:
		c.Set(copyWith(v.Elem(), room))
	case reflect.Struct:
		for i := range v.NumField() {
			c.Field(i).Set(copyWith(v.Field(i), room))
		}
	case reflect.Slice:
		c.Set(reflect.MakeSlice(v.Type(), v.Len()+room, v.Len()+room))
		for i := range v.Len() {
			c.Index(i).Set(copyWith(v.Index(i), room))
		}
		for i := range room {
			fillSpare(c.Index(v.Len() + i))
		}
		c.Set(c.Slice(0, v.Len()))
	}
	return c
}

func fillSpare(v reflect.Value) {
	switch v.Kind() {
	case reflect.Struct:
		for i := range v.NumField() {
			fillSpare(v.Field(i))
		}
	case reflect.String:
		v.SetString("spare")
	case reflect.Int64:
		v.SetInt(77)
	}
}

// told writes down all that stands in v; with room also what stands in the room behind each list.
func told(v reflect.Value, room bool) string {
	switch v.Kind() {
	case reflect.Interface:
		return told(v.Elem(), room)
	case reflect.Struct:
		var parts []string
		for i := range v.NumField() {
			parts = append(parts, told(v.Field(i), room))
		}
		return "{" + strings.Join(parts, ", ") + "}"
	case reflect.Slice:
		n, parts := v.Len(), []string{}
		if room {
			v = v.Slice(0, v.Cap())
		}
		for i := range v.Len() {
			parts = append(parts, told(v.Index(i), room))
		}
		return fmt.Sprint(n, "[", strings.Join(parts, ", "), "]")
	}
	return fmt.Sprintf("%#v", v)
}

func valueOf(l ...any) reflect.Value { return reflect.ValueOf(l) }

// checkAllApart calls f with copies of the arguments that have spare room, and sees that these stay as they are, that the same ones give the same answer, and that no list of an answer shares memory with another one of it, with one of an argument, or with one of another answer.
func checkAllApart(t *testing.T, name string, given []any, f func(l []any) []any) {
	t.Helper()
	args := roomyCopy(reflect.ValueOf(given))
	before := told(args, true)
	first := reflect.ValueOf(f(args.Interface().([]any)))
	second := reflect.ValueOf(f(args.Interface().([]any)))
	if told(args, true) != before {
		t.Errorf("%s writes into an argument or behind it", name)
	}
	if told(first, false) != told(second, false) {
		t.Errorf("%s: the same arguments give %s and %s", name, told(first, false), told(second, false))
	}
	// An answer may be wider than the list in which f hands it on: that list is no part of it.
	if n := sharing(spansIn(first)[1:], slices.Concat(spansIn(args), spansIn(second))); n > 0 {
		t.Errorf("%s: %d lists of an answer share memory", name, n)
	}
}

func TestSharedMemoryIsSeen(t *testing.T) {
	l := make([]int64, 4, 8)
	for i, c := range []struct {
		v any
		n int
	}{
		{[][]int64{l[:2:2], l[2:3:3]}, 0},
		{[][]int64{l[:2], l[2:]}, 1},
		{[][]int64{l[:0], l[5:8]}, 1},
		{[][]int64{l[:0:0], l}, 0},
		{[]struct{ A, B []int64 }{{l, nil}, {nil, l}}, 1},
		{[]any{l, l, int64(3), "text"}, 1},
	} {
		if n := sharing(spansIn(reflect.ValueOf(c.v)), nil); n != c.n {
			t.Errorf("%d: %d shared, want %d", i, n, c.n)
		}
	}
	a := roomyCopy(valueOf([]triple{mark}, []int64{1}, "text", [][]string{{"a"}, nil}))
	b := roomyCopy(a)
	if sharing(spansIn(a), spansIn(b)) != 0 || told(a, true) != told(b, true) {
		t.Error(told(a, true), told(b, true))
	}
	whole(b.Interface().([]any)[1].([]int64))[3]++
	if told(a, true) == told(b, true) || told(a, false) != told(b, false) {
		t.Error("what is written behind a list")
	}
	whole(b.Interface().([]any)[3].([][]string)[1])[0] = ""
	if told(a, false) != told(b, false) {
		t.Error("what is written behind an empty list")
	}
}
