package disasm_test

import (
	"fmt"
	"reflect"
	"slices"
	"sync"
	"testing"

	"orrery/api"
	"orrery/disasm"
)

// shared: lines of Follow have bytes in common here.
var shared = []byte{0x2c, 0xa9, 0x05, 0xf0, 0xfc, 0x4c, 0x01, 0x00, 0x02}

// roomy: a copy with spare room behind it.
func roomy(b []byte) []byte {
	return append(append(make([]byte, 0, len(b)+8), b...), 9, 9, 9, 9)[:len(b)]
}

func intact(t *testing.T, what string, given, want []byte) {
	t.Helper()
	if !slices.Equal(given[:len(want)+4], append(slices.Clone(want), 9, 9, 9, 9)) {
		t.Errorf("%s: what was handed in is % x", what, given[:len(want)+4])
	}
}

// scribble: over a list and its spare room.
func scribble[T any](list []T, mark T) {
	list = list[:cap(list)]
	for i := range list {
		list[i] = mark
	}
}

// Rule 4: no two lists of an answer share memory, their spare room neither, nor does one with what was handed in.
func TestLinesAreTheCallers(t *testing.T) {
	calls := map[string]func(b []byte) []line{
		"One":    func(b []byte) []line { l, _ := disasm.One(b, 3, 0); return []line{l} },
		"bare":   func(b []byte) []line { l, _ := disasm.One(b, 8, 0); return []line{l} },
		"Lines":  func(b []byte) []line { l, _ := disasm.Lines(b, 0); return l },
		"Follow": func(b []byte) []line { l, _ := disasm.Follow(b, 0, []int{0}); return l },
	}
	for what, call := range calls {
		want := call(slices.Clone(shared))
		if len(want) == 0 {
			t.Fatal(what)
		}
		for n := range want {
			given := roomy(shared)
			got := call(given)
			_ = append(got[n].Bytes, 77, 77)
			scribble(got[n].Bytes, 77)
			for m := range got {
				if m != n && !sameLine(got[m], want[m]) {
					t.Errorf("%s: line %d is seen in line %d: %v", what, n, m, got[m])
				}
			}
			intact(t, what, given, shared)
			again := call(given)
			scribble(given, 55)
			if !reflect.DeepEqual(again, want) {
				t.Errorf("%s keeps what was handed in: %v", what, again)
			}
		}
		scribble(call(shared), line{})
		if again := call(shared); !reflect.DeepEqual(again, want) {
			t.Errorf("%s: %v, not %v", what, again, want)
		}
	}
}

// Rule 4: entries are not changed, their spare room neither.
func TestEntriesStay(t *testing.T) {
	list := []int{5, 3, 0, 3, 1}
	given := append(append(make([]int, 0, 16), list...), 99, 99, 99, 99, 99, 99)[:len(list)]
	want := append(slices.Clone(list), 99, 99, 99, 99, 99, 99)
	followed(t, shared, 0, given...)
	if whole := given[:len(want)]; !slices.Equal(whole, want) {
		t.Errorf("Follow: %v", whole)
	}
	if _, e := disasm.Source(segments{{Bytes: shared}}, given); e != api.OK || !slices.Equal(given[:len(want)], want) {
		t.Errorf("Source: %v, %v", given[:len(want)], e)
	}
}

// Rule 4: segments are not changed, nor their bytes, nor the spare room of either.
func TestSegmentsStay(t *testing.T) {
	spare := at(77, 7)
	made := func() segments {
		l := append(make(segments, 0, 8), at(12, 0x60, 1), at(0, shared...), at(5000), at(9, 1, 2, 3), spare, spare)[:4]
		for i := range l {
			l[i].Bytes = roomy(l[i].Bytes)
		}
		return l
	}
	given, want := made(), made()
	if _, e := disasm.Source(given, []int{0, 12}); e != api.OK {
		t.Fatal(e)
	}
	for i := range want {
		if given[i].At != want[i].At {
			t.Errorf("segment %d is at %d", i, given[i].At)
		}
		intact(t, "Source", given[i].Bytes, want[i].Bytes)
	}
	if behind := given[4:6]; !reflect.DeepEqual(behind, segments{spare, spare}) {
		t.Errorf("the spare room is %v", behind)
	}
}

// Rule 4: Text does not change the lines.
func TestTextLeavesTheLines(t *testing.T) {
	given := []line{{3, roomy([]byte{1, 2}), "b", 1}, {1, roomy(shared), "a", 2}, {9, nil, "", 3}}[:2]
	first := disasm.Text(given)
	intact(t, "Text", given[0].Bytes, []byte{1, 2})
	intact(t, "Text", given[1].Bytes, shared)
	if given[0].At != 3 || given[0].Text != "b" || given[1].Target != 2 || given[:3][2].At != 9 || disasm.Text(given) != first {
		t.Errorf("%v", given[:3])
	}
}

// Rule 5: the same each time, whatever was asked between, and whoever asks beside.
func TestSameEachTime(t *testing.T) {
	whole := func(n int) string {
		b := append(slices.Clone(shared[n:]), shared[:n]...)
		one, e := disasm.One(b, 7, n)
		lines, f := disasm.Lines(b, n)
		follow, g := disasm.Follow(b, n, []int{n + 2, n})
		source, h := disasm.Source(segments{{At: n, Bytes: b}, {At: 100, Bytes: shared}}, []int{n, 100})
		return fmt.Sprint(one, e, lines, f, follow, g, source, h, disasm.Text(follow))
	}
	var first []string
	for n := range shared {
		first = append(first, whole(n))
	}
	var all sync.WaitGroup
	for range 4 {
		all.Go(func() {
			for n := len(shared) - 1; n >= 0; n-- {
				if got := whole(n); got != first[n] {
					t.Errorf("%s, not %s", got, first[n])
				}
			}
		})
	}
	all.Wait()
}
