package hexfile_test

import (
	"reflect"
	"slices"
	"testing"

	"orrery/api"
	"orrery/hexfile"
)

// roomy: a copy with spare room behind it, which has marks of its own.
func roomy[T any](list []T, mark T) []T {
	return append(append(make([]T, 0, len(list)+8), list...), slices.Repeat([]T{mark}, 8)...)[:len(list)]
}

// intact: what roomy made, and its spare room, are as they were.
func intact[T any](t *testing.T, what string, given, want []T, mark T) {
	t.Helper()
	if whole := given[:len(want)+8]; !reflect.DeepEqual(whole, append(slices.Clone(want), slices.Repeat([]T{mark}, 8)...)) {
		t.Errorf("%s: what was handed in is %v", what, whole)
	}
}

// scribble: over a list and its spare room.
func scribble[T any](list []T, mark T) {
	list = list[:cap(list)]
	for i := range list {
		list[i] = mark
	}
}

var spare = at(77, 77)

// handedIn: segments that are out of order and adjacent, with spare room everywhere; and the same anew.
func handedIn() (given, want segments) {
	given = roomy(segments{at(9, roomy([]byte{4, 5}, 66)...), at(20), at(5, roomy([]byte{1, 2, 3, 9}, 66)...), at(30, roomy([]byte{8}, 66)...)}, spare)
	return given, segments{at(9, 4, 5), at(20), at(5, 1, 2, 3, 9), at(30, 8)}
}

// Rule 4: segments that are handed in stay as they were, with their bytes, their order and their spare room.
func TestSegmentsStay(t *testing.T) {
	calls := map[string]func(l segments){
		"Merge": func(l segments) { hexfile.Merge(l) },
		"Same":  func(l segments) { hexfile.Same(l, l) },
		"Intel": func(l segments) { hexfile.Write(file{intel, l, 5}, 3) },
		"S":     func(l segments) { hexfile.Write(file{motorola, l, 5}, 3) },
		"Mos":   func(l segments) { hexfile.Write(file{mos, l, -1}, 3) },
	}
	for what, call := range calls {
		given, want := handedIn()
		call(given)
		intact(t, what, given, want, spare)
		for _, i := range []int{0, 2, 3} {
			intact(t, what, given[i].Bytes, want[i].Bytes, 66)
		}
	}
}

// Rule 4: data that are handed in stay as they were.
func TestDataStay(t *testing.T) {
	given := roomy([]byte{0, 0, 3, 4}, 66)
	for format, kinds := range map[int][]int{intel: {0, 1, 3}, motorola: {0, 1, 5, 9}, mos: {0, 1}} {
		for _, kind := range kinds {
			hexfile.Record(format, kind, 0, given)
			intact(t, "Record", given, []byte{0, 0, 3, 4}, 66)
		}
	}
}

// wantOwn: lists of an answer share no memory with each other, with another answer, or with what was handed in.
func wantOwn(t *testing.T, what string, call func() segments) {
	t.Helper()
	want := call()
	for i := range want {
		got, other := call(), call()
		_ = append(got[i].Bytes, 99, 99, 99)
		scribble(got[i].Bytes, 99)
		for k := range got {
			if k != i && !sameSegments(got[k:k+1], want[k:k+1]) {
				t.Errorf("%s: what is written into segment %d is seen in segment %d: %v", what, i, k, got[k])
			}
		}
		if !sameSegments(other, want) || !sameSegments(call(), want) {
			t.Errorf("%s: what is written into segment %d is seen in other answers", what, i)
		}
	}
	scribble(call(), spare)
	if got := call(); !sameSegments(got, want) {
		t.Errorf("%s: %v, not %v", what, got, want)
	}
}

// Rule 4: what Merge and Read answer is the caller's.
func TestSegmentsAreTheCallers(t *testing.T) {
	given, want := handedIn()
	wantOwn(t, "Merge", func() segments { l, _ := hexfile.Merge(given); return l })
	intact(t, "Merge", given, want, spare)
	for _, i := range []int{0, 2, 3} {
		intact(t, "Merge", given[i].Bytes, want[i].Bytes, 66)
	}
	for _, text := range []string{
		written(t, file{intel, want, -1}, 2), written(t, file{motorola, want, 7}, 3), written(t, file{mos, want, -1}, 255),
	} {
		wantOwn(t, "Read", func() segments { f, _, _ := hexfile.Read(text); return f.Segments })
	}
}

// Rule 4: what Merge answered hangs no longer on what was handed in, one segment alone neither.
func TestMergeKeepsNothing(t *testing.T) {
	b := []byte{1, 2, 3}
	l := segments{{At: 5, Bytes: b}}
	got, _ := hexfile.Merge(l)
	b[1], l[0].At = 9, 6
	if !sameSegments(got, segments{at(5, 1, 2, 3)}) {
		t.Error(got)
	}
}

// Rule 4: the data that Split answers are the caller's.
func TestSplitDataAreTheCallers(t *testing.T) {
	for _, line := range telling() {
		_, _, _, want, _ := hexfile.Split(line)
		_, _, _, got, _ := hexfile.Split(line)
		_, _, _, other, _ := hexfile.Split(line)
		scribble(got, 99)
		_, _, _, again, e := hexfile.Split(line)
		if !slices.Equal(other, want) || !slices.Equal(again, want) || e != api.OK {
			t.Errorf("Split(%q): % x, % x, not % x", line, other, again, want)
		}
	}
}
