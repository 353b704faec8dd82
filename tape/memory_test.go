package tape_test

import (
	"bytes"
	"fmt"
	"math/rand"
	"reflect"
	"slices"
	"sync"
	"testing"

	"orrery/api"
	"orrery/tape"
)

// roomy: a copy with spare room behind it, which has marks of its own.
func roomy(b []byte) []byte {
	return append(append(make([]byte, 0, len(b)+8), b...), bytes.Repeat([]byte{66}, 8)...)[:len(b)]
}

// intact: what roomy made, and its spare room, are as they were.
func intact(t *testing.T, what string, given, want []byte) {
	t.Helper()
	if !bytes.Equal(given[:len(want)+8], append(bytes.Clone(want), bytes.Repeat([]byte{66}, 8)...)) {
		t.Errorf("%s: what was handed in is % x", what, given[:len(want)+8])
	}
}

// scribble: over a list and its spare room.
func scribble[T any](list []T, mark T) {
	list = list[:cap(list)]
	for i := range list {
		list[i] = mark
	}
}

// damaged: a tape of which a frame is mended, one is broken, and one stands there twice.
func damaged(t testing.TB) []byte {
	b := packed(t, first, second, third, first, third)
	return turned(rand.New(rand.NewSource(2219)), b, append(from(10, 30), from(3*260+10, 200)...)...)
}

// Rule 4: what is handed in stays as it was, with its spare room.
func TestWhatIsHandedInStays(t *testing.T) {
	for size := range 180 {
		f := dataFrame(0, 2, 9, many(size)...)
		f.Payload = roomy(f.Payload)
		tape.Content(f)
		tape.Pack(f)
		intact(t, "Pack", f.Payload, many(size))
	}
	whole := damaged(t)
	for _, b := range [][]byte{whole, whole[:260], whole[520:780], whole[780:1040], noise(260), noise(9), packed(t, first)} {
		given := roomy(b)
		tape.Unpack(given)
		tape.Scan(given)
		tape.Read(given)
		intact(t, "Read", given, b)
	}
}

// Rule 4: segments stay as they were, with their bytes, their order and their spare room.
func TestSegmentsStay(t *testing.T) {
	want := segments{at(500, many(200)...), at(20), at(5, 1, 2, 3), at(8, 4), at(900, 1)}
	given := slices.Clone(want)
	for n := range given {
		given[n].Bytes = roomy(given[n].Bytes)
	}
	first := written(t, image{given[:4], 7}, 2)
	for n := range want {
		if given[n].At != want[n].At || len(given[n].Bytes) != len(want[n].Bytes) {
			t.Errorf("segment %d is %v", n, given[n])
		}
		intact(t, "Write", given[n].Bytes, want[n].Bytes)
	}
	before := bytes.Clone(first)
	scribble(given[0].Bytes, 99)
	if !bytes.Equal(first, before) {
		t.Error("Write keeps what was handed in")
	}
}

// Rule 4: Content and Pack, Write and Unpack answer memory of their own.
func TestBytesAreTheCallers(t *testing.T) {
	f := dataFrame(0, 2, 9, roomy(many(150))...)
	b, payload := packed(t, f), many(150)
	calls := map[string]func() []byte{
		"Content": func() []byte { b, _ := tape.Content(f); return b },
		"Pack":    func() []byte { b, _ := tape.Pack(f); return b },
		"Write":   func() []byte { return written(t, image{segments{at(9, payload...)}, 5}, 3) },
		"Unpack":  func() []byte { f, _, _ := tape.Unpack(b); return f.Payload },
		"Scan":    func() []byte { l, _ := tape.Scan(b); return l[0].Payload },
	}
	for what, call := range calls {
		want, other := bytes.Clone(call()), call()
		_ = append(call(), 99, 99, 99)
		scribble(call(), 99)
		if !bytes.Equal(call(), want) || !bytes.Equal(other, want) {
			t.Errorf("%s: what a caller wrote is seen", what)
		}
	}
	if !bytes.Equal(f.Payload, many(150)) || !bytes.Equal(payload, many(150)) || !bytes.Equal(b, packed(t, dataFrame(0, 2, 9, many(150)...))) {
		t.Error("what a caller wrote into an answer is seen in what was handed in")
	}
}

// Rule 4: the copies that Write answers, and Pack's bytes, hang no longer on the payload.
func TestPackKeepsNothing(t *testing.T) {
	payload := many(178)
	f := dataFrame(0, 2, 9, payload...)
	content, _ := tape.Content(f)
	b := packed(t, f)
	scribble(payload, 99)
	if g := dataFrame(0, 2, 9, many(178)...); !bytes.Equal(content, contentAgain(g)) || !bytes.Equal(b, packAgain(g)) {
		t.Error("what was handed in is kept")
	}
}

// Rule 4: no two frames of Scan share memory, nor does one with the tape.
func TestFramesAreTheCallers(t *testing.T) {
	given := damaged(t)
	want, wantPlaces := tape.Scan(given)
	if len(want) != 4 {
		t.Fatal(want)
	}
	for n := range want {
		list, places := tape.Scan(given)
		_ = append(list[n].Payload, 99, 99)
		scribble(list[n].Payload, 99)
		for k := range list {
			if k != n && !sameFrame(list[k], want[k]) {
				t.Errorf("frame %d is seen in frame %d", n, k)
			}
		}
		scribble(places, 99)
		scribble(list, frame{})
		wantScan(t, "again", given, want, wantPlaces...)
	}
	before := fmt.Sprint(want)
	scribble(given, 0)
	if fmt.Sprint(want) != before {
		t.Error("Scan keeps what was handed in")
	}
}

// Rule 4: the segments and the list of the lost ones are the caller's.
func TestImageIsTheCallers(t *testing.T) {
	given := damaged(t)
	want, r, e := tape.Read(given)
	if len(want.Segments) != 2 || e != api.OK {
		t.Fatal(want, e)
	}
	for n := range want.Segments {
		got, _, _ := tape.Read(given)
		_ = append(got.Segments[n].Bytes, 99, 99)
		scribble(got.Segments[n].Bytes, 99)
		if !sameSegments(got.Segments[1-n:2-n], want.Segments[1-n:2-n]) {
			t.Errorf("segment %d is seen in the other one", n)
		}
		scribble(got.Segments, at(9, 9))
		wantRead(t, "again", given, want, r)
	}
	before := fmt.Sprint(want)
	lost := given[:520]
	_, r, _ = tape.Read(lost)
	scribble(r.Lost, 99)
	wantNoRead(t, "again", lost, report{Frames: 2, Mended: 30, Lost: []int{2}}, api.ErrTape)
	scribble(given, 0)
	if fmt.Sprint(want) != before {
		t.Error("Read keeps what was handed in")
	}
}

// Rule 5: the same each time, whatever was asked between, and whoever asks beside.
func TestSameEachTime(t *testing.T) {
	whole := func(n int) []any {
		f := dataFrame(n, 40, 100*n, many(20*n)...)
		c, e := tape.Content(f)
		b, g := tape.Pack(f)
		u, mended, h := tape.Unpack(turned(rand.New(rand.NewSource(int64(n))), b, from(5, n)...))
		w, k := tape.Write(image{segments{at(n, many(40*n)...)}, n}, 1+n%4)
		list, places := tape.Scan(w[n:])
		i, r, l := tape.Read(w[130*n:])
		return []any{c, e, b, g, u, mended, h, w, k, list, places, i, r, l}
	}
	var before [][]any
	for n := range 8 {
		before = append(before, whole(n))
	}
	var all sync.WaitGroup
	for range 4 {
		all.Go(func() {
			for n := 7; n >= 0; n-- {
				if got := whole(n); !reflect.DeepEqual(got, before[n]) {
					t.Errorf("%v, not %v", got, before[n])
				}
			}
		})
	}
	all.Wait()
}
