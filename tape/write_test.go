package tape_test

import (
	"bytes"
	"math"
	"math/rand"
	"slices"
	"testing"

	"orrery/api"
	"orrery/hexfile"
	"orrery/tape"
)

// wantWrite: these frames, one behind the other, so many times.
func wantWrite(t *testing.T, what string, i image, copies int, want ...frame) {
	t.Helper()
	var once []byte
	for _, f := range want {
		once = append(once, packAgain(f)...)
	}
	got, e := tape.Write(i, copies)
	if !bytes.Equal(got, bytes.Repeat(once, copies)) || e != api.OK {
		t.Errorf("%s: Write(%d): %d bytes, %v, not %d frames", what, copies, len(got), e, copies*len(want))
	}
}

// F22.2: no segments, empty ones, short ones.
func TestWrite(t *testing.T) {
	for copies := 1; copies <= 4; copies++ {
		wantWrite(t, "none", image{Entry: 5}, copies, end(1, 5))
		wantWrite(t, "empty ones", image{segments{at(0), at(7), at(65536), {At: 9, Bytes: []byte{}}}, 0}, copies, end(1, 0))
		wantWrite(t, "one", image{segments{at(9, 1, 2, 3)}, 65535}, copies, dataFrame(0, 2, 9, 1, 2, 3), end(2, 65535))
		wantWrite(t, "out of order", image{segments{at(20, 4), at(5, 1, 2), at(12), at(10, 3)}, 7}, copies,
			dataFrame(0, 4, 5, 1, 2), dataFrame(1, 4, 10, 3), dataFrame(2, 4, 20, 4), end(4, 7))
		wantWrite(t, "adjacent ones", image{segments{at(7, 3), at(5, 1, 2), at(9, 5), at(8, 4)}, 7}, copies,
			dataFrame(0, 2, 5, 1, 2, 3, 4, 5), end(2, 7))
		wantWrite(t, "at both ends", image{segments{at(65535, 9), at(0, 8)}, 1}, copies,
			dataFrame(0, 3, 0, 8), dataFrame(1, 3, 65535, 9), end(3, 1))
	}
}

// F22.2: 178 bytes a frame, the last one of a segment with what is left.
func TestWriteLong(t *testing.T) {
	b := many(65536)
	wantWrite(t, "177", image{segments{at(3, b[:177]...)}, 0}, 1, dataFrame(0, 2, 3, b[:177]...), end(2, 0))
	wantWrite(t, "178", image{segments{at(3, b[:178]...)}, 0}, 1, dataFrame(0, 2, 3, b[:178]...), end(2, 0))
	wantWrite(t, "179", image{segments{at(3, b[:179]...)}, 0}, 1, dataFrame(0, 3, 3, b[:178]...), dataFrame(1, 3, 181, b[178]), end(3, 0))
	wantWrite(t, "356", image{segments{at(3, b[:356]...)}, 0}, 2, dataFrame(0, 3, 3, b[:178]...), dataFrame(1, 3, 181, b[178:356]...), end(3, 0))
	wantWrite(t, "two of 179", image{segments{at(3, b[:179]...), at(1000, b[:179]...)}, 0}, 1,
		dataFrame(0, 5, 3, b[:178]...), dataFrame(1, 5, 181, b[178]), dataFrame(2, 5, 1000, b[:178]...), dataFrame(3, 5, 1178, b[178]), end(5, 0))
	wantWrite(t, "two that make one of 356", image{segments{at(103, b[100:356]...), at(3, b[:100]...)}, 0}, 1,
		dataFrame(0, 3, 3, b[:178]...), dataFrame(1, 3, 181, b[178:356]...), end(3, 0))
	var want []frame
	for from := 0; from < 65536; from += 178 {
		want = append(want, dataFrame(len(want), 370, from, b[from:min(65536, from+178)]...))
	}
	wantWrite(t, "the whole memory", image{segments{at(0, b...)}, 0xfffc}, 4, append(want, end(370, 0xfffc))...)
}

// F22.2: copies and entries at their edges and beyond.
func TestWriteWrong(t *testing.T) {
	l := segments{at(9, 1)}
	for _, copies := range []int{math.MinInt, -1, 0, 5, 6, 256 + 1, math.MaxInt} {
		wantNoWrite(t, image{l, 0}, copies, api.ErrArg)
		wantNoWrite(t, image{}, copies, api.ErrArg)
	}
	for _, entry := range []int{math.MinInt, -65536, -1, 65536, 65537, math.MaxInt} {
		wantNoWrite(t, image{l, entry}, 1, api.ErrArg)
		wantNoWrite(t, image{nil, entry}, 4, api.ErrArg)
	}
	for _, entry := range []int{0, 1, 255, 256, 65534, 65535} {
		wantWrite(t, "entry", image{l, entry}, 1, dataFrame(0, 2, 9, 1), end(2, entry))
	}
}

// F22.2: Merge's errors, and which of two is told.
func TestWriteMergeErrors(t *testing.T) {
	over := segments{at(5, 1, 2), at(6, 3)}
	wantNoWrite(t, image{over, 0}, 1, api.ErrOver)
	wantNoWrite(t, image{over, 65535}, 4, api.ErrOver)
	wantNoWrite(t, image{over, 0}, 0, api.ErrArg)
	wantNoWrite(t, image{over, 0}, 5, api.ErrArg)
	wantNoWrite(t, image{over, -1}, 1, api.ErrArg)
	wantNoWrite(t, image{over, 65536}, 1, api.ErrArg)
	for _, bad := range []api.Segment{at(-1), at(65537), at(65536, 1), at(65535, 1, 2), at(-1, 1), at(0, many(65537)...), at(math.MaxInt, 1)} {
		wantNoWrite(t, image{segments{bad}, 0}, 1, api.ErrArg)
		wantNoWrite(t, image{append(slices.Clone(over), bad), 0}, 1, api.ErrArg)
	}
}

// F22.2: made-up segments, held against the chapter's words.
func TestWriteAgain(t *testing.T) {
	chance := rand.New(rand.NewSource(2205))
	for range 200 {
		i := madeUpImage(chance)
		merged, e := hexfile.Merge(i.Segments)
		if e != api.OK {
			wantNoWrite(t, i, 1, e)
			continue
		}
		var want []frame
		for _, s := range merged {
			for n := 0; n < len(s.Bytes); n += 178 {
				want = append(want, frame{At: s.At + n, Payload: s.Bytes[n:min(len(s.Bytes), n+178)]})
			}
		}
		want = append(want, frame{Kind: 1, At: i.Entry})
		for n := range want {
			want[n].Number, want[n].All = n, len(want)
		}
		wantWrite(t, "made up", i, 1+chance.Intn(4), want...)
	}
}

// madeUpImage: a few segments, that seldom have a place in common.
func madeUpImage(chance *rand.Rand) image {
	var l segments
	for range chance.Intn(5) {
		b := make([]byte, []int{0, 1, chance.Intn(20), 178, 178 + chance.Intn(3), chance.Intn(600)}[chance.Intn(6)])
		chance.Read(b)
		l = append(l, at(chance.Intn(65537-len(b)), b...))
		if last := l[len(l)-1]; chance.Intn(3) == 0 && last.At+len(b) < 65536 {
			l = append(l, at(last.At+len(b), 1))
		}
	}
	chance.Shuffle(len(l), func(i, k int) { l[i], l[k] = l[k], l[i] })
	return image{l, chance.Intn(65536)}
}
