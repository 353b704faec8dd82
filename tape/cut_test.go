package tape

import (
	"slices"
	"testing"

	"orrery/api"
)

// F22.2: 65535 frames, and one more. No merged segments have so many (32768 at most, each with one byte), so the bound is asked by itself.
func TestCutMost(t *testing.T) {
	l := slices.Repeat([]api.Segment{{At: 9, Bytes: []byte{7}}}, 65534)
	list, e := cut(l, 5)
	if len(list) != 65535 || e != api.OK {
		t.Fatalf("%d frames, %v", len(list), e)
	}
	for number, f := range list {
		if f.Number != number || f.All != 65535 {
			t.Fatalf("frame %d is %v", number, f)
		}
		if _, e := Content(f); e != api.OK {
			t.Fatalf("frame %d is %v: %v", number, f, e)
		}
	}
	if list, e := cut(append(l, l[0]), 5); len(list) != 0 || e != api.ErrBig {
		t.Errorf("one more: %d frames, %v, not ErrBig", len(list), e)
	}
	long := []api.Segment{{Bytes: make([]byte, 178*65534)}}
	if list, e := cut(long, 5); len(list) != 65535 || e != api.OK {
		t.Errorf("one long one: %d frames, %v", len(list), e)
	}
	long[0].Bytes = append(long[0].Bytes, 1)
	if list, e := cut(long, 5); len(list) != 0 || e != api.ErrBig {
		t.Errorf("a byte more: %d frames, %v, not ErrBig", len(list), e)
	}
}

// F22.2: the most frames that there are, four times over: the copies are numbered alike, so they do not count together.
func TestWriteMost(t *testing.T) {
	var apart []api.Segment
	for place := 65534; place >= 0; place -= 2 {
		apart = append(apart, api.Segment{At: place, Bytes: []byte{byte(place >> 4)}})
	}
	b, e := Write(Image{apart, 3}, 4)
	if len(b) != 4*32769*260 || e != api.OK {
		t.Fatalf("%d bytes, %v", len(b), e)
	}
	f, mended, e := Unpack(b[len(b)-260:])
	if f.Kind != endKind || f.Number != 32768 || f.All != 32769 || f.At != 3 || mended != 0 || e != api.OK {
		t.Errorf("%v, %d, %v", f, mended, e)
	}
	i, r, e := Read(b[:len(b)/4])
	if len(i.Segments) != 32768 || i.Entry != 3 || r.Frames != 32769 || e != api.OK {
		t.Errorf("%d segments, entry %d, %v, %v", len(i.Segments), i.Entry, r, e)
	}
}
