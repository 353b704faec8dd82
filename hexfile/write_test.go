package hexfile_test

import (
	"math"
	"math/rand"
	"strings"
	"testing"

	"orrery/api"
	"orrery/hexfile"
)

// program: two segments and an adjacent one, out of order; an empty one.
func program() segments {
	return segments{at(0x2000, 1, 2, 3), at(0x0200, 10, 20, 30, 40, 50), at(0x0205, 60), at(0x3000)}
}

// P2104: each format, with an entry and without, line by line.
func TestWrite(t *testing.T) {
	wantWrite(t, file{intel, program(), -1}, 4, ":040200000A141E2896", ":02020400323C8A", ":03200000010203D7", ":00000001FF")
	wantWrite(t, file{intel, program(), 0x0203}, 255, ":060200000A141E28323C26", ":03200000010203D7", ":0400000300000203F4", ":00000001FF")
	wantWrite(t, file{intel, program(), 0}, 6, ":060200000A141E28323C26", ":03200000010203D7", ":0400000300000000F9", ":00000001FF")
	wantWrite(t, file{motorola, program(), -1}, 4, "S0030000FC", "S10702000A141E2892", "S1050204323C86", "S1062000010203D3", "S5030003F9", "S9030000FC")
	wantWrite(t, file{motorola, program(), 0x0203}, 252, "S0030000FC", "S10902000A141E28323C22", "S1062000010203D3", "S5030002FA", "S9030203F7")
	wantWrite(t, file{motorola, program(), 0}, 252, "S0030000FC", "S10902000A141E28323C22", "S1062000010203D3", "S5030002FA", "S9030000FC")
	wantWrite(t, file{mos, program(), -1}, 4, ";0402000A141E28006A", ";020204323C0076", ";0320000102030029", ";0000030003")
}

// P2104: the entry's edges; of Motorola one that is none is 0.
func TestWriteEntry(t *testing.T) {
	wantWrite(t, file{intel, nil, -1}, 1, ":00000001FF")
	wantWrite(t, file{intel, nil, 65535}, 1, ":040000030000FFFFFB", ":00000001FF")
	wantWrite(t, file{intel, segments{at(5)}, 1}, 1, ":0400000300000001F8", ":00000001FF")
	wantWrite(t, file{motorola, nil, -1}, 1, "S0030000FC", "S5030000FC", "S9030000FC")
	wantWrite(t, file{motorola, segments{}, 65535}, 1, "S0030000FC", "S5030000FC", "S903FFFFFE")
	wantWrite(t, file{mos, nil, -1}, 1, ";0000000000")
}

// P2104: all widths and entries at their edges, in all formats and ones that are none.
func TestWriteEdges(t *testing.T) {
	most := map[int]int{intel: 255, motorola: 252, mos: 255}
	long := segments{at(0xfe00, many(512)...), at(7, 1)}
	for _, format := range []int{math.MinInt, -1, 0, intel, motorola, mos, 4, 5, 257, math.MaxInt} {
		for _, width := range []int{math.MinInt, -256, -1, 0, 1, 2, 16, 251, 252, 253, 254, 255, 256, 257, 511, math.MaxInt} {
			for _, entry := range []int{math.MinInt, -65536, -2, -1, 0, 1, 0x1234, 65535, 65536, 131071, math.MaxInt} {
				f := file{format, long, entry}
				if width < 1 || width > most[format] || entry < -1 || entry > 65535 || format == mos && entry != -1 {
					wantNoWrite(t, f, width, api.ErrArg)
					continue
				}
				wantWriteAgain(t, f, width)
			}
		}
	}
}

// wantWriteAgain: what the second reading of the chapter's words tells.
func wantWriteAgain(t *testing.T, f file, width int) {
	t.Helper()
	got, e := hexfile.Write(f, width)
	if want := writeAgain(f, width); got != want || e != api.OK {
		t.Errorf("Write(%d, %d segments, %d; %d): %v\n%snot\n%s", f.Format, len(f.Segments), f.Entry, width, e, brief(got), brief(want))
	}
}

// P2104: Merge's errors, behind the arguments' own.
func TestWriteNoSegments(t *testing.T) {
	over := segments{at(1, 5), at(1, 5)}
	for format := intel; format <= mos; format++ {
		wantNoWrite(t, file{format, over, -1}, 16, api.ErrOver)
		for _, bad := range []segments{{at(-1)}, {at(65537)}, {at(65536, 1)}, {at(65535, 1, 2)}, append(over, at(-1))} {
			wantNoWrite(t, file{format, bad, -1}, 16, api.ErrArg)
		}
		wantNoWrite(t, file{format, over, -1}, 0, api.ErrArg)
		wantNoWrite(t, file{format, over, -1}, 256, api.ErrArg)
		wantNoWrite(t, file{format, over, -2}, 16, api.ErrArg)
		wantNoWrite(t, file{format, over, 65536}, 16, api.ErrArg)
	}
	wantNoWrite(t, file{0, over, -1}, 16, api.ErrArg)
	wantNoWrite(t, file{4, over, -1}, 16, api.ErrArg)
	wantNoWrite(t, file{motorola, over, -1}, 253, api.ErrArg)
	wantNoWrite(t, file{mos, over, 0}, 16, api.ErrArg)
	wantNoWrite(t, file{intel, over, 0}, 16, api.ErrOver)
	wantNoWrite(t, file{motorola, over, 65535}, 16, api.ErrOver)
}

// P2104: every width, of segments that are shorter, as long, longer, up to the last place.
func TestWriteWidths(t *testing.T) {
	l := segments{at(0, many(1)...), at(100, many(252)...), at(1000, many(255)...), at(3000, many(1000)...), at(65536-256, many(256)...)}
	for width := 1; width <= 255; width++ {
		wantWriteAgain(t, file{intel, l, width}, width)
		wantWriteAgain(t, file{mos, l, -1}, width)
		if width <= 252 {
			wantWriteAgain(t, file{motorola, l, 65535 - width}, width)
		}
	}
}

// P2104: the whole memory; 65536 records are counted as 0, one less is not.
func TestWriteWholeMemory(t *testing.T) {
	whole := segments{at(0, many(65536)...)}
	less := segments{at(1, many(65535)...)}
	for format := intel; format <= mos; format++ {
		for _, width := range []int{1, 2, 7, 252} {
			wantWriteAgain(t, file{format, whole, -1}, width)
			wantWriteAgain(t, file{format, less, -1}, width)
		}
	}
	ends := func(f file, want ...string) {
		if text, e := hexfile.Write(f, 1); e != api.OK || !strings.HasSuffix(text, "\n"+lines(want...)) {
			t.Errorf("%v: .. %q, not %q", e, text[max(0, len(text)-30):], lines(want...))
		}
	}
	ends(file{motorola, whole, -1}, "S5030000FC", "S9030000FC")
	ends(file{motorola, less, -1}, "S503FFFFFE", "S9030000FC")
	ends(file{mos, whole, -1}, ";0000000000")
	ends(file{mos, less, -1}, ";00FFFF01FE")
}

// madeUpFile: of short segments that have no place in common.
func madeUpFile(chance *rand.Rand) (file, int) {
	for {
		l := madeUpSegments(chance, 5, 40)
		if _, apart := mergedByPlaces(l); !apart {
			continue
		}
		f := file{1 + chance.Intn(3), l, -1}
		if f.Format != mos && chance.Intn(2) == 0 {
			f.Entry = chance.Intn(65536)
		}
		return f, 1 + chance.Intn(30)
	}
}

// P2104: made-up files, held against the second reading.
func TestWriteAgain(t *testing.T) {
	chance := rand.New(rand.NewSource(2104))
	for range 1500 {
		f, width := madeUpFile(chance)
		wantWriteAgain(t, f, width)
	}
}
