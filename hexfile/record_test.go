package hexfile_test

import (
	"bytes"
	"math"
	"testing"

	"orrery/api"
	"orrery/hexfile"
)

// P2102: a record of each format and kind, by hand.
func TestRecord(t *testing.T) {
	wantRecord(t, intel, 0, 0, nil, ":0000000000")
	wantRecord(t, intel, 0, 65535, []byte{0xff}, ":01FFFF00FF02")
	wantRecord(t, intel, 0, 0x0030, []byte{2, 0x33, 0x7a}, ":0300300002337A1E")
	wantRecord(t, intel, 3, 0, []byte{0, 0, 0x38, 0}, ":0400000300003800C1")
	wantRecord(t, intel, 3, 0, []byte{0, 0, 0xff, 0xff}, ":040000030000FFFFFB")
	wantRecord(t, motorola, 0, 0, nil, "S0030000FC")
	wantRecord(t, motorola, 0, 0, []byte("HDR"), "S00600004844521B")
	wantRecord(t, motorola, 1, 0x7af0, []byte{0x0a, 0x0a, 0x0d, 0, 0, 0, 0, 0, 0, 0, 0, 0, 0, 0, 0, 0}, "S1137AF00A0A0D0000000000000000000000000061")
	wantRecord(t, motorola, 1, 0x1234, nil, "S1031234B6")
	wantRecord(t, motorola, 5, 3, nil, "S5030003F9")
	wantRecord(t, motorola, 5, 65535, nil, "S503FFFFFE")
	wantRecord(t, motorola, 9, 0x1234, nil, "S9031234B6")
	wantRecord(t, mos, 0, 0, []byte{0}, ";010000000001")
	wantRecord(t, mos, 0, 0x2000, []byte{1, 2, 0xab}, ";0320000102AB00D1")
	wantRecord(t, mos, 1, 0, nil, ";0000000000")
	wantRecord(t, mos, 1, 65535, nil, ";00FFFF01FE")
	whole := bytes.Repeat([]byte{255}, 255)
	wantRecord(t, mos, 0, 65535, whole, ";FFFFFF"+string(bytes.Repeat([]byte("FF"), 255))+"00FE") // the sum goes round
}

// edges: lists of data bytes, of every length that tells something.
func edges() [][]byte {
	list := [][]byte{nil, {}, {0, 0, 0, 0}, {0, 0, 1, 2}, {0, 1, 0, 0}, {1, 0, 0, 0}, {0, 0, 1, 2, 3}, {0, 0, 0}, {0, 0}}
	for _, n := range []int{1, 2, 3, 4, 5, 16, 251, 252, 253, 254, 255, 256, 257, 1000} {
		list = append(list, many(n), make([]byte, n), bytes.Repeat([]byte{255}, n))
	}
	return list
}

// P2102: all formats and kinds, those that are none among them, at all edges; P2103: what is one is split again.
func TestRecordsAtTheEdges(t *testing.T) {
	numbers := []int{math.MinInt, -256, -1, 0, 1, 2, 3, 4, 5, 6, 7, 8, 9, 10, 255, 256, 257, 259, math.MaxInt}
	for _, format := range numbers {
		for _, kind := range numbers {
			for _, place := range []int{math.MinInt, -65536, -1, 0, 1, 255, 256, 0x1234, 65535, 65536, 65537, 131072, math.MaxInt} {
				for _, data := range edges() {
					if !may(format, kind, place, data) {
						wantNoRecord(t, format, kind, place, data)
						continue
					}
					want := unchecked(format, kind, place, data)
					wantRecord(t, format, kind, place, data, want)
					wantSplit(t, want, format, kind, place, data)
				}
			}
		}
	}
}

// P2102: the most data bytes, and one more.
func TestMostData(t *testing.T) {
	wantNoRecord(t, intel, 0, 0, many(256))
	wantNoRecord(t, motorola, 0, 0, many(253))
	wantNoRecord(t, motorola, 1, 0, many(253))
	wantNoRecord(t, motorola, 1, 0, many(255))
	wantNoRecord(t, mos, 0, 0, many(256))
	wantNoRecord(t, mos, 0, 0, many(65536+1))
	for format, most := range map[int]int{intel: 255, motorola: 252, mos: 255} {
		kind := map[int]int{motorola: 1}[format]
		if text, e := hexfile.Record(format, kind, 0, many(most)); e != api.OK || len(text) < 2*most {
			t.Errorf("%d: %q, %v", format, text, e)
		}
	}
}

// P2102: all places; a place is four digits, the highest first.
func TestAllPlaces(t *testing.T) {
	for place := range 65536 {
		for format, kind := range map[int]int{intel: 0, motorola: 1, mos: 0} {
			wantRecord(t, format, kind, place, []byte{7}, unchecked(format, kind, place, []byte{7}))
		}
	}
}

// P2102: data that go beyond the last place are a record's nevertheless.
func TestRecordBeyond(t *testing.T) {
	wantRecord(t, intel, 0, 65535, []byte{1, 2}, ":02FFFF000102FD")
	wantRecord(t, motorola, 1, 65535, []byte{1, 2}, unchecked(2, 1, 65535, []byte{1, 2}))
	wantRecord(t, mos, 0, 65535, []byte{1, 2}, ";02FFFF01020203")
	wantSplit(t, ":02FFFF000102FD", intel, 0, 65535, []byte{1, 2})
}
