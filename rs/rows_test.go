package rs_test

import (
	"bytes"
	"math"
	"slices"
	"testing"

	"orrery/api"
	"orrery/rs"
)

func wantRows(t *testing.T, what string, got, want [][]byte) {
	t.Helper()
	if !slices.EqualFunc(got, want, bytes.Equal) {
		t.Errorf("%s: %v, not %v", what, got, want)
	}
}

// P1106
func TestInterleave(t *testing.T) {
	for _, k := range []struct {
		rows [][]byte
		want []byte
	}{
		{[][]byte{{1, 2}, {3, 4}}, []byte{1, 3, 2, 4}},
		{[][]byte{{1, 2, 3}, {4, 5, 6}}, []byte{1, 4, 2, 5, 3, 6}},
		{[][]byte{{1, 2}, {3, 4}, {5, 6}}, []byte{1, 3, 5, 2, 4, 6}},
		{[][]byte{{7, 8, 9}}, []byte{7, 8, 9}},
		{[][]byte{{7}, {8}, {9}}, []byte{7, 8, 9}},
		{nil, nil}, {[][]byte{}, nil}, {[][]byte{nil}, nil}, {[][]byte{{}}, nil}, {[][]byte{{}, nil, {}}, nil},
	} {
		data, e := rs.Interleave(k.rows)
		wantBytes(t, "Interleave", data, k.want)
		wantError(t, "Interleave", e, api.OK)
	}
}

func TestInterleaveOfUnlikeRows(t *testing.T) {
	for _, rows := range [][][]byte{
		{{1}, {}}, {{}, {1}}, {nil, {1}}, {{1}, nil}, {{1, 2}, {3}}, {{3}, {1, 2}}, {{1, 2}, {3, 4}, {5}}, {{1, 2}, {3}, {4, 5}}, {{1}, {2, 3}, {4}},
	} {
		if data, e := rs.Interleave(rows); data != nil || e != api.ErrArg {
			t.Errorf("Interleave(%v): %v, %v", rows, data, e)
		}
	}
}

func TestDeal(t *testing.T) {
	for _, k := range []struct {
		data []byte
		rows int
		want [][]byte
	}{
		{[]byte{1, 3, 2, 4}, 2, [][]byte{{1, 2}, {3, 4}}},
		{[]byte{1, 2, 3, 4, 5, 6}, 2, [][]byte{{1, 3, 5}, {2, 4, 6}}},
		{[]byte{1, 2, 3, 4, 5, 6}, 3, [][]byte{{1, 4}, {2, 5}, {3, 6}}},
		{[]byte{1, 2, 3}, 1, [][]byte{{1, 2, 3}}},
		{[]byte{1, 2, 3}, 3, [][]byte{{1}, {2}, {3}}},
		{nil, 1, [][]byte{{}}}, {[]byte{}, 3, [][]byte{{}, {}, {}}},
	} {
		rows, e := rs.Deal(k.data, k.rows)
		wantRows(t, "Deal", rows, k.want)
		wantError(t, "Deal", e, api.OK)
	}
}

func TestDealOfWrongRows(t *testing.T) {
	for _, k := range []struct {
		bytes, rows int
	}{
		{4, 0}, {4, -1}, {4, -2}, {4, -4}, {4, 3}, {4, 5}, {4, 8}, {1, 2}, {5, 2}, {255, 2}, {0, 0}, {0, -1}, {4, math.MinInt}, {4, math.MaxInt}, {0, math.MinInt}, {0, math.MaxInt},
		{0, api.MaxText + 1}, {api.MaxText + 1, api.MaxText + 1}, {api.MaxText, api.MaxText + 1}, {2 * api.MaxText, 2 * api.MaxText}, {api.MaxText + 1, api.MaxText}, {api.MaxText - 1, api.MaxText},
	} {
		if rows, e := rs.Deal(make([]byte, k.bytes), k.rows); rows != nil || e != api.ErrArg {
			t.Errorf("Deal of %d bytes into %d rows: %d rows, %v", k.bytes, k.rows, len(rows), e)
		}
	}
}

// Deal turns Interleave back, and it Deal.
func TestDealAndInterleave(t *testing.T) {
	for _, k := range []struct{ rows, length int }{
		{1, 1}, {1, 50}, {50, 1}, {2, 255}, {255, 2}, {7, 11}, {64, 64}, {3, 0}, {1, 0}, {1, 2 * api.MaxText}, {2, api.MaxText}, {api.MaxText, 0}, {api.MaxText, 1}, {api.MaxText, 2},
	} {
		data := make([]byte, k.rows*k.length)
		for i := range data {
			data[i] = byte(i ^ i>>8 ^ i>>16)
		}
		rows, e := rs.Deal(data, k.rows)
		wantError(t, "Deal", e, api.OK)
		if len(rows) != k.rows {
			t.Fatalf("%v: %d rows", k, len(rows))
		}
		for i, row := range rows {
			if len(row) != k.length {
				t.Fatalf("%v: row %d has %d bytes", k, i, len(row))
			}
		}
		back, e := rs.Interleave(rows)
		if !bytes.Equal(back, data) || e != api.OK {
			t.Errorf("%v: Interleave does not turn Deal back: %v", k, e)
		}
	}
}

// Interleave knows no limit of rows.
func TestInterleaveOfManyRows(t *testing.T) {
	rows := make([][]byte, api.MaxText+1)
	for i := range rows {
		rows[i] = []byte{byte(i), byte(i >> 8)}
	}
	data, e := rs.Interleave(rows)
	if len(data) != 2*len(rows) || e != api.OK {
		t.Fatalf("%d bytes, %v", len(data), e)
	}
	for i := range rows {
		if data[i] != byte(i) || data[len(rows)+i] != byte(i>>8) {
			t.Fatalf("row %d stands wrong", i)
		}
	}
}

// A scratch over neighbouring bytes of interleaved words is a few turned bytes of each.
func TestInterleavedWordsBearAScratch(t *testing.T) {
	c := code(t, 4, 1)
	var words [][]byte
	for i := range 8 {
		word, _ := c.Encode([]byte{byte(i), 2, byte(3 * i), 4, 5})
		words = append(words, word)
	}
	whole, _ := rs.Interleave(words)
	for at := 0; at+16 <= len(whole); at++ {
		scratched := slices.Clone(whole)
		for i := range 16 {
			scratched[at+i] ^= byte(200 - i)
		}
		rows, _ := rs.Deal(scratched, 8)
		for i, row := range rows {
			wantDecode(t, c, row, nil, words[i][:5], differs(row, words[i]), api.OK)
		}
	}
}
