package rs_test

import (
	"bytes"
	"slices"
	"testing"

	"orrery/api"
	"orrery/rs"
)

// roomy: the list, and behind it spare room that is not 0.
func roomy[T byte | int](list []T) []T {
	whole := append(slices.Clone(list), 101, 102, 103, 104, 105)
	return whole[:len(list)]
}

// wantStays: neither the list nor its spare room is changed by what the call does.
func wantStays[T byte | int](t *testing.T, what string, list []T, call func(given []T)) {
	t.Helper()
	given := roomy(list)
	call(given)
	if whole := given[:cap(given)]; !slices.Equal(given, list) || !slices.Equal(whole[len(list):len(list)+5], []T{101, 102, 103, 104, 105}) {
		t.Errorf("%s changes what it is given: %v", what, whole)
	}
}

// Rule 4: what is handed in is not changed.
func TestWhatIsHandedInStays(t *testing.T) {
	c := code(t, 4, 1)
	good, _ := c.Encode([]byte{1, 2, 3})
	turned := slices.Clone(good)
	turned[1] ^= 9
	turned[6] ^= 7
	far := []byte{1, 2, 3, 4, 5, 6, 7, 8, 9, 10}
	wantStays(t, "Encode", []byte{1, 2, 3}, func(b []byte) { c.Encode(b) })
	for _, word := range [][]byte{good, turned, far, {1, 2}} {
		for _, lost := range [][]int{nil, {6, 1}, {5, 3, 1, 0}, {6, 5, 4, 3, 2}, {3, 3}, {-1}} {
			wantStays(t, "Syndromes", word, func(b []byte) { c.Syndromes(b) })
			wantStays(t, "Good", word, func(b []byte) { c.Good(b) })
			wantStays(t, "Decode", word, func(b []byte) { c.Decode(b, lost) })
			wantStays(t, "Locator", word, func(b []byte) { c.Locator(b, lost) })
			wantStays(t, "Decode", lost, func(l []int) { c.Decode(word, l) })
			wantStays(t, "Locator", lost, func(l []int) { c.Locator(word, l) })
		}
	}
	wantStays(t, "Deal", []byte{1, 2, 3, 4}, func(b []byte) { rs.Deal(b, 2) })
	wantStays(t, "Interleave", []byte{1, 2, 3}, func(b []byte) { rs.Interleave([][]byte{b, {4, 5, 6}, b}) })
	rows := [][]byte{{1}, {2}, {3}}
	rs.Interleave(rows[:2])
	if !slices.EqualFunc(rows, [][]byte{{1}, {2}, {3}}, bytes.Equal) {
		t.Errorf("Interleave changes its rows: %v", rows)
	}
}

// spoil: writes into a list and into its spare room.
func spoil[T byte | int](list []T) {
	list = list[:cap(list)]
	for i := range list {
		list[i] ^= 85
	}
}

// Rule 4: what is handed in is not kept, and nobody sees what the caller writes into an answer.
func TestWhatIsHandedOutIsTheCallers(t *testing.T) {
	c, whole := code(t, 4, 1), []byte{1, 2, 3}
	good, _ := c.Encode(whole)
	turned := slices.Clone(good)
	turned[0], turned[5] = 7, 8
	told := func() [][]byte {
		word, _ := c.Encode(whole)
		s, _ := c.Syndromes(turned)
		data, places, _ := c.Decode(turned, nil)
		locator, _ := c.Locator(turned, nil)
		same, none, _ := c.Decode(good, nil)
		if !slices.Equal(places, []int{0, 5}) || len(none) != 0 {
			t.Errorf("the places are %v, and %v", places, none)
		}
		spoil(places)
		list := [][]byte{c.Generator(), word, s, data, locator, same}
		want := slices.Clone(list)
		for i := range want {
			want[i] = bytes.Clone(list[i])
		}
		for i, b := range list { // none shares memory with another one, either
			if !bytes.Equal(b, want[i]) {
				t.Errorf("answer %d is %v, not %v", i, b, want[i])
			}
			spoil(b)
		}
		return want
	}
	before, givenTurned := told(), slices.Clone(turned)
	wantBytes(t, "the word", turned, givenTurned)
	wantBytes(t, "the data", whole, []byte{1, 2, 3})
	if after := told(); !slices.EqualFunc(after, before, bytes.Equal) {
		t.Errorf("what a caller wrote is seen: %v, not %v", after, before)
	}
	if other := code(t, 4, 1).Generator(); !bytes.Equal(other, generatorOf(4, 1)) {
		t.Errorf("another code's generator is % x", other)
	}
}

func TestDataThatAreHandedInAreNotKept(t *testing.T) {
	c, data := code(t, 4, 1), []byte{1, 2, 3}
	word, _ := c.Encode(data)
	want := slices.Clone(word)
	spoil(data)
	wantBytes(t, "Encode", word, want)
	got, places, _ := c.Decode(word, nil)
	spoil(word)
	wantBytes(t, "Decode", got, []byte{1, 2, 3})
	if len(places) != 0 {
		t.Errorf("places: %v", places)
	}
}

// Rows share no memory with what is handed in, nor with one another, in their spare room neither.
func TestRowsAreTheCallers(t *testing.T) {
	data := []byte{1, 2, 3, 4, 5, 6, 7, 8, 9, 10, 11, 12}
	for _, n := range []int{1, 2, 3, 4, 6, 12} {
		want, _ := rs.Deal(data, n)
		for i := range n {
			rows, _ := rs.Deal(data, n)
			spoil(rows[i])
			for k := range rows {
				if k != i && !bytes.Equal(rows[k], want[k]) {
					t.Errorf("%d rows: row %d is seen in row %d", n, i, k)
				}
			}
			all, _ := rs.Interleave(want)
			spoil(all)
			again, _ := rs.Deal(data, n)
			wantRows(t, "Deal", again, want)
		}
	}
	wantBytes(t, "the data", data, []byte{1, 2, 3, 4, 5, 6, 7, 8, 9, 10, 11, 12})
	one := []byte{1, 2, 3}
	all, _ := rs.Interleave([][]byte{one})
	spoil(all)
	wantBytes(t, "the one row", one, []byte{1, 2, 3})
	rows, _ := rs.Deal(one, 1)
	spoil(rows[0])
	wantBytes(t, "the data", one, []byte{1, 2, 3})
}

// An answer's spare room tells nothing that the answer does not, as the parity bytes behind the data.
func TestSpareRoomTellsNothing(t *testing.T) {
	for _, n := range []int{1, 5, 6, 7, 8, 30, 100, 251} {
		c := code(t, 4, 1)
		data := bytes.Repeat([]byte{77}, n)
		word, _ := c.Encode(data)
		word[0], word[n] = 1, 2
		s, _ := c.Syndromes(word)
		got, places, e := c.Decode(word, nil)
		wantError(t, "Decode", e, api.OK)
		locator, _ := c.Locator(word, nil)
		rows, _ := rs.Deal(data, n)
		all, _ := rs.Interleave(rows)
		for what, b := range map[string][]byte{"Generator": c.Generator(), "Encode": word, "Syndromes": s, "Decode": got, "Locator": locator, "Deal": rows[0], "Interleave": all} {
			room := b[len(b):cap(b)]
			wantBytes(t, what+": the spare room", room, make([]byte, len(room)))
		}
		for _, p := range places[len(places):cap(places)] {
			if p != 0 {
				t.Errorf("the spare room of the places tells %d", p)
			}
		}
	}
}
