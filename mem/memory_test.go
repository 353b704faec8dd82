package mem_test

import (
	"reflect"
	"slices"
	"sync"
	"testing"

	"orrery/api"
	"orrery/mem"
)

// roomy: a copy with spare room behind it, which has marks of its own.
func roomy[T any](list []T, mark T) []T {
	return append(append(make([]T, 0, len(list)+8), list...), slices.Repeat([]T{mark}, 8)...)[:len(list)]
}

// intact: what roomy made, and its spare room, are as they were.
func intact[T any](t *testing.T, what string, given, want []T, mark T) {
	t.Helper()
	if whole := given[:len(want)+8]; !reflect.DeepEqual(whole, append(slices.Clone(want), slices.Repeat([]T{mark}, 8)...)) {
		t.Errorf("%s: what was handed in is %v", what, whole)
	}
}

// scribble: over a list and its spare room.
func scribble[T any](list []T, mark T) {
	list = list[:cap(list)]
	for i := range list {
		list[i] = mark
	}
}

// Rule 4: regions that are handed in stay as they were, with their order, and are not kept.
func TestRegionsStay(t *testing.T) {
	mark := region{7, 7, 7}
	for _, l := range [][]region{
		nil,
		{{512, 516, port}, {0, 256, ram}, {256, 512, rom}},
		{{0, 256, ram}, {256, 512, rom}},
		{{5, 9, ram}, {0, 5, ram}, {8, 20, rom}},
		{{5, 9, ram}, {0, 5, ram}, {8, 7, rom}},
		{{9, 20, ram}, {0, 5, 4}},
		append(many(65)[40:], many(65)[:40]...),
	} {
		given := roomy(l, mark)
		m, _ := mem.New(given)
		intact(t, "New", given, l, mark)
		if m == nil {
			continue
		}
		before := m.Regions()
		scribble(given, mark)
		if !slices.Equal(m.Regions(), before) || m.Kind(0) != ram && len(l) > 0 {
			t.Errorf("what was handed in is kept: %v", m.Regions())
		}
	}
}

// Rule 4: the regions that are handed out are the caller's.
func TestRegionsAreTheCallers(t *testing.T) {
	m := example(t)
	before, other := m.Regions(), m.Regions()
	_ = append(m.Regions(), region{7, 7, 7})
	scribble(m.Regions(), region{0, 65536, rom})
	if !slices.Equal(m.Regions(), before) || !slices.Equal(other, before) || m.Kind(0) != ram || m.Kind(600) != 0 {
		t.Errorf("what a caller wrote is seen: %v", m.Regions())
	}
	if !m.Same(example(t)) {
		t.Error("another memory than ahead")
	}
}

// Rule 4: segments that are handed in stay as they were, and are not kept.
func TestSegmentsStay(t *testing.T) {
	for _, wrong := range []api.Segment{at(20, []byte{}...), at(-1, 1), at(600, 1)} {
		m := example(t)
		wanted := segments{at(9, 4, 5), at(300, 8, 7), at(5, 1, 2, 3, 9, 9), wrong}
		given := roomy(slices.Clone(wanted), at(77, 77))
		for i := range given {
			given[i].Bytes = roomy(wanted[i].Bytes, 66)
		}
		e := m.Load(given)
		intact(t, "Load", given, wanted, at(77, 77))
		for i := range given {
			intact(t, "Load", given[i].Bytes, wanted[i].Bytes, 66)
			scribble(given[i].Bytes, 99)
		}
		scribble(given, at(0, 99))
		if e == api.OK {
			wantBytes(t, "loaded", m, 5, 1, 2, 3, 9, 9, 5, 0)
			wantBytes(t, "loaded", m, 300, 8, 7, 0)
		} else if !m.Same(example(t)) {
			t.Error("laid beside an error")
		}
	}
}

// Rule 4: a word that Cell told hangs no longer on the cell.
func TestWordsAreTheCallers(t *testing.T) {
	m := example(t)
	lay(t, m, 5, 7)
	w, _ := m.Cell(5)
	want(t, "Write", m.Write(5, 8), api.OK)
	if w != wordOf(bitsOf(7)) {
		t.Error(w)
	}
	w.Data = 9
	wantCell(t, "own", m, 5, bitsOf(8))
}

// Rule 5: two memories share nothing, be they made of one list.
func TestMemoriesShareNothing(t *testing.T) {
	l := []region{{0, 256, ram}, {256, 512, rom}, {512, 516, port}}
	m, o := made(t, l...), made(t, l...)
	want(t, "Write", m.Write(5, 7), api.OK)
	lay(t, m, 300, 8)
	turn(t, m, 5, 2)
	turn(t, m, 300, 2, 3)
	m.Scrub()
	if !o.Same(example(t)) {
		t.Error("a cell of one is seen in the other")
	}
	wantRead(t, "the other", o, 5, 0)
	wantCounts(t, "the other", o, 0, 0)
	wantCounts(t, "the one", m, 1, 1)
}

// Rule 5: the same each time, whoever has memories of its own beside.
func TestSameEachTime(t *testing.T) {
	whole := func(n int) []any {
		m, e := mem.New(many(10 + n))
		a := m.Attach(6, func(reg int) byte { return byte(reg + n) }, nil)
		var told []any
		for place := range 100 {
			w := m.Write(place, byte(place*n))
			u := m.Turn(place, (place+n)%13)
			v := m.Turn(place, (place*n)%13)
			b, r := m.Read(place)
			p, q := m.Peek(place)
			told = append(told, w, u, v, b, r, p, q)
		}
		x, y := m.Scrub()
		return append(told, e, a, x, y, m.Regions())
	}
	var before [][]any
	for n := range 8 {
		before = append(before, whole(n))
	}
	var all sync.WaitGroup
	for range 4 {
		all.Go(func() {
			for n := 7; n >= 0; n-- {
				if got := whole(n); !reflect.DeepEqual(got, before[n]) {
					t.Errorf("%v, not %v", got, before[n])
				}
			}
		})
	}
	all.Wait()
}
