package mem_test

import (
	"testing"

	"orrery/api"
	"orrery/ecc"
	"orrery/mem"
)

// wantSame: either way round.
func wantSame(t *testing.T, what string, a, b *mem.Memory, want bool) {
	t.Helper()
	if a.Same(b) != want || b.Same(a) != want {
		t.Errorf("%s: Same: %v, %v, not %v", what, a.Same(b), b.Same(a), want)
	}
	if !a.Same(a) || !b.Same(b) {
		t.Errorf("%s: one is not the same as itself", what)
	}
}

// P2306: the regions.
func TestSameRegions(t *testing.T) {
	l := []region{{0, 10, ram}, {10, 20, rom}, {30, 40, port}}
	m := made(t, l...)
	wantSame(t, "the same ones", m, made(t, l...), true)
	wantSame(t, "in another order", m, made(t, l[2], l[0], l[1]), true)
	for _, others := range [][]region{
		nil,
		l[:2],
		l[1:],
		{{0, 11, ram}, {11, 20, rom}, {30, 40, port}},
		{{0, 10, rom}, {10, 20, rom}, {30, 40, port}},
		{{0, 10, ram}, {10, 20, ram}, {30, 40, port}},
		{{0, 10, ram}, {10, 20, rom}, {30, 40, ram}},
		{{1, 10, ram}, {10, 20, rom}, {30, 40, port}},
		{{0, 10, ram}, {10, 20, rom}, {30, 41, port}},
		{{0, 10, ram}, {10, 20, rom}, {30, 35, port}, {35, 40, port}},
		{{0, 5, ram}, {5, 10, ram}, {10, 20, rom}, {30, 40, port}},
		{{0, 10, ram}, {10, 20, rom}, {30, 40, port}, {65535, 65536, port}},
	} {
		wantSame(t, "other regions", m, made(t, others...), false)
	}
	wantSame(t, "none", made(t), made(t), true)
	wantSame(t, "the whole", made(t, region{0, 65536, ram}), made(t, region{0, 65536, ram}), true)
}

// P2306: the cells, each bit of each of them; attachments and counts are none.
func TestSameCells(t *testing.T) {
	m, o := loadable(t), loadable(t)
	for _, place := range []int{0, 57, 99, 100, 199, 310, 319, 65000, 65535} {
		for bit := range 13 {
			turn(t, m, place, bit)
			wantSame(t, "a turned bit", m, o, false)
			turn(t, o, place, bit)
			wantSame(t, "the same turned bit", m, o, true)
			wantSame(t, "the same byte", m, loadable(t), false)
			turn(t, m, place, bit)
			turn(t, o, place, bit)
		}
		wantSame(t, "turned back", m, o, true)
		lay(t, m, place, 1)
		wantSame(t, "another byte", m, o, false)
		lay(t, o, place, 1)
		wantSame(t, "the same byte", m, o, true)
	}
	turn(t, m, 5, 3)
	wantRead(t, "mended", m, 5, 0)
	wantSame(t, "counts", m, o, true)
	want(t, "Attach", m.Attach(300, func(int) byte { return 1 }, nil), api.OK)
	want(t, "Write", m.Write(300, 7), api.OK)
	wantRead(t, "attached", m, 300, 1)
	wantSame(t, "what is attached", m, o, true)
}

// Each call of a nil memory, ahead of all other errors.
func TestNilMemory(t *testing.T) {
	var m *mem.Memory
	get, put := func(int) byte { t.Error("asked"); return 1 }, func(int, byte) { t.Error("asked") }
	for _, place := range append([]int{0, 512, 65535}, noPlaces...) {
		if m.Kind(place) != 0 {
			t.Errorf("Kind(%d): %d", place, m.Kind(place))
		}
		wantNoRead(t, "nil", m, place, api.ErrNil)
		wantNoPeek(t, "nil", m, place, api.ErrNil)
		wantNoCell(t, "nil", m, place, api.ErrNil)
		want(t, "Attach", m.Attach(place, get, put), api.ErrNil)
		want(t, "Attach", m.Attach(place, nil, nil), api.ErrNil)
		want(t, "Write", m.Write(place, 3), api.ErrNil)
		want(t, "Load", m.Load(segments{at(place, 3)}), api.ErrNil)
		for _, bit := range append([]int{0, 12}, noBits...) {
			want(t, "Turn", m.Turn(place, bit), api.ErrNil)
		}
		want(t, "Lay", m.Lay(place, ecc.Word{}), api.ErrNil)
		want(t, "Lay", m.Lay(place, ecc.Word{Data: 256, Check: 255}), api.ErrNil)
	}
	want(t, "Load", m.Load(nil), api.ErrNil)
	if l := m.Regions(); len(l) != 0 {
		t.Error(l)
	}
	wantScrub(t, "nil", m, 0, 0)
	wantCounts(t, "nil", m, 0, 0)
	if !m.Same(nil) || m.Same(made(t)) || made(t).Same(m) || example(t).Same(nil) || m.Same(example(t)) {
		t.Error("Same of nil")
	}
}
