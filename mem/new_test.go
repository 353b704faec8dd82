package mem_test

import (
	"math/rand"
	"slices"
	"testing"

	"orrery/api"
	"orrery/mem"
)

func wantNoNew(t *testing.T, what string, want api.Errno, list ...region) {
	t.Helper()
	if m, e := mem.New(list); m != nil || e != want {
		t.Errorf("New of %s: %v, %v, not %v", what, m != nil, e, want)
	}
}

// many: so many regions with a place between any two.
func many(n int) []region {
	list := make([]region, n)
	for i := range list {
		list[i] = region{3 * i, 3*i + 2, 1 + i%3}
	}
	return list
}

// P2301: regions in any order, and what is told of them.
func TestNewAndRegions(t *testing.T) {
	for _, l := range [][]region{
		nil,
		{},
		{{0, 65536, ram}},
		{{0, 65536, rom}},
		{{0, 65536, port}},
		{{0, 1, ram}},
		{{65535, 65536, rom}},
		{{5, 6, port}, {0, 1, ram}, {65535, 65536, rom}, {1, 2, ram}},
		{{512, 516, port}, {256, 512, rom}, {0, 256, ram}},
		{{0, 5, ram}, {5, 9, ram}, {9, 10, ram}},
		many(63),
		many(64),
	} {
		rising := slices.Clone(l)
		slices.SortFunc(rising, func(a, b region) int { return a.From - b.From })
		for range 3 {
			m := made(t, l...)
			if got := m.Regions(); !slices.Equal(got, rising) {
				t.Errorf("Regions of %v: %v", l, got)
			}
			rand.New(rand.NewSource(int64(len(l)))).Shuffle(len(l), func(i, k int) { l[i], l[k] = l[k], l[i] })
		}
	}
}

// P2301: what a region can not be.
func TestNewErrArg(t *testing.T) {
	for _, r := range []region{
		{-1, 5, ram}, {-65536, 5, rom}, {-1 << 63, 5, port}, {-1, 65536, ram}, {-5, -1, ram},
		{0, 65537, ram}, {65535, 65537, rom}, {65536, 65537, port}, {0, 1<<63 - 1, ram}, {0, 1 << 32, ram},
		{5, 5, ram}, {0, 0, ram}, {65536, 65536, ram}, {5, 4, rom}, {5, 0, port}, {1, -1 << 63, ram}, {1<<63 - 1, -1 << 63, ram},
		{0, 5, -1}, {0, 5, 0}, {0, 5, 4}, {0, 5, 257}, {0, 5, 1<<32 + 1}, {0, 5, -1 << 63}, {0, 5, 1<<63 - 1},
	} {
		wantNoNew(t, "one that is none", api.ErrArg, r)
		wantNoNew(t, "one that is none behind one", api.ErrArg, region{100, 200, ram}, r)
		wantNoNew(t, "one that is none ahead of one", api.ErrArg, r, region{100, 200, ram})
		wantNoNew(t, "one that is none behind two with a place in common", api.ErrArg, region{100, 200, ram}, region{100, 200, ram}, r)
		wantNoNew(t, "one that is none behind too many", api.ErrArg, append(many(65), r)...)
		wantNoNew(t, "one that is none ahead of too many", api.ErrArg, append([]region{r}, many(65)...)...)
	}
	for kind := 1; kind <= 3; kind++ {
		made(t, region{0, 5, kind})
	}
}

// P2301: two with a place in common.
func TestNewErrOver(t *testing.T) {
	for _, l := range [][]region{
		{{0, 5, ram}, {4, 9, ram}},
		{{4, 9, ram}, {0, 5, rom}},
		{{0, 5, ram}, {0, 5, ram}},
		{{0, 9, ram}, {4, 5, port}},
		{{4, 5, rom}, {0, 9, port}},
		{{0, 5, ram}, {0, 1, ram}},
		{{0, 5, ram}, {4, 5, ram}},
		{{0, 65536, ram}, {65535, 65536, rom}},
		{{0, 65536, port}, {0, 1, port}},
		{{20, 30, ram}, {0, 9, ram}, {9, 21, ram}},
		{{0, 100, ram}, {1, 2, ram}, {200, 300, ram}},
		append(many(65), region{6, 7, ram}),
		append([]region{{7, 8, ram}}, many(70)...),
		slices.Repeat([]region{{3, 4, port}}, 66),
	} {
		wantNoNew(t, "two with a place in common", api.ErrOver, l...)
	}
}

// P2301: more than 64, adjacent or not.
func TestNewErrBig(t *testing.T) {
	wantNoNew(t, "65", api.ErrBig, many(65)...)
	wantNoNew(t, "66", api.ErrBig, many(66)...)
	wantNoNew(t, "20000", api.ErrBig, many(20000)...)
	var each []region
	for place := range 65536 {
		each = append(each, region{place, place + 1, ram})
	}
	wantNoNew(t, "each place alone", api.ErrBig, each...)
	wantNoNew(t, "65 adjacent ones", api.ErrBig, each[:65]...)
	made(t, each[:64]...)
	wantNoNew(t, "each place alone, and one once more", api.ErrOver, append(each, region{9, 10, ram})...)
}

// P2301: the kind of a place's region, at both its ends and between.
func TestKind(t *testing.T) {
	m := made(t, region{65530, 65536, rom}, region{10, 20, port}, region{0, 5, ram}, region{20, 21, rom}, region{21, 30, ram})
	for _, c := range []struct{ from, to, kind int }{
		{0, 4, ram}, {5, 9, 0}, {10, 19, port}, {20, 20, rom}, {21, 29, ram}, {30, 65529, 0}, {65530, 65535, rom},
	} {
		for place := c.from; place <= c.to; place++ {
			if got := m.Kind(place); got != c.kind {
				t.Fatalf("Kind(%d): %d, not %d", place, got, c.kind)
			}
		}
	}
	whole, none := made(t, region{0, 65536, port}), made(t)
	for _, place := range noPlaces {
		if m.Kind(place) != 0 || whole.Kind(place) != 0 {
			t.Errorf("Kind(%d): %d, %d", place, m.Kind(place), whole.Kind(place))
		}
	}
	for _, place := range []int{0, 1, 32768, 65535} {
		if whole.Kind(place) != port || none.Kind(place) != 0 {
			t.Errorf("Kind(%d): %d, %d", place, whole.Kind(place), none.Kind(place))
		}
	}
}

// P2301: ahead of the first write all cells are those of 0, nothing is attached, nothing was counted.
func TestNewMemory(t *testing.T) {
	m := made(t, region{0, 300, ram}, region{1000, 1010, port}, region{65000, 65536, rom})
	wantCounts(t, "new", m, 0, 0)
	for place := range 65536 {
		switch kind := m.Kind(place); kind {
		case ram, rom:
			wantCell(t, "new", m, place, bitsOf(0))
			wantPeek(t, "new", m, place, 0)
			wantRead(t, "new", m, place, 0)
		case port:
			wantRead(t, "new", m, place, 255)
			want(t, "Write", m.Write(place, 7), api.OK)
			wantRead(t, "new", m, place, 255)
		default:
			wantNoRead(t, "new", m, place, api.ErrBus)
		}
	}
	wantScrub(t, "new", m, 0, 0)
	wantCounts(t, "new", m, 0, 0)
}

// P2301: the whole memory as one region.
func TestWholeMemory(t *testing.T) {
	m := made(t, region{0, 65536, ram})
	for _, place := range []int{0, 1, 255, 256, 32767, 32768, 65534, 65535} {
		want(t, "Write", m.Write(place, byte(place)^0x55), api.OK)
	}
	for _, place := range []int{0, 1, 255, 256, 32767, 32768, 65534, 65535} {
		wantRead(t, "whole", m, place, byte(place)^0x55)
		turn(t, m, place, 12)
	}
	wantScrub(t, "whole", m, 8, 0)
	m = made(t, region{0, 65536, port})
	var told []int
	want(t, "Attach", m.Attach(0, func(reg int) byte { told = append(told, reg); return byte(reg) }, nil), api.OK)
	wantRead(t, "whole", m, 65535, 255)
	wantRead(t, "whole", m, 0, 0)
	if !slices.Equal(told, []int{65535, 0}) {
		t.Error(told)
	}
}
