package hexfile_test

import (
	"math"
	"math/rand"
	"slices"
	"testing"

	"orrery/api"
	"orrery/hexfile"
)

// P2101: none, empty ones, out of order, adjacent, apart.
func TestMerge(t *testing.T) {
	wantMerge(t, nil)
	wantMerge(t, segments{})
	wantMerge(t, segments{at(0), at(7), at(65536), {At: 3, Bytes: []byte{}}})
	wantMerge(t, segments{at(9, 1, 2)}, at(9, 1, 2))
	wantMerge(t, segments{at(9, 1), at(10, 2)}, at(9, 1, 2))
	wantMerge(t, segments{at(10, 2), at(9, 1)}, at(9, 1, 2))
	wantMerge(t, segments{at(9, 1), at(11, 2)}, at(9, 1), at(11, 2))
	wantMerge(t, segments{at(11, 2), at(9, 1)}, at(9, 1), at(11, 2))
	wantMerge(t, segments{at(20, 5), at(0, 1), at(12, 4), at(10, 2, 3), at(1, 9)}, at(0, 1, 9), at(10, 2, 3, 4), at(20, 5))
	wantMerge(t, segments{at(5, 1, 2, 3), at(5), at(6), at(7), at(8)}, at(5, 1, 2, 3)) // an empty one has no place in common
	wantMerge(t, segments{at(5, 1), at(6), at(7, 2)}, at(5, 1), at(7, 2))              // nor does it join
	wantMerge(t, segments{at(65535, 1), at(65536), at(65534, 2)}, at(65534, 2, 1))
	wantMerge(t, segments{at(0, many(65536)...)}, at(0, many(65536)...))
	wantMerge(t, segments{at(300, many(65536)[300:]...), at(0, many(300)...)}, at(0, many(65536)...))
}

// P2101: segments that can not be, empty ones among them.
func TestMergeNoSegment(t *testing.T) {
	for _, place := range []int{-1, 65537, -65536, math.MaxInt, math.MinInt} {
		wantNoMerge(t, segments{at(place)}, api.ErrArg)
		wantNoMerge(t, segments{at(place, 1)}, api.ErrArg)
		wantNoMerge(t, segments{at(1, 5), at(place)}, api.ErrArg)
	}
	wantMerge(t, segments{at(0)})
	wantMerge(t, segments{at(65536)})
	wantNoMerge(t, segments{at(65536, 1)}, api.ErrArg)
	wantNoMerge(t, segments{at(65535, 1, 2)}, api.ErrArg)
	wantMerge(t, segments{at(65535, 1)}, at(65535, 1))
	wantNoMerge(t, segments{at(0, many(65537)...)}, api.ErrArg)
	wantNoMerge(t, segments{at(1, many(65536)...)}, api.ErrArg)
	wantNoMerge(t, segments{at(math.MaxInt, many(9)...)}, api.ErrArg)
	wantNoMerge(t, segments{at(-1, many(9)...)}, api.ErrArg)
	wantNoMerge(t, segments{at(0, make([]byte, 1<<17)...)}, api.ErrArg)
}

// P2101: places in common, and which of the two errors is told.
func TestMergeOver(t *testing.T) {
	wantNoMerge(t, segments{at(5, 1, 2), at(6, 2)}, api.ErrOver)
	wantNoMerge(t, segments{at(6, 2), at(5, 1, 2)}, api.ErrOver)
	wantNoMerge(t, segments{at(5, 1, 2, 3), at(6, 2)}, api.ErrOver)
	wantNoMerge(t, segments{at(5, 1, 2, 3), at(5, 1)}, api.ErrOver)
	wantNoMerge(t, segments{at(5, 1, 2, 3, 4, 5), at(10, 1), at(9, 5)}, api.ErrOver)
	wantNoMerge(t, segments{at(0, many(65536)...), at(65535, 1)}, api.ErrOver)
	wantNoMerge(t, segments{at(0, 1), at(20, 1), at(0, 1)}, api.ErrOver)
	wantNoMerge(t, segments{at(1, 5), at(1, 5), at(65537)}, api.ErrArg)
	wantNoMerge(t, segments{at(-1), at(1, 5), at(1, 5)}, api.ErrArg)
}

// mergedByPlaces: by a map of memory, place by place; false, if two have a place in common.
func mergedByPlaces(l segments) (segments, bool) {
	memory := make([]int, 65537) // one more than the byte, 0 where there is none
	for _, s := range l {
		for i, b := range s.Bytes {
			if memory[s.At+i] > 0 {
				return nil, false
			}
			memory[s.At+i] = int(b) + 1
		}
	}
	var list segments
	for place, b := range memory {
		if b > 0 && (place == 0 || memory[place-1] == 0) {
			list = append(list, at(place))
		}
		if b > 0 {
			last := &list[len(list)-1]
			last.Bytes = append(last.Bytes, byte(b-1))
		}
	}
	return list, true
}

// madeUpSegments: short ones near each other, at both ends of memory and between.
func madeUpSegments(chance *rand.Rand, most, size int) segments {
	first := [...]int{0, 0x1000, 65536 - 2*size}[chance.Intn(3)]
	var l segments
	for range chance.Intn(most) {
		b := make([]byte, chance.Intn(size))
		chance.Read(b)
		l = append(l, at(first+chance.Intn(2*size-len(b)+1), b...))
	}
	return l
}

// P2101: held against a map of memory; and Same, whatever the parts are.
func TestMergedByPlaces(t *testing.T) {
	chance := rand.New(rand.NewSource(2101))
	over := 0
	for range 3000 {
		l := madeUpSegments(chance, 6, 12)
		want, apart := mergedByPlaces(l)
		if !apart {
			over++
			wantNoMerge(t, l, api.ErrOver)
			wantSame(t, l, l, false)
			continue
		}
		wantMerge(t, l, want...)
		wantSame(t, l, want, true)
	}
	if over < 300 || over > 2700 {
		t.Errorf("%d of 3000 are over one another: the chance is too poor", over)
	}
}

func wantSame(t *testing.T, a, b segments, want bool) {
	t.Helper()
	if hexfile.Same(a, b) != want || hexfile.Same(b, a) != want {
		t.Errorf("Same(%v, %v) is not %v", a, b, want)
	}
}

// P2101: Same of ones that are not merged, that differ, that have an error.
func TestSame(t *testing.T) {
	wantSame(t, nil, nil, true)
	wantSame(t, nil, segments{}, true)
	wantSame(t, nil, segments{at(0), at(65536)}, true)
	wantSame(t, nil, segments{at(0, 0)}, false)
	wantSame(t, segments{at(1, 5), at(2, 6)}, segments{at(2, 6), at(7), at(1, 5)}, true)
	wantSame(t, segments{at(1, 5, 6)}, segments{at(2, 6), at(1, 5)}, true)
	wantSame(t, segments{at(1, 5, 6)}, segments{at(1, 5, 7)}, false)
	wantSame(t, segments{at(1, 5, 6)}, segments{at(2, 5, 6)}, false)
	wantSame(t, segments{at(1, 5, 6)}, segments{at(1, 5, 6, 7)}, false)
	wantSame(t, segments{at(1, 5, 6)}, segments{at(1, 5), at(3, 6)}, false)
	wantSame(t, segments{at(1, 5), at(3, 6)}, segments{at(1, 5), at(3, 6), at(5, 7)}, false)
	wantSame(t, segments{at(0, many(65536)...)}, segments{at(9, many(65536)[9:]...), at(0, many(9)...)}, true)
	for _, bad := range []segments{{at(-1)}, {at(65537)}, {at(65536, 1)}, {at(1, 5), at(1, 5)}} {
		wantSame(t, bad, bad, false)
		wantSame(t, bad, slices.Clone(bad), false)
		wantSame(t, bad, nil, false)
		wantSame(t, bad, segments{at(1, 5)}, false)
	}
}

// P2101: very many segments, each of one byte, the last one first.
func TestMergeMany(t *testing.T) {
	whole := many(65536)
	var l segments
	for place := 65535; place >= 0; place-- {
		l = append(l, at(place, whole[place]), at(place))
	}
	wantMergeOfAll(t, l, at(0, whole...))
	var even, want segments
	for place := 0; place < 65536; place += 2 {
		even = append(even, at(65534-place, whole[65534-place]))
		want = append(want, at(place, whole[place]))
	}
	wantMergeOfAll(t, even, want...)
	if _, e := hexfile.Merge(append(l, at(40000, 1))); e != api.ErrOver {
		t.Error(e)
	}
}

// wantMergeOfAll: as wantMerge, without telling tens of thousands of segments.
func wantMergeOfAll(t *testing.T, l segments, want ...api.Segment) {
	t.Helper()
	got, e := hexfile.Merge(l)
	if !sameSegments(got, want) || e != api.OK {
		t.Errorf("%d segments of %d, not %d, %v", len(got), len(l), len(want), e)
	}
}
