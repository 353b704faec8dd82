package mem_test

import (
	"fmt"
	"testing"

	"orrery/api"
	"orrery/mem"
)

// wantBytes: what is peeked from a place on.
func wantBytes(t *testing.T, what string, m *mem.Memory, place int, list ...byte) {
	t.Helper()
	for i, b := range list {
		wantPeek(t, what, m, place+i, b)
	}
}

// loadable: RAM and ROM that are adjacent, nothing, a port, RAM at the end.
func loadable(t testing.TB) *mem.Memory {
	return made(t, region{0, 100, ram}, region{100, 200, rom}, region{300, 310, port}, region{310, 320, ram}, region{65000, 65536, rom})
}

// P2304: nothing, empty ones wherever they stand, one byte, many.
func TestLoad(t *testing.T) {
	m := loadable(t)
	for _, l := range []segments{
		nil, {}, {at(0)}, {at(65536)}, {at(65535)}, {at(250)}, {at(305)}, {at(0), at(65536), at(250), at(300)},
	} {
		want(t, fmt.Sprint("Load of ", l), m.Load(l), api.OK)
	}
	if !m.Same(loadable(t)) {
		t.Error("a load of nothing changes a cell")
	}
	want(t, "Load", m.Load(segments{at(0, 1), at(98, 2, 3, 4, 5), at(199, 6), at(310, 7, 8), at(65536)}), api.OK)
	wantBytes(t, "loaded", m, 0, 1, 0)
	wantBytes(t, "loaded", m, 97, 0, 2, 3, 4, 5, 0)
	wantBytes(t, "loaded", m, 198, 0, 6)
	wantBytes(t, "loaded", m, 310, 7, 8, 0)
	for place, b := range map[int]byte{0: 1, 99: 3, 100: 4, 199: 6, 311: 8} {
		wantCell(t, "loaded", m, place, bitsOf(b))
	}
	want(t, "Load", m.Load(segments{at(65535, 9)}), api.OK)
	want(t, "Load", m.Load(segments{at(65532, 1, 2, 3)}), api.OK)
	wantBytes(t, "loaded", m, 65531, 0, 1, 2, 3, 9)
	wantCounts(t, "loaded", m, 0, 0)
}

// P2304: the whole memory at once, over the borders of all its regions.
func TestLoadAll(t *testing.T) {
	m := made(t, region{100, 65535, rom}, region{0, 100, ram}, region{65535, 65536, ram})
	whole := make([]byte, 65536)
	for place := range whole {
		whole[place] = byte(place ^ place>>8)
	}
	want(t, "Load", m.Load(segments{{At: 0, Bytes: whole}}), api.OK)
	wantBytes(t, "whole", m, 0, whole...)
	want(t, "one more", m.Load(segments{{At: 0, Bytes: append(whole, 1)}}), api.ErrArg)
	want(t, "one from 1 on", m.Load(segments{{At: 1, Bytes: whole[:65536]}}), api.ErrArg)
}

// P2304: of segments with a place in common the later one stands.
func TestLoadLater(t *testing.T) {
	m := loadable(t)
	want(t, "Load", m.Load(segments{at(10, 1, 2, 3), at(11, 4), at(9, 5, 6), at(12, 7, 8), at(12), at(12, 9)}), api.OK)
	wantBytes(t, "later", m, 8, 0, 5, 6, 4, 9, 8, 0)
	want(t, "Load", m.Load(segments{at(10, 0), at(99, 1, 1), at(99, 2, 2)}), api.OK)
	wantBytes(t, "later", m, 8, 0, 5, 0, 4, 9, 8, 0)
	wantBytes(t, "later", m, 99, 2, 2)
}

// P2304: what was turned ahead of a load is no more.
func TestLoadOverTurned(t *testing.T) {
	m := loadable(t)
	turn(t, m, 99, 3)
	turn(t, m, 100, 3, 7)
	turn(t, m, 101, 12)
	want(t, "Load", m.Load(segments{at(99, 1, 2)}), api.OK)
	wantCell(t, "loaded", m, 99, bitsOf(1))
	wantCell(t, "loaded", m, 100, bitsOf(2))
	wantCell(t, "beside", m, 101, bitsOf(0)^1<<12)
	wantCounts(t, "loaded", m, 0, 0)
}

// P2304: which error, and that nothing is laid then, be the segment that has it first, last or between.
func TestLoadErrors(t *testing.T) {
	long := make([]byte, 65537)
	over := segments{
		at(-1), at(-1, 1), at(-1, 1, 2), at(-65536, 1), at(-1<<63, 1), at(-1 << 63), at(65537), at(1 << 32), at(1<<63 - 1), at(1<<63-1, 1),
		at(65536, 1), at(65535, 1, 2), at(65530, 1, 2, 3, 4, 5, 6, 7), {At: 0, Bytes: long}, {At: -1, Bytes: long},
	}
	nowhere := segments{
		at(200, 1), at(199, 1, 2), at(299, 1), at(299, 1, 2), at(300, 1), at(305, 1), at(309, 1, 2), at(320, 1), at(319, 1, 2), at(64999, 1, 2),
		{At: 0, Bytes: long[:65536]}, {At: 150, Bytes: long[:200]}, {At: 310, Bytes: long[:11]},
	}
	good := segments{at(10, 1, 2), at(100, 3), at(65535, 4)}
	for _, c := range []struct {
		list segments
		want api.Errno
	}{{over, api.ErrArg}, {nowhere, api.ErrBus}} {
		for _, bad := range c.list {
			wantNothingLaid(t, segments{bad}, c.want)
			wantNothingLaid(t, append(segments{bad}, good...), c.want)
			wantNothingLaid(t, append(good[:2:2], bad, good[2]), c.want)
			wantNothingLaid(t, append(good[:3:3], bad), c.want)
		}
	}
	for _, first := range over {
		for _, second := range nowhere {
			wantNothingLaid(t, segments{first, second}, api.ErrArg)
			wantNothingLaid(t, segments{second, first}, api.ErrArg)
		}
	}
}

func wantNothingLaid(t *testing.T, l segments, want api.Errno) {
	t.Helper()
	m, asked := loadable(t), 0
	m.Attach(300, func(int) byte { asked++; return 1 }, func(int, byte) { asked++ })
	if e := m.Load(l); e != want || asked > 0 {
		t.Errorf("Load of %d bytes at %d, one of %d: %v, asked %d times, not %v", len(l[0].Bytes), l[0].At, len(l), e, asked, want)
	}
	if !m.Same(loadable(t)) {
		t.Errorf("Load of %d bytes at %d, one of %d, lays some", len(l[0].Bytes), l[0].At, len(l))
	}
}
