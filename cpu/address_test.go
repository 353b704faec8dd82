package cpu_test

import (
	"fmt"
	"testing"

	"orrery/api"
	"orrery/cpu"
	"orrery/mem"
	"orrery/modes"
)

func wantAddress(t *testing.T, what string, m *mem.Memory, r api.Regs, mode int, b []byte, want int, wantCrossed bool) {
	t.Helper()
	at, crossed, e := cpu.Address(m, r, mode, b)
	if at != want || crossed != wantCrossed || e != api.OK {
		t.Errorf("%s: %04x, %v, %v, not %04x, %v", what, at, crossed, e, want, wantCrossed)
	}
}

func wantNoAddress(t *testing.T, what string, m *mem.Memory, r api.Regs, mode int, b []byte, want api.Errno) {
	t.Helper()
	if at, crossed, e := cpu.Address(m, r, mode, b); at != 0 || crossed || e != want {
		t.Errorf("%s: %04x, %v, %v, not %v", what, at, crossed, e, want)
	}
}

// P2503: by hand, with what is read.
func TestAddress(t *testing.T) {
	f := newField(t)
	for at := range 65536 {
		f.bytes[at] = byte(at*3 + at/256*5)
	}
	f.lay(0x40, 0x20, 0x31)   // a pointer to 3120
	f.lay(0x50, 0xf0, 0x31)   // to 31F0
	f.lay(0x60, 0xf0, 0xff)   // to FFF0
	f.lay(0xff, 0x34)         // to 1234, round in zero page
	f.lay(0x00, 0x12)         //
	f.lay(0x20ff, 0x78)       // to 5678, round in page 20
	f.lay(0x2000, 0x56)       //
	f.lay(0x2100, 0x99)       //
	f.lay(0x20fd, 0xcd, 0xab) // to ABCD
	for _, x := range []struct {
		mode    int
		b       []byte
		r       api.Regs
		at      int
		crossed bool
		looks   []int
	}{
		{modes.Zp, []byte{0x00}, api.Regs{X: 1, Y: 1}, 0x00, false, nil},
		{modes.Zp, []byte{0xff}, api.Regs{X: 1, Y: 1}, 0xff, false, nil},
		{modes.Zpx, []byte{0x80}, api.Regs{X: 0x7f, Y: 1}, 0xff, false, nil},
		{modes.Zpx, []byte{0x80}, api.Regs{X: 0x80, Y: 1}, 0x00, false, nil},
		{modes.Zpx, []byte{0xff}, api.Regs{X: 0xff, Y: 1}, 0xfe, false, nil},
		{modes.Zpy, []byte{0x80}, api.Regs{X: 1, Y: 0x7f}, 0xff, false, nil},
		{modes.Zpy, []byte{0x80}, api.Regs{X: 1, Y: 0x80}, 0x00, false, nil},
		{modes.Zpy, []byte{0xff}, api.Regs{X: 1, Y: 0xff}, 0xfe, false, nil},
		{modes.Abs, []byte{0x34, 0x12}, api.Regs{X: 1, Y: 1}, 0x1234, false, nil},
		{modes.Abs, []byte{0xff, 0xff}, api.Regs{X: 1, Y: 1}, 0xffff, false, nil},
		{modes.Abx, []byte{0xff, 0x10}, api.Regs{X: 0, Y: 1}, 0x10ff, false, nil},
		{modes.Abx, []byte{0xff, 0x10}, api.Regs{X: 1}, 0x1100, true, nil},
		{modes.Abx, []byte{0x01, 0x10}, api.Regs{X: 0xfe}, 0x10ff, false, nil},
		{modes.Abx, []byte{0x01, 0x10}, api.Regs{X: 0xff}, 0x1100, true, nil},
		{modes.Abx, []byte{0x00, 0x10}, api.Regs{X: 0xff}, 0x10ff, false, nil},
		{modes.Abx, []byte{0xff, 0xff}, api.Regs{X: 0xff}, 0x00fe, true, nil},
		{modes.Abx, []byte{0x00, 0xff}, api.Regs{X: 0xff}, 0xffff, false, nil},
		{modes.Aby, []byte{0xff, 0x10}, api.Regs{X: 1, Y: 0}, 0x10ff, false, nil},
		{modes.Aby, []byte{0xff, 0x10}, api.Regs{Y: 1}, 0x1100, true, nil},
		{modes.Aby, []byte{0xff, 0xff}, api.Regs{Y: 1}, 0x0000, true, nil},
		{modes.Inx, []byte{0x3f}, api.Regs{X: 1, Y: 0xff}, 0x3120, false, []int{0x40, 0x41}},
		{modes.Inx, []byte{0xf0}, api.Regs{X: 0x50}, 0x3120, false, []int{0x40, 0x41}},
		{modes.Inx, []byte{0xf0}, api.Regs{X: 0x0f}, 0x1234, false, []int{0xff, 0x00}},
		{modes.Inx, []byte{0xff}, api.Regs{X: 0}, 0x1234, false, []int{0xff, 0x00}},
		{modes.Iny, []byte{0x40}, api.Regs{X: 0xff, Y: 0xdf}, 0x31ff, false, []int{0x40, 0x41}},
		{modes.Iny, []byte{0x40}, api.Regs{Y: 0xe0}, 0x3200, true, []int{0x40, 0x41}},
		{modes.Iny, []byte{0x50}, api.Regs{Y: 0x0f}, 0x31ff, false, []int{0x50, 0x51}},
		{modes.Iny, []byte{0x50}, api.Regs{Y: 0x10}, 0x3200, true, []int{0x50, 0x51}},
		{modes.Iny, []byte{0x60}, api.Regs{Y: 0x10}, 0x0000, true, []int{0x60, 0x61}},
		{modes.Iny, []byte{0xff}, api.Regs{Y: 1}, 0x1235, false, []int{0xff, 0x00}},
		{modes.Ind, []byte{0xff, 0x20}, api.Regs{X: 1, Y: 1}, 0x5678, false, []int{0x20ff, 0x2000}},
		{modes.Ind, []byte{0xfd, 0x20}, api.Regs{X: 1, Y: 1}, 0xabcd, false, []int{0x20fd, 0x20fe}},
		{modes.Ind, []byte{0xff, 0x00}, api.Regs{}, 0x1234, false, []int{0xff, 0x00}},
		{modes.Rel, []byte{0x00}, api.Regs{PC: 0x1000}, 0x1002, false, nil},
		{modes.Rel, []byte{0x7f}, api.Regs{PC: 0x1000}, 0x1081, false, nil},
		{modes.Rel, []byte{0x80}, api.Regs{PC: 0x1000}, 0x0f82, false, nil},
		{modes.Rel, []byte{0xff}, api.Regs{PC: 0x1000}, 0x1001, false, nil},
		{modes.Rel, []byte{0xfe}, api.Regs{PC: 0x1000}, 0x1000, false, nil},
		{modes.Rel, []byte{0x00}, api.Regs{PC: 0xffff}, 0x0001, false, nil},
		{modes.Rel, []byte{0xff}, api.Regs{PC: 0xfffe}, 0xffff, false, nil},
		{modes.Rel, []byte{0x80}, api.Regs{PC: 0x0000}, 0xff82, false, nil},
		{modes.Rel, []byte{0x7f}, api.Regs{PC: 0xfff0}, 0x0071, false, nil},
	} {
		what := fmt.Sprintf("%s % x %+v", modes.Name(x.mode), x.b, x.r)
		wantAddress(t, what, f.memory, x.r, x.mode, x.b, x.at, x.crossed)
		var looks []int
		for _, a := range f.told() {
			is(t, what+": nothing is written", a.write, false)
			looks = append(looks, a.at)
		}
		is(t, what+": what is read", looks, x.looks)
	}
}

// P2503: ErrNil, ErrMode, ErrArg, in this order; nothing is read then.
func TestAddressErrors(t *testing.T) {
	f := newField(t)
	none := []int{modes.Imp, modes.Acc, modes.Imm, -1, 13, 14, 256, -1 << 63, 1<<63 - 1}
	lists := [][]byte{nil, {}, {1}, {1, 2}, {1, 2, 3}, make([]byte, 256)}
	for mode := -3; mode < 20; mode++ {
		for _, b := range lists {
			wantNoAddress(t, "no memory", nil, api.Regs{}, mode, b, api.ErrNil)
		}
	}
	for _, mode := range none {
		for _, b := range lists {
			wantNoAddress(t, "no such way", f.memory, api.Regs{}, mode, b, api.ErrMode)
		}
	}
	for way, n := range size {
		mode := modeOf[way]
		if mode == modes.Imp || mode == modes.Acc || mode == modes.Imm {
			continue
		}
		for _, b := range lists {
			if len(b) != n-1 {
				wantNoAddress(t, way, f.memory, api.Regs{PC: 65535}, mode, b, api.ErrArg)
			}
		}
	}
	is(t, "nothing is read", len(f.told()), 0)
}

// P2503: ErrParity of each place that is read, and of no other; 255 of nothing.
func TestAddressOfWhatIsLost(t *testing.T) {
	m := made(t, mem.Region{From: 0, To: 256, Kind: mem.Ram}, mem.Region{From: 0x2000, To: 0x2100, Kind: mem.Rom})
	for _, x := range []struct {
		mode  int
		b     []byte
		r     api.Regs
		looks []int
	}{
		{modes.Inx, []byte{0x10}, api.Regs{X: 5}, []int{0x15, 0x16}},
		{modes.Inx, []byte{0xf0}, api.Regs{X: 15}, []int{0xff, 0x00}},
		{modes.Iny, []byte{0x30}, api.Regs{Y: 5}, []int{0x30, 0x31}},
		{modes.Iny, []byte{0xff}, api.Regs{Y: 5}, []int{0xff, 0x00}},
		{modes.Ind, []byte{0x10, 0x20}, api.Regs{}, []int{0x2010, 0x2011}},
		{modes.Ind, []byte{0xff, 0x20}, api.Regs{}, []int{0x20ff, 0x2000}},
		{modes.Zp, []byte{0x10}, api.Regs{}, nil},
		{modes.Zpx, []byte{0x10}, api.Regs{X: 5}, nil},
		{modes.Abs, []byte{0x10, 0x20}, api.Regs{}, nil},
		{modes.Abx, []byte{0x10, 0x20}, api.Regs{X: 5}, nil},
		{modes.Rel, []byte{0x10}, api.Regs{PC: 0x2000}, nil},
	} {
		what := fmt.Sprintf("%s % x %+v", modes.Name(x.mode), x.b, x.r)
		at, crossed, e := cpu.Address(m, x.r, x.mode, x.b)
		is(t, what, e, api.OK)
		for _, spoilt := range x.looks {
			spoil(t, m, spoilt)
			wantNoAddress(t, what, m, x.r, x.mode, x.b, api.ErrParity)
			lay(t, m, spoilt, 0)
		}
		for place := range 256 {
			spoil(t, m, place)
			spoil(t, m, place+0x2000)
		}
		for _, place := range x.looks {
			lay(t, m, place, 0)
		}
		wantAddress(t, what, m, x.r, x.mode, x.b, at, crossed)
		lay(t, m, 0, make([]byte, 256)...)
		lay(t, m, 0x2000, make([]byte, 256)...)
	}
	wantAddress(t, "a pointer of nothing", m, api.Regs{}, modes.Ind, []byte{0x00, 0x40}, 0xffff, false)
	spoil(t, m, 0x20)
	_, before := m.Counts()
	wantNoAddress(t, "the lower byte", m, api.Regs{}, modes.Iny, []byte{0x20}, api.ErrParity)
	_, behind := m.Counts()
	is(t, "reads that are lost", behind-before, 1)
}

// P2503: one turned bit is mended.
func TestAddressMends(t *testing.T) {
	m := allRam(t)
	lay(t, m, 0x40, 0x34, 0x12)
	for bit := range 13 {
		is(t, "Turn", m.Turn(0x40, bit), api.OK)
		is(t, "Turn", m.Turn(0x41, 12-bit), api.OK)
		wantAddress(t, "mended", m, api.Regs{Y: 1}, modes.Iny, []byte{0x40}, 0x1235, false)
	}
	mended, lost := m.Counts()
	is(t, "Counts", []int{mended, lost}, []int{26, 0})
}
