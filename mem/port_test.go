package mem_test

import (
	"fmt"
	"slices"
	"testing"

	"orrery/api"
	"orrery/mem"
)

// device: what it was asked, in order; each register reads as it is numbered, and the device's own number.
type device struct {
	number int
	asked  []string
}

func (d *device) get(reg int) byte {
	d.asked = append(d.asked, fmt.Sprint("get ", reg))
	return byte(100*d.number + reg)
}

func (d *device) put(reg int, b byte) {
	d.asked = append(d.asked, fmt.Sprint("put ", reg, " ", b))
}

func wantAsked(t *testing.T, what string, d *device, list ...string) {
	t.Helper()
	if !slices.Equal(d.asked, list) {
		t.Errorf("%s: asked %q, not %q", what, d.asked, list)
	}
	d.asked = nil
}

// ports: RAM with ports around and within it, adjacent ones too.
func ports(t testing.TB) *mem.Memory {
	return made(t, region{0, 4, port}, region{4, 100, ram}, region{100, 116, port}, region{116, 117, port}, region{200, 300, rom}, region{65520, 65536, port})
}

func attach(t testing.TB, m *mem.Memory, from, number int) *device {
	t.Helper()
	d := &device{number: number}
	if e := m.Attach(from, d.get, d.put); e != api.OK {
		t.Fatalf("Attach(%d): %v", from, e)
	}
	return d
}

// P2302, P2303, P2307: each place of a port is a register of what is attached there, and of nothing else; it is asked once.
func TestAttach(t *testing.T) {
	m := ports(t)
	starts := []int{0, 100, 116, 65520}
	var devices []*device
	for i, from := range starts {
		devices = append(devices, attach(t, m, from, i))
	}
	for i, size := range []int{4, 16, 1, 16} {
		for reg := range size {
			wantRead(t, "attached", m, starts[i]+reg, byte(100*i+reg))
			wantAsked(t, "Read", devices[i], fmt.Sprint("get ", reg))
			want(t, "Write", m.Write(starts[i]+reg, byte(reg+7)), api.OK)
			wantAsked(t, "Write", devices[i], fmt.Sprint("put ", reg, " ", reg+7))
		}
	}
	for _, place := range []int{4, 99, 117, 199, 200, 299, 300, 65519} {
		m.Read(place)
		m.Write(place, 3)
	}
	for _, place := range noPlaces {
		m.Read(place)
		m.Write(place, 3)
	}
	for _, d := range devices {
		wantAsked(t, "other places", d)
	}
	wantCounts(t, "ports", m, 0, 0)
}

// P2303: all bytes go through a port as they are.
func TestPortBytes(t *testing.T) {
	m := ports(t)
	kept := byte(0)
	want(t, "Attach", m.Attach(116, func(int) byte { return kept ^ 0xff }, func(_ int, b byte) { kept = b }), api.OK)
	for b := range 256 {
		want(t, "Write", m.Write(116, byte(b)), api.OK)
		wantRead(t, "port", m, 116, byte(b)^0xff)
	}
}

// P2302: only where a port begins.
func TestAttachErrArg(t *testing.T) {
	m := ports(t)
	d := attach(t, m, 100, 1)
	other := &device{number: 2}
	for _, from := range append([]int{1, 3, 4, 5, 99, 101, 115, 117, 150, 199, 200, 201, 299, 300, 65519, 65521, 65535}, noPlaces...) {
		want(t, fmt.Sprint("Attach at ", from), m.Attach(from, other.get, other.put), api.ErrArg)
		want(t, fmt.Sprint("Attach of nothing at ", from), m.Attach(from, nil, nil), api.ErrArg)
	}
	for place := range 65536 {
		m.Read(place)
		m.Write(place, 1)
	}
	wantAsked(t, "refused", other)
	if len(d.asked) != 32 {
		t.Errorf("asked %d times", len(d.asked))
	}
	wantRead(t, "refused", m, 0, 255)
	want(t, "Attach to none", made(t).Attach(0, d.get, d.put), api.ErrArg)
}

// P2302: what is attached later stands in place of what was, a nil function too.
func TestAttachAgain(t *testing.T) {
	m := ports(t)
	first, beside := attach(t, m, 100, 1), attach(t, m, 116, 0)
	second := attach(t, m, 100, 2)
	wantRead(t, "second", m, 103, 203)
	want(t, "Write", m.Write(104, 9), api.OK)
	wantAsked(t, "second", second, "get 3", "put 4 9")
	want(t, "Attach", m.Attach(100, first.get, nil), api.OK)
	wantRead(t, "get alone", m, 103, 103)
	want(t, "Write", m.Write(104, 9), api.OK)
	wantAsked(t, "get alone", first, "get 3")
	want(t, "Attach", m.Attach(100, nil, first.put), api.OK)
	wantRead(t, "put alone", m, 103, 255)
	want(t, "Write", m.Write(115, 9), api.OK)
	wantAsked(t, "put alone", first, "put 15 9")
	want(t, "Attach", m.Attach(100, nil, nil), api.OK)
	wantRead(t, "nothing", m, 103, 255)
	want(t, "Write", m.Write(104, 9), api.OK)
	wantRead(t, "beside", m, 116, 0)
	wantAsked(t, "first", first)
	wantAsked(t, "second", second)
	wantAsked(t, "beside", beside, "get 0")
}

// P2304, P2305, P2307: no other call asks what is attached.
func TestPortsAreNotLookedAt(t *testing.T) {
	m := ports(t)
	d := attach(t, m, 100, 1)
	for place := 98; place < 118; place++ {
		m.Peek(place)
		m.Turn(place, 3)
		m.Cell(place)
		m.Lay(place, wordOf(bitsOf(4)))
		m.Load(segments{at(place, 1, 2, 3)})
		m.Kind(place)
	}
	m.Scrub()
	m.Counts()
	m.Regions()
	m.Same(m)
	m.Same(ports(t))
	wantAsked(t, "looked at", d)
	for place := 100; place < 116; place++ {
		wantNoPeek(t, "port", m, place, api.ErrBus)
	}
	wantAsked(t, "Peek", d)
}

// P2302: what is attached may ask the memory itself, and attach another.
func TestAttachedAsksMemory(t *testing.T) {
	m := ports(t)
	d := &device{number: 2}
	get := func(reg int) byte {
		b, _ := m.Read(4 + reg)
		m.Attach(100, d.get, d.put)
		return b + 1
	}
	want(t, "Attach", m.Attach(100, get, func(reg int, b byte) { m.Write(4+reg, b) }), api.OK)
	want(t, "Write", m.Write(105, 40), api.OK)
	wantRead(t, "RAM behind the port", m, 9, 40)
	wantRead(t, "the first", m, 105, 41)
	wantRead(t, "the second", m, 105, 205)
	wantAsked(t, "the second", d, "get 5")
}

// P2302: what is attached to one memory is not to another one of the same regions.
func TestAttachedToOne(t *testing.T) {
	m, o := ports(t), ports(t)
	d := attach(t, m, 100, 1)
	wantRead(t, "another one", o, 100, 255)
	want(t, "Write", o.Write(100, 7), api.OK)
	wantAsked(t, "another one", d)
}
