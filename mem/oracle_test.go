package mem_test

import (
	"fmt"
	"math/rand"
	"slices"
	"testing"

	"orrery/api"
	"orrery/mem"
)

// second: a second reading of the chapter: a kind and thirteen bits for each place by itself.
type second struct {
	kinds        map[int]int
	first        map[int]int // of each place of a port the one where it begins
	cells        map[int]int
	attached     map[int]*device
	mended, lost int
}

func readAgain(l []region) *second {
	s := &second{map[int]int{}, map[int]int{}, map[int]int{}, map[int]*device{}, 0, 0}
	for _, r := range l {
		for place := r.From; place < r.To; place++ {
			s.kinds[place], s.first[place] = r.Kind, r.From
		}
	}
	return s
}

// noCell: what is told of a place without a cell.
func (s *second) noCell(place int) api.Errno {
	switch {
	case place < 0 || place > 65535:
		return api.ErrArg
	case s.kinds[place] != ram && s.kinds[place] != rom:
		return api.ErrBus
	}
	return api.OK
}

// read: as Read, or as Peek if it is but a look.
func (s *second) read(place int, look bool) (byte, api.Errno) {
	if s.kinds[place] == port && !look {
		if d := s.attached[s.first[place]]; d != nil {
			return d.get(place - s.first[place]), api.OK
		}
		return 255, api.OK
	}
	if e := s.noCell(place); e != api.OK {
		return 0, e
	}
	b, found := nearest(s.cells[place])
	if look && found {
		return b, api.OK
	}
	if look {
		return 0, api.ErrParity
	}
	if !found {
		s.lost++
		return 0, api.ErrParity
	}
	if s.cells[place] != bitsOf(b) {
		s.mended++
	}
	s.cells[place] = bitsOf(b)
	return b, api.OK
}

func (s *second) write(place int, b byte) api.Errno {
	switch s.kinds[place] {
	case ram:
		s.cells[place] = bitsOf(b)
		return api.OK
	case rom:
		return api.ErrRom
	case port:
		if d := s.attached[s.first[place]]; d != nil {
			d.put(place-s.first[place], b)
		}
		return api.OK
	}
	return s.noCell(place)
}

func (s *second) load(l segments) api.Errno {
	for _, g := range l {
		if g.At < 0 || g.At+len(g.Bytes) > 65536 {
			return api.ErrArg
		}
	}
	for _, g := range l {
		for i := range g.Bytes {
			if s.noCell(g.At+i) != api.OK {
				return api.ErrBus
			}
		}
	}
	for _, g := range l {
		for i, b := range g.Bytes {
			s.cells[g.At+i] = bitsOf(b)
		}
	}
	return api.OK
}

func (s *second) turn(place, bit int) api.Errno {
	if place < 0 || place > 65535 || bit < 0 || bit > 12 {
		return api.ErrArg
	}
	e := s.noCell(place)
	if e == api.OK {
		s.cells[place] ^= 1 << bit
	}
	return e
}

func (s *second) lay(place, cell int) api.Errno {
	if place < 0 || place > 65535 || cell >= 1<<13 {
		return api.ErrArg
	}
	e := s.noCell(place)
	if e == api.OK {
		s.cells[place] = cell
	}
	return e
}

func (s *second) scrub() (int, int) {
	mended, lost := s.mended, s.lost
	for place := range 65536 {
		if s.noCell(place) == api.OK {
			s.read(place, false)
		}
	}
	return s.mended - mended, s.lost - lost
}

// someRegions: without a place in common, in any order; some begin at 0, some end at 65536.
func someRegions(chance *rand.Rand) []region {
	var list []region
	place := chance.Intn(3)
	if chance.Intn(2) == 0 {
		place += 65480
	}
	for place < 65536 && len(list) < 9 {
		to := min(65536, place+1+chance.Intn(9))
		list = append(list, region{place, to, 1 + chance.Intn(3)})
		place = to + chance.Intn(2)*chance.Intn(4)
	}
	chance.Shuffle(len(list), func(i, k int) { list[i], list[k] = list[k], list[i] })
	return list
}

// walk: a memory and its second reading, which are asked the same.
type walk struct {
	t      *testing.T
	chance *rand.Rand
	m      *mem.Memory
	s      *second
	list   []region
	count  int // devices
}

// place: near a region's ends, or within one, mostly.
func (w *walk) place() int {
	r := w.list[w.chance.Intn(len(w.list))]
	switch w.chance.Intn(8) {
	case 0:
		return r.From - 1 + w.chance.Intn(3)
	case 1:
		return r.To - 1 + w.chance.Intn(3)
	case 2:
		return w.chance.Intn(65538) - 1
	}
	return r.From + w.chance.Intn(r.To-r.From)
}

func (w *walk) segments() segments {
	var l segments
	for range w.chance.Intn(4) {
		b := make([]byte, w.chance.Intn(5))
		w.chance.Read(b)
		l = append(l, at(w.place(), b...))
	}
	return l
}

// same: what is told by both.
func (w *walk) same(what string, got, want []any) {
	w.t.Helper()
	if !slices.Equal(got, want) {
		w.t.Fatalf("%v: %s: %v, not %v", w.list, what, got, want)
	}
}

// attach: devices by pairs, of which each is asked by one reading alone; what they were asked is held against each other.
func (w *walk) attach(place int) {
	var mine, theirs *device
	e := api.ErrArg
	if w.s.kinds[place] == port && w.s.first[place] == place {
		e = api.OK
	}
	w.count++
	mine, theirs = &device{number: w.count}, &device{number: w.count}
	w.same(fmt.Sprint("Attach ", place), []any{w.m.Attach(place, mine.get, mine.put)}, []any{e})
	if e != api.OK {
		return
	}
	w.s.attached[place] = theirs
	for reg := range 3 {
		b, f := w.m.Read(place + reg)
		c, g := w.s.read(place+reg, false)
		w.same(fmt.Sprint("Read ", place+reg), []any{b, f}, []any{c, g})
		w.same(fmt.Sprint("Write ", place+reg), []any{w.m.Write(place+reg, byte(w.count))}, []any{w.s.write(place+reg, byte(w.count))})
	}
	w.same(fmt.Sprint("asked of ", place), []any{fmt.Sprint(mine.asked)}, []any{fmt.Sprint(theirs.asked)})
}

func (w *walk) step() {
	place, b := w.place(), byte(w.chance.Intn(256))
	switch w.chance.Intn(12) {
	case 0:
		w.attach(place)
	case 1, 2:
		w.same(fmt.Sprintf("Write(%d, %d)", place, b), []any{w.m.Write(place, b)}, []any{w.s.write(place, b)})
	case 3:
		l := w.segments()
		w.same(fmt.Sprint("Load ", l), []any{w.m.Load(l)}, []any{w.s.load(l)})
	case 4, 5, 6:
		bit := w.chance.Intn(15) - 1
		w.same(fmt.Sprintf("Turn(%d, %d)", place, bit), []any{w.m.Turn(place, bit)}, []any{w.s.turn(place, bit)})
	case 7:
		cell := w.chance.Intn(1<<13 + 300)
		w.same(fmt.Sprintf("Lay(%d, %d)", place, cell), []any{w.m.Lay(place, wordOf(cell))}, []any{w.s.lay(place, cell)})
	case 8, 9:
		got, e := w.m.Peek(place)
		want, f := w.s.read(place, true)
		w.same(fmt.Sprint("Peek ", place), []any{got, e}, []any{want, f})
	default:
		got, e := w.m.Read(place)
		want, f := w.s.read(place, false)
		w.same(fmt.Sprint("Read ", place), []any{got, e}, []any{want, f})
	}
}

// end: all that is kept.
func (w *walk) end() {
	for _, r := range w.list {
		for place := r.From - 1; place <= r.To; place++ {
			got, e := w.m.Cell(place)
			f := w.s.noCell(place)
			w.same(fmt.Sprint("Cell ", place), []any{got, e, w.m.Kind(place)}, []any{wordOf(w.s.cells[place]), f, w.s.kinds[place]})
		}
	}
	a, b := w.m.Counts()
	w.same("Counts", []any{a, b}, []any{w.s.mended, w.s.lost})
	a, b = w.m.Scrub()
	c, d := w.s.scrub()
	w.same("Scrub", []any{a, b}, []any{c, d})
	a, b = w.m.Counts()
	w.same("Counts behind Scrub", []any{a, b}, []any{w.s.mended, w.s.lost})
}

// All promises: rows of calls over made-up regions, held against the second reading.
func TestSecondReading(t *testing.T) {
	chance := rand.New(rand.NewSource(2307))
	for range 60 {
		l := someRegions(chance)
		w := &walk{t: t, chance: chance, m: made(t, l...), s: readAgain(l), list: l}
		for range 5 {
			for range 60 {
				w.step()
			}
			w.end()
		}
	}
}

// P2301: New of made-up regions, held against each place by itself.
func TestNewAgain(t *testing.T) {
	chance := rand.New(rand.NewSource(2301))
	found := map[api.Errno]int{}
	for range 400 {
		var l []region
		for range chance.Intn(5) {
			from := chance.Intn(12) - 1
			l = append(l, region{from, from + chance.Intn(5), chance.Intn(9) - 1 - chance.Intn(4)})
		}
		if chance.Intn(2) == 0 {
			for i := range l {
				l[i].Kind, l[i].From = 1+i%3, max(0, l[i].From)
			}
		}
		want := newAgain(l)
		found[want]++
		if m, e := mem.New(l); e != want || (m != nil) != (want == api.OK) {
			t.Errorf("New(%v): %v, %v, not %v", l, m != nil, e, want)
		}
	}
	if len(found) != 3 {
		t.Error(found)
	}
}

func newAgain(l []region) api.Errno {
	taken := map[int]int{}
	twice := false
	for _, r := range l {
		if r.From < 0 || r.To > 65536 || r.To <= r.From || r.Kind != ram && r.Kind != rom && r.Kind != port {
			return api.ErrArg
		}
		for place := r.From; place < r.To; place++ {
			taken[place]++
			twice = twice || taken[place] > 1
		}
	}
	if twice {
		return api.ErrOver
	}
	return api.OK
}
