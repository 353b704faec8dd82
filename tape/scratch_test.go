package tape_test

import (
	"bytes"
	"math/rand"
	"slices"
	"testing"

	"orrery/api"
	"orrery/hexfile"
	"orrery/tape"
)

// merged: the image as Read has it.
func merged(t testing.TB, i image) image {
	t.Helper()
	l, e := hexfile.Merge(i.Segments)
	if e != api.OK {
		t.Fatal(e)
	}
	return image{l, i.Entry}
}

// images: made-up ones that can be written, and telling ones.
func images(chance *rand.Rand, n int) []image {
	list := []image{
		{}, {Entry: 65535}, {segments{at(0), at(65536)}, 1}, {segments{at(65535, 1), at(0, 2)}, 0x1234}, {segments{at(0, many(65536)...)}, 0xfffc},
		{segments{at(0x200, many(356)...), at(0x100, many(256)...)}, 0x200}, {segments{at(0x200, many(178)...), at(0x400, make([]byte, 179)...)}, 0x55aa},
	}
	for len(list) < n {
		i := madeUpImage(chance)
		if _, e := hexfile.Merge(i.Segments); e == api.OK {
			list = append(list, i)
		}
	}
	return list
}

// P2201: nothing mended, nothing bad, nothing lost.
func TestThereAndBack(t *testing.T) {
	for _, i := range images(rand.New(rand.NewSource(2214)), 60) {
		for copies := 1; copies <= 4; copies++ {
			b := written(t, i, copies)
			wantRead(t, "there and back", b, merged(t, i), report{Frames: len(b) / 260})
		}
	}
}

// scratched: each frame has up to 4 bits of its mark turned, and any bits of up to 32 neighbouring bytes behind it; and how many bytes are turned.
func scratched(chance *rand.Rand, b []byte, most int) ([]byte, int) {
	b = bytes.Clone(b)
	count := 0
	for n := 0; n < len(b); n += 260 {
		f, inMark := markTurned(b[n:n+260], chance.Perm(32)[:chance.Intn(5)]...)
		long := chance.Intn(most + 1)
		for _, place := range from(4+chance.Intn(257-long), long) {
			if by := byte(chance.Intn(256)); by > 0 {
				f[place] ^= by
				count++
			}
		}
		copy(b[n:], f)
		count += inMark
	}
	return b, count
}

// P2202: scratches are mended, and counted.
func TestScratches(t *testing.T) {
	chance := rand.New(rand.NewSource(2215))
	for _, i := range images(chance, 60) {
		whole := written(t, i, 1)
		for range 4 {
			b, count := scratched(chance, whole, 32)
			wantRead(t, "scratched", b, merged(t, i), report{Frames: len(b) / 260, Mended: count})
		}
	}
}

// P2202: all four bits of the mark and all bits of 32 bytes, at each place of each frame.
func TestScratchesEverywhere(t *testing.T) {
	i := image{segments{at(0x1000, many(200)...)}, 0x1000}
	whole := written(t, i, 1)
	for place := 4; place <= 260-32; place++ {
		b := bytes.Clone(whole)
		for n := 0; n < len(b); n += 260 {
			b[n+place%4] ^= 0x99
			for k := range 32 {
				b[n+place+k] ^= 0xff
			}
		}
		wantRead(t, "scratched", b, i, report{Frames: 3, Mended: 3 * 33})
	}
}

// P2203: copies of which each lacks another frame.
func TestCopies(t *testing.T) {
	chance := rand.New(rand.NewSource(2216))
	for _, i := range images(chance, 40)[1:] {
		for copies := 2; copies <= 4; copies++ {
			b := written(t, i, copies)
			all := len(b) / 260 / copies
			frames, count := 0, 0
			for number := range all {
				kept := chance.Intn(copies)
				for copy := range copies {
					at := (copy*all + number) * 260
					if copy == kept {
						f, n := scratched(chance, b[at:at+260], 32)
						frames, count = frames+1, count+n
						b = slices.Concat(b[:at], f, b[at+260:])
					} else {
						clear(b[at : at+260])
					}
				}
			}
			wantRead(t, "copies", b, merged(t, i), report{Frames: frames, Mended: count, Bad: len(b) - 260*frames})
		}
	}
}

// P2203: a number that no copy tells any more is lost; frames cut out of a tape leave nothing behind.
func TestCopiesLost(t *testing.T) {
	i := image{segments{at(0x1000, many(700)...)}, 0x1000} // five frames
	b := written(t, i, 2)
	for number := range 5 {
		one, other := number*260, (number+5)*260
		half := slices.Concat(b[:one], b[one+260:])
		wantRead(t, "one is cut out", half, i, report{Frames: 9})
		wantRead(t, "the other one is cut out", slices.Concat(b[:other], b[other+260:]), i, report{Frames: 9})
		wantNoRead(t, "both are cut out", slices.Concat(half[:other-260], half[other:]), report{Frames: 8, Lost: []int{number}}, api.ErrTape)
		bad := bytes.Clone(b)
		clear(bad[one : one+260])
		clear(bad[other : other+260])
		wantNoRead(t, "both are broken", bad, report{Frames: 8, Bad: 520, Lost: []int{number}}, api.ErrTape)
	}
}

// P2204: whatever was done to a tape, what is told without an error is what its frames say, each as Pack has it but for what was mended.
func TestNothingWrong(t *testing.T) {
	chance := rand.New(rand.NewSource(2217))
	told := 0
	for range 300 {
		i := image{segments{at(chance.Intn(60000), many(chance.Intn(400))...)}, chance.Intn(65536)}
		b, _ := scratched(chance, written(t, i, 1+chance.Intn(3)), 34)
		b = turned(chance, b, chance.Perm(len(b))[:chance.Intn(40)]...)
		got, r, e := tape.Read(b)
		if e != api.OK {
			continue
		}
		told++
		if !sameImage(got, merged(t, i)) {
			t.Errorf("%v is told, not %v", got, i)
		}
		list, places := tape.Scan(b)
		mended := 0
		for n, f := range list {
			mended += apart(packed(t, f), b[places[n]:places[n]+260])
		}
		if len(r.Lost) > 0 || r.Frames != len(list) || r.Mended != mended || r.Bad != len(b)-260*len(list) {
			t.Errorf("%v, not %d frames, %d mended", r, len(list), mended)
		}
	}
	if told < 50 || told > 290 {
		t.Errorf("%d of 300 are told: the chance is too poor", told)
	}
}

// P2205: bytes ahead change nothing but Bad, frames cut off by the tape's beginning among them.
func TestAnywhere(t *testing.T) {
	chance := rand.New(rand.NewSource(2218))
	for _, i := range images(chance, 25) {
		b, _ := scratched(chance, written(t, i, 1+chance.Intn(2)), 33)
		if chance.Intn(2) == 0 {
			b = append(b, noise(chance.Intn(300))...)
		}
		want, r, e := tape.Read(b)
		random := make([]byte, 1+chance.Intn(700))
		chance.Read(random)
		for _, ahead := range [][]byte{noise(1), {0x55, 0xaa, 0x55}, {0x55, 0xaa, 0x55, 0xa7}, make([]byte, 259), make([]byte, 1000), random, packed(t, first)[:1+chance.Intn(200)], packed(t, third)[30+chance.Intn(230):]} {
			got, s, f := tape.Read(append(bytes.Clone(ahead), b...))
			s.Bad -= len(ahead)
			if !sameImage(got, want) || !sameReport(s, r) || f != e {
				t.Errorf("behind % x: %v, %v, %v, not %v, %v, %v", ahead, got, s, f, want, r, e)
			}
		}
	}
}
