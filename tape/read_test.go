package tape_test

import (
	"math/rand"
	"slices"
	"testing"

	"orrery/api"
	"orrery/tape"
)

// F22.3: frames in order and out of it.
func TestRead(t *testing.T) {
	want := image{segments{at(0x200, many(178)...), at(0x300, many(5)...)}, 0x200}
	a, b, c := packed(t, first), packed(t, second), packed(t, third)
	for _, whole := range [][]byte{
		slices.Concat(a, b, c), slices.Concat(a, c, b), slices.Concat(b, a, c), slices.Concat(b, c, a), slices.Concat(c, a, b), slices.Concat(c, b, a),
	} {
		wantRead(t, "in any order", whole, want, report{Frames: 3})
		wantRead(t, "with bytes around", slices.Concat(noise(7), whole, noise(9)), want, report{Frames: 3, Bad: 16})
	}
	wantRead(t, "the end alone", packed(t, end(1, 65535)), image{Entry: 65535}, report{Frames: 1})
	wantRead(t, "half a frame behind", slices.Concat(a, b, c, a[:200]), want, report{Frames: 3, Bad: 200})
}

// F22.3: segments as Merge has them: adjacent frames in one, without empty ones, rising, whatever their numbers are.
func TestReadMerges(t *testing.T) {
	b := packed(t, dataFrame(0, 6, 12, 3, 4), dataFrame(1, 6, 12), dataFrame(2, 6, 10, 1, 2), dataFrame(3, 6, 65535), dataFrame(4, 6, 5, 9), end(6, 7))
	wantRead(t, "adjacent ones", b, image{segments{at(5, 9), at(10, 1, 2, 3, 4)}, 7}, report{Frames: 6})
	wantRead(t, "empty ones alone", packed(t, dataFrame(0, 3, 9), dataFrame(1, 3, 9), end(3, 0)), image{}, report{Frames: 3})
	wantRead(t, "at both ends", packed(t, dataFrame(0, 3, 65535, 1), dataFrame(1, 3, 0, 2), end(3, 0)), image{segments{at(0, 2), at(65535, 1)}, 0}, report{Frames: 3})
}

// F22.3: numbers that are not told.
func TestReadLost(t *testing.T) {
	a, b, c := packed(t, first), packed(t, second), packed(t, third)
	wantNoRead(t, "nothing", nil, report{}, api.ErrTape)
	wantNoRead(t, "noise", noise(777), report{Bad: 777}, api.ErrTape)
	wantNoRead(t, "half a frame", a[:259], report{Bad: 259}, api.ErrTape)
	wantNoRead(t, "the end alone", c, report{Frames: 1, Lost: []int{0, 1}}, api.ErrTape)
	wantNoRead(t, "the first alone", a, report{Frames: 1, Lost: []int{1, 2}}, api.ErrTape)
	wantNoRead(t, "the second alone", slices.Concat(noise(3), b), report{Frames: 1, Bad: 3, Lost: []int{0, 2}}, api.ErrTape)
	wantNoRead(t, "without the first", slices.Concat(c, b), report{Frames: 2, Lost: []int{0}}, api.ErrTape)
	wantNoRead(t, "without the second", slices.Concat(c, a, a), report{Frames: 3, Lost: []int{1}}, api.ErrTape)
	wantNoRead(t, "without the end", slices.Concat(a, b), report{Frames: 2, Lost: []int{2}}, api.ErrTape)
	chance := rand.New(rand.NewSource(2209))
	bad := slices.Concat(turned(chance, a, from(4, 20)...), turned(chance, b, from(9, 33)...), c)
	wantNoRead(t, "with what was mended", bad, report{Frames: 2, Mended: 20, Bad: 260, Lost: []int{1}}, api.ErrTape)
	_, r, e := tape.Read(packed(t, end(65535, 0)))
	if !slices.Equal(r.Lost, from(0, 65534)) || e != api.ErrTape {
		t.Errorf("the greatest end alone: %d are lost, %v", len(r.Lost), e)
	}
}

// F22.3: frames with another All than the first one has are passed over, but counted.
func TestReadAnotherAll(t *testing.T) {
	want := image{segments{at(0x200, many(178)...), at(0x300, many(5)...)}, 0x200}
	chance := rand.New(rand.NewSource(2210))
	a, b, c := packed(t, first), packed(t, second), packed(t, third)
	other := turned(chance, packed(t, dataFrame(1, 4, 0x200, 1, 2, 3)), from(40, 11)...)
	alone := packed(t, end(1, 9))
	wantRead(t, "behind the first", slices.Concat(a, other, b, c), want, report{Frames: 4, Mended: 11})
	wantRead(t, "two others", slices.Concat(a, other, b, alone, c), want, report{Frames: 5, Mended: 11})
	wantRead(t, "at the end", slices.Concat(a, b, c, alone, other), want, report{Frames: 5, Mended: 11})
	wantRead(t, "an end alone is the first", slices.Concat(alone, a, b, c), image{Entry: 9}, report{Frames: 4})
	wantNoRead(t, "another one is the first", slices.Concat(other, a, b, c), report{Frames: 4, Mended: 11, Lost: []int{0, 2, 3}}, api.ErrTape)
	wantNoRead(t, "another one in place of it", slices.Concat(a, other, c), report{Frames: 3, Mended: 11, Lost: []int{1}}, api.ErrTape)
	wantNoRead(t, "another end in place of it", slices.Concat(a, b, packed(t, end(4, 9))), report{Frames: 3, Lost: []int{2}}, api.ErrTape)
}

// F22.3: of a number that is told twice the first one holds; the others are counted.
func TestReadTwice(t *testing.T) {
	want := image{segments{at(0x200, many(178)...), at(0x300, many(5)...)}, 0x200}
	chance := rand.New(rand.NewSource(2211))
	a, b, c := packed(t, first), packed(t, second), packed(t, third)
	wantRead(t, "twice the same", slices.Concat(a, a, b, b, c, c), want, report{Frames: 6})
	unlike := turned(chance, packed(t, dataFrame(1, 3, 0x400, 7)), 20, 30)
	wantRead(t, "another second behind it", slices.Concat(a, b, unlike, c), want, report{Frames: 4, Mended: 2})
	wantRead(t, "another second ahead of it", slices.Concat(a, unlike, b, c), image{segments{want.Segments[0], at(0x400, 7)}, 0x200}, report{Frames: 4, Mended: 2})
	over := packed(t, dataFrame(1, 3, 0x210, 7))
	wantRead(t, "one over the first data, passed over", slices.Concat(a, b, over, c), want, report{Frames: 4})
	other := packed(t, end(3, 0xffff))
	wantRead(t, "another end behind it", slices.Concat(a, b, c, other), want, report{Frames: 4})
	wantRead(t, "another end ahead of it", slices.Concat(other, a, b, c), image{want.Segments, 0xffff}, report{Frames: 4})
}

// F22.3: data that have a place in common; ErrTape goes ahead of it.
func TestReadOver(t *testing.T) {
	chance := rand.New(rand.NewSource(2212))
	a, b, c := dataFrame(0, 3, 10, 1, 2, 3), dataFrame(1, 3, 12, 3), end(3, 0)
	whole := packed(t, a, b, c)
	wantNoRead(t, "one place", whole, report{Frames: 3}, api.ErrOver)
	wantNoRead(t, "one place, turned", slices.Concat(noise(5), turned(chance, whole, 7, 8, 530)), report{Frames: 3, Mended: 3, Bad: 5}, api.ErrOver)
	wantNoRead(t, "the other one first", packed(t, b, a, c), report{Frames: 3}, api.ErrOver)
	wantNoRead(t, "the very same data", packed(t, dataFrame(0, 3, 10, 1), dataFrame(1, 3, 10, 1), c), report{Frames: 3}, api.ErrOver)
	wantNoRead(t, "the end is lost, too", packed(t, a, b), report{Frames: 2, Lost: []int{2}}, api.ErrTape)
	wantNoRead(t, "another one is lost, too", packed(t, dataFrame(0, 4, 10, 1), dataFrame(1, 4, 10, 1), end(4, 0)), report{Frames: 3, Lost: []int{2}}, api.ErrTape)
	wantRead(t, "no place", packed(t, a, dataFrame(1, 3, 13, 4), c), image{segments{at(10, 1, 2, 3, 4)}, 0}, report{Frames: 3})
	wantRead(t, "an empty one within", packed(t, a, dataFrame(1, 3, 11), c), image{segments{at(10, 1, 2, 3)}, 0}, report{Frames: 3})
	wantRead(t, "the entry is no data", packed(t, a, dataFrame(1, 3, 13, 4), end(3, 11)), image{segments{at(10, 1, 2, 3, 4)}, 11}, report{Frames: 3})
}

// F22.3: made-up tapes, held against a second reading.
func TestReadAgain(t *testing.T) {
	chance := rand.New(rand.NewSource(2213))
	of := map[api.Errno]int{}
	for range 600 {
		frames := []frame{dataFrame(0, 2, 9, 1), end(2, 4), dataFrame(0, 3, 9, 1, 2), dataFrame(1, 3, 10, 2), dataFrame(1, 3, 11, 2), end(3, 9)}
		b := pieces(t, chance, frames[chance.Intn(2):2+chance.Intn(5)])
		want, r, e := readAgain(b)
		of[e]++
		if e == api.OK {
			wantRead(t, "made up", b, want, r)
		} else {
			wantNoRead(t, "made up", b, r, e)
		}
	}
	if of[api.OK] < 30 || of[api.ErrTape] < 30 || of[api.ErrOver] < 3 {
		t.Errorf("%v: the chance is too poor", of)
	}
}
