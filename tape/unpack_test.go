package tape_test

import (
	"bytes"
	"encoding/binary"
	"fmt"
	"math/rand"
	"slices"
	"testing"
)

var sample = dataFrame(3, 9, 0xfe00, many(150)...)

// F22.1: there and back, without anything turned.
func TestUnpack(t *testing.T) {
	for _, f := range []frame{
		end(1, 0x600), end(65535, 65535), sample, dataFrame(0, 2, 0), dataFrame(0, 65535, 65535, 7), dataFrame(65533, 65535, 0, make([]byte, 178)...),
	} {
		wantUnpack(t, "whole", packed(t, f), f, 0)
	}
	for size := range 179 {
		f := dataFrame(size, 65535, 65536-size-1, many(size)...)
		wantUnpack(t, "whole", packed(t, f), f, 0)
	}
}

// F22.1: 260 bytes, neither more nor less.
func TestUnpackLengths(t *testing.T) {
	b := packed(t, sample, sample)
	wantNoUnpack(t, "nothing", nil)
	wantNoUnpack(t, "nothing", []byte{})
	for _, n := range []int{1, 3, 4, 256, 258, 259, 261, 262, 519, 520} {
		wantNoUnpack(t, fmt.Sprint(n, " bytes"), b[:n])
	}
	wantUnpack(t, "260 bytes", b[:260], sample, 0)
	wantNoUnpack(t, "260 bytes that begin one too late", b[1:261])
	wantNoUnpack(t, "noughts", make([]byte, 260))
	wantNoUnpack(t, "a byte ahead", append([]byte{0x55}, b[:260]...))
}

// markTurned: a copy with these bits of the mark turned, and in how many of its bytes they stand.
func markTurned(b []byte, bits ...int) ([]byte, int) {
	b = bytes.Clone(b)
	before := binary.BigEndian.Uint32(b)
	for _, bit := range bits {
		b[bit/8] ^= 1 << (bit % 8)
	}
	count := 0
	for i := range 4 {
		if b[i] != byte(before>>(24-8*i)) {
			count++
		}
	}
	return b, count
}

// F22.1: up to 4 bits of the mark, wherever they are; 5 are too many.
func TestUnpackMark(t *testing.T) {
	b := packed(t, sample)
	for first := range 32 {
		one, count := markTurned(b, first)
		wantUnpack(t, "1 bit of the mark", one, sample, count)
		for second := range first {
			two, count := markTurned(b, first, second)
			wantUnpack(t, "2 bits of the mark", two, sample, count)
		}
	}
	chance := rand.New(rand.NewSource(2201))
	for range 300 {
		bits := chance.Perm(32)
		for n := 3; n <= 4; n++ {
			some, count := markTurned(b, bits[:n]...)
			wantUnpack(t, fmt.Sprint(n, " bits of the mark"), some, sample, count)
		}
		for _, n := range []int{5, 6, 5 + chance.Intn(28)} {
			some, _ := markTurned(b, bits[:n]...)
			wantNoUnpack(t, fmt.Sprint(n, " bits of the mark"), some)
		}
	}
	for i := range 4 {
		one, count := markTurned(b, 8*i, 8*i+3, 8*i+6, 8*i+7)
		wantUnpack(t, "4 bits of one byte", one, sample, count)
		one, _ = markTurned(b, 8*i, 8*i+3, 8*i+6, 8*i+7, (8*i+9)%32)
		wantNoUnpack(t, "4 bits of one byte and one of the next", one)
	}
}

// placesIn: so many of a word's bytes, at chance.
func placesIn(chance *rand.Rand, word, n int) []int {
	var list []int
	for _, i := range chance.Perm(64)[:n] {
		list = append(list, 4+4*i+word)
	}
	return list
}

// F22.1: 8 bytes of each word, 9 of none.
func TestUnpackWords(t *testing.T) {
	chance := rand.New(rand.NewSource(2202))
	b := packed(t, sample)
	for word := range 4 {
		for n := range 9 {
			for range 5 {
				wantUnpack(t, fmt.Sprint(n, " bytes of word ", word), turned(chance, b, placesIn(chance, word, n)...), sample, n)
			}
		}
		for _, n := range []int{9, 9, 9, 9, 10, 16, 32, 64} {
			wantNoUnpack(t, fmt.Sprint(n, " bytes of word ", word), turned(chance, b, placesIn(chance, word, n)...))
		}
	}
	for range 50 {
		var places []int
		for word := range 4 {
			places = append(places, placesIn(chance, word, 8)...)
		}
		wantUnpack(t, "8 bytes of each word", turned(chance, b, places...), sample, 32)
		marked, count := markTurned(turned(chance, b, places...), chance.Perm(32)[:4]...)
		wantUnpack(t, "and 4 bits of the mark", marked, sample, 32+count)
		word := chance.Intn(4)
		places = append(places, placesIn(chance, word, 64)...)
		slices.Sort(places)
		wantNoUnpack(t, "and all of one", turned(chance, b, slices.Compact(places)...))
	}
}

// F22.1: 32 neighbouring bytes at each place, any bits of them; 33 are too many.
func TestUnpackNeighbours(t *testing.T) {
	chance := rand.New(rand.NewSource(2203))
	b := packed(t, sample)
	for place := 4; place <= 260-32; place++ {
		wantUnpack(t, fmt.Sprint("32 bytes at ", place), turned(chance, b, from(place, 32)...), sample, 32)
		all := bytes.Clone(b)
		for i := place; i < place+32; i++ {
			all[i] ^= 0xff
		}
		wantUnpack(t, fmt.Sprint("all bits of 32 bytes at ", place), all, sample, 32)
		if place < 260-32 {
			wantNoUnpack(t, fmt.Sprint("33 bytes at ", place), turned(chance, b, from(place, 33)...))
		}
	}
}

// F22.1: whole words whose content is no frame, though its sum is right.
func TestUnpackNoFrame(t *testing.T) {
	b := bare(sample, len(sample.Payload))
	with := func(place int, list ...byte) []byte {
		c := bytes.Clone(b)
		copy(c[place:], list)
		return c
	}
	full := dataFrame(3, 9, 65536-178, many(178)...)
	for what, content := range map[string][]byte{
		"another first letter":         with(0, 'o'),
		"another second letter":        with(1, 't'),
		"letters turned round":         with(0, 'T', 'O'),
		"kind 2":                       with(2, 2),
		"kind 255":                     with(2, 255),
		"an end in the midst":          with(2, 1),
		"an end with a count":          bare(frame{1, 8, 9, 0, []byte{0}}, 1),
		"an end with a count of 178":   bare(frame{1, 8, 9, 0, nil}, 178),
		"data as the last one":         with(3, 0, 8),
		"a number that is all":         with(3, 0, 9),
		"a number above all":           with(3, 255, 255),
		"none in all":                  with(3, 0, 0, 0, 0),
		"an end of none in all":        bare(frame{1, 0, 0, 0, nil}, 0),
		"an end that is behind all":    bare(frame{1, 9, 9, 0, nil}, 0),
		"an end one ahead of the last": bare(frame{1, 7, 9, 0, nil}, 0),
		"a count of 179":               bare(dataFrame(3, 9, 0), 179),
		"a count of 255":               bare(dataFrame(3, 9, 0), 255),
		"2 bytes at 65535":             bare(dataFrame(3, 9, 65535), 2),
		"178 bytes at 65359":           bare(dataFrame(3, 9, 65359), 178),
	} {
		wantNoUnpack(t, what, raw(sealed(content)))
	}
	for what, f := range map[string]frame{
		"as it was": sample, "178 bytes at 65358": full, "a byte at 65535": dataFrame(3, 9, 65535, 7), "no bytes at 65535": dataFrame(3, 9, 65535),
		"the last but one": dataFrame(7, 9, 0), "an end at 65535": end(9, 65535), "an end alone": end(1, 0), "the greatest end": end(65535, 0),
	} {
		wantUnpack(t, what, raw(sealed(bare(f, len(f.Payload)))), f, 0)
	}
}

// F22.1: a wrong sum, whichever bit of it is, and whichever bit of the rest it is not made for.
func TestUnpackSum(t *testing.T) {
	right := contentAgain(sample)
	for place := range right {
		for bit := range 8 {
			content := bytes.Clone(right)
			content[place] ^= 1 << bit
			wantNoUnpack(t, fmt.Sprint("bit ", bit, " of byte ", place), raw(content))
		}
	}
	low := append(bytes.Clone(right[:188]), right[191], right[190], right[189], right[188])
	wantNoUnpack(t, "a sum with the lowest byte first", raw(low))
}

// F22.1: what fills a payload up does not make a frame none; but it is not as Pack has it, nor are the sum and the parity bytes then.
func TestUnpackFilling(t *testing.T) {
	for _, f := range []frame{sample, end(9, 5), dataFrame(3, 9, 65535, 1), dataFrame(3, 9, 65535)} {
		for _, place := range []int{10 + len(f.Payload), 187} {
			content := bare(f, len(f.Payload))
			content[place] = 0x41
			b := raw(sealed(content))
			mended := apart(b, packAgain(f))
			if mended < 1+4+16 { // the byte, the sum, the parity bytes of a word
				t.Fatal(mended)
			}
			wantUnpack(t, "filled up with something", b, f, mended)
			b[4] ^= 1
			wantUnpack(t, "filled up with something, and turned", b, f, mended+1)
		}
	}
}

// F22.1: made-up bytes near to frames, by a second reading.
func TestUnpackAgain(t *testing.T) {
	chance := rand.New(rand.NewSource(2204))
	read := 0
	for range 2000 {
		f := frame{chance.Intn(2), chance.Intn(4), chance.Intn(5), 65536 - 1 - chance.Intn(4), many(chance.Intn(3))}
		content := bare(f, len(f.Payload))
		if chance.Intn(4) == 0 {
			content[chance.Intn(12)] ^= 1 << chance.Intn(8)
		}
		b, _ := markTurned(raw(sealed(content)), chance.Perm(32)[:chance.Intn(7)]...)
		b = turned(chance, b, 4+chance.Intn(256), 4+chance.Intn(256))
		want, can := canBeRead(b)
		if !can {
			wantNoUnpack(t, "made up", b)
			continue
		}
		read++
		wantUnpack(t, "made up", b, want, apart(b, packAgain(want)))
	}
	if read < 200 || read > 1800 {
		t.Errorf("%d of 2000 can be read: the chance is too poor", read)
	}
}
