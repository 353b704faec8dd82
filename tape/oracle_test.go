package tape_test

import (
	"encoding/binary"
	"hash/crc32"
	"math/bits"

	"orrery/api"
	"orrery/hexfile"
	"orrery/rs"
)

// isAgain: is it a frame? By the chapter's words.
func isAgain(f frame) bool {
	for _, n := range []int{f.Number, f.All, f.At} {
		if n < 0 || n > 65535 {
			return false
		}
	}
	if f.Number >= f.All || len(f.Payload) > 178 || f.At+len(f.Payload) > 65536 {
		return false
	}
	if f.Kind == 1 {
		return f.Number == f.All-1 && len(f.Payload) == 0
	}
	return f.Kind == 0 && f.Number != f.All-1
}

// bare: a content without its sum, be it a frame's or not; the count is told by itself.
func bare(f frame, count int) []byte {
	b := []byte{'O', 'T', byte(f.Kind)}
	for _, n := range []int{f.Number, f.All, f.At} {
		b = binary.BigEndian.AppendUint16(b, uint16(n))
	}
	b = append(append(b, byte(count)), f.Payload...)
	return append(b, make([]byte, 188-len(b))...)
}

// sealed: with the sum of the library's CRC-32 behind it.
func sealed(b []byte) []byte {
	return binary.BigEndian.AppendUint32(b[:188:188], crc32.ChecksumIEEE(b[:188]))
}

func contentAgain(f frame) []byte { return sealed(bare(f, len(f.Payload))) }

// times: in the field of 0x11d, bit by bit.
func times(a, b byte) byte {
	product := 0
	for i := range 8 {
		if b>>i&1 == 1 {
			product ^= int(a) << i
		}
	}
	for i := 14; i >= 8; i-- {
		if product>>i&1 == 1 {
			product ^= 0x11d << (i - 8)
		}
	}
	return byte(product)
}

// wordAgain: 48 bytes, and what is left of them by the product of the (x + 2^0) to (x + 2^15), by long division.
func wordAgain(data []byte) []byte {
	generator, power := []byte{1}, byte(1) // the highest coefficient is the first one
	for range 16 {
		next := append(generator[:len(generator):len(generator)], 0)
		for i, c := range generator {
			next[i+1] ^= times(c, power)
		}
		generator, power = next, times(power, 2)
	}
	rest := append(append([]byte{}, data...), make([]byte, 16)...)
	for i := range data {
		scale := rest[i]
		for k, c := range generator {
			rest[i+k] ^= times(c, scale)
		}
	}
	return append(append([]byte{}, data...), rest[48:]...)
}

// raw: 260 bytes of any content.
func raw(content []byte) []byte {
	b := make([]byte, 260)
	copy(b, []byte{0x55, 0xaa, 0x55, 0xa7})
	for w := range 4 {
		for i, c := range wordAgain(content[48*w : 48*w+48]) {
			b[4+4*i+w] = c
		}
	}
	return b
}

func packAgain(f frame) []byte { return raw(contentAgain(f)) }

// apart: at how many places two lists of one length are unlike.
func apart(a, b []byte) int {
	n := 0
	for i := range a {
		if a[i] != b[i] {
			n++
		}
	}
	return n
}

// canBeRead: a frame in 260 bytes, by the chapter's words one after the other.
func canBeRead(b []byte) (frame, bool) {
	unlike := 0
	for i, c := range []byte{0x55, 0xaa, 0x55, 0xa7} {
		unlike += bits.OnesCount8(b[i] ^ c)
	}
	if unlike > 4 {
		return frame{}, false
	}
	code, _ := rs.New(16, 0)
	var content []byte
	for w := range 4 {
		var word []byte
		for i := range 64 {
			word = append(word, b[4+4*i+w])
		}
		part, _, e := code.Decode(word, nil)
		if e != api.OK {
			return frame{}, false
		}
		content = append(content, part...)
	}
	two := func(i int) int { return int(content[i])<<8 + int(content[i+1]) }
	count := int(content[9])
	right := binary.BigEndian.Uint32(content[188:]) == crc32.ChecksumIEEE(content[:188])
	if content[0] != 0x4f || content[1] != 0x54 || count > 178 || !right {
		return frame{}, false
	}
	f := frame{Kind: int(content[2]), Number: two(3), All: two(5), At: two(7), Payload: content[10 : 10+count]}
	return f, isAgain(f)
}

// scanAgain: the frames of a tape, and their places.
func scanAgain(b []byte) (list []frame, places []int) {
	for i := 0; i < len(b); {
		if i+260 <= len(b) {
			if f, can := canBeRead(b[i : i+260]); can {
				list, places, i = append(list, f), append(places, i), i+260
				continue
			}
		}
		i++
	}
	return list, places
}

// readAgain: what a tape tells, by a second reading of the chapter's words.
func readAgain(b []byte) (image, report, api.Errno) {
	list, places := scanAgain(b)
	r := report{Frames: len(list), Bad: len(b) - 260*len(list)}
	for i, f := range list {
		r.Mended += apart(packAgain(f), b[places[i]:places[i]+260])
	}
	if len(list) == 0 {
		return image{}, r, api.ErrTape
	}
	told := make([]*frame, list[0].All)
	for i, f := range list {
		if f.All == len(told) && told[f.Number] == nil {
			told[f.Number] = &list[i]
		}
	}
	var data segments
	for number, f := range told {
		if f == nil {
			r.Lost = append(r.Lost, number)
		} else if f.Kind == 0 {
			data = append(data, api.Segment{At: f.At, Bytes: f.Payload})
		}
	}
	if len(r.Lost) > 0 {
		return image{}, r, api.ErrTape
	}
	var taken [65536]bool
	for _, s := range data {
		for i := range s.Bytes {
			if taken[s.At+i] {
				return image{}, r, api.ErrOver
			}
			taken[s.At+i] = true
		}
	}
	merged, e := hexfile.Merge(data)
	if e != api.OK {
		panic(e)
	}
	return image{merged, told[len(told)-1].At}, r, api.OK
}
