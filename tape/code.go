package tape

import (
	"iter"
	"math/bits"

	"orrery/api"
	"orrery/rs"
)

const (
	mark         = 0x55AA55A7
	markBytes    = 4
	mostTurned   = 4 // bits of a mark that can be read
	words        = 4
	parityBytes  = 16
	dataBytes    = 48 // of a word
	contentBytes = words * dataBytes
	frameBytes   = markBytes + words*(dataBytes+parityBytes)
)

// code: what frames are written and read by. It takes its time to make, so it is made once a call.
type code struct{ *rs.Code }

func newCode() code {
	c, _ := rs.New(parityBytes, 0) // there is such a code
	return code{c}
}

// pack: what is a frame.
func (c code) pack(f Frame) []byte {
	content := f.content()
	rows := make([][]byte, words)
	for i := range rows {
		rows[i], _ = c.Encode(content[i*dataBytes : (i+1)*dataBytes]) // a word has room for them
	}
	laid, _ := rs.Interleave(rows) // they have all one length
	list := make([]byte, markBytes, frameBytes)
	put(list, mark)
	return append(list, laid...)
}

// mended: at how many places the bytes that a frame was read from are not its own.
func (c code) mended(b []byte, f Frame) int {
	count := 0
	for i, own := range c.pack(f) {
		if b[i] != own {
			count++
		}
	}
	return count
}

// frames: those of a tape, with their places.
func (c code) frames(tape []byte) iter.Seq2[int, Frame] {
	return func(yield func(int, Frame) bool) {
		next := 0
	places:
		for next <= len(tape)-frameBytes {
			place := next
			next++ // but behind the frame, if there is one
			if !isMark(tape[place : place+markBytes]) {
				continue places
			}
			rows, _ := rs.Deal(tape[place+markBytes:place+frameBytes], words) // their bytes are a multiple of words
			var content []byte
			for _, word := range rows {
				data, _, e := c.Decode(word, nil)
				if e != api.OK {
					continue places
				}
				content = append(content, data...)
			}
			f, there := frameOf(content)
			if !there {
				continue places
			}
			if !yield(place, f) {
				return
			}
			next = place + frameBytes
		}
	}
}

// isMark: or near enough to it.
func isMark(b []byte) bool { return bits.OnesCount32(numberOf(b)^mark) <= mostTurned }
