package tape

import (
	"bytes"

	"orrery/api"
	"orrery/crc"
)

// The kinds of frames.
const (
	dataKind = 0
	endKind  = 1
)

const (
	letters     = "OT" // what each content begins with
	mostPayload = 178
	mostNumber  = 65535 // of two bytes
)

// Where a content has its parts; what stands between two of these is one part.
const (
	atKind    = 2
	atNumber  = 3
	atAll     = 5
	atPlace   = 7
	atCount   = 9
	atPayload = 10
	atSum     = 188
)

// isFrame: by the words of the chapter.
func (f Frame) isFrame() bool {
	return isNumber(f.Number) && isNumber(f.All) && isNumber(f.At) &&
		len(f.Payload) <= mostPayload && f.At+len(f.Payload) <= api.MaxMemory &&
		f.Number < f.All && f.hasItsKind()
}

func isNumber(n int) bool { return n >= 0 && n <= mostNumber }

func (f Frame) hasItsKind() bool {
	last := f.Number == f.All-1
	switch f.Kind {
	case dataKind:
		return !last
	case endKind:
		return last && len(f.Payload) == 0
	}
	return false
}

// content: of what is a frame.
func (f Frame) content() []byte {
	list := make([]byte, contentBytes)
	copy(list, letters)
	list[atKind] = byte(f.Kind)
	put(list[atNumber:atAll], uint32(f.Number))
	put(list[atAll:atPlace], uint32(f.All))
	put(list[atPlace:atCount], uint32(f.At))
	list[atCount] = byte(len(f.Payload))
	copy(list[atPayload:atSum], f.Payload)
	put(list[atSum:], crc.Sum32(list[:atSum]))
	return list
}

// frameOf: the frame that a content tells; false, if it tells none. What fills the payload up is not asked, since the sum goes over it.
func frameOf(content []byte) (Frame, bool) {
	count := int(content[atCount])
	if string(content[:atKind]) != letters || count > mostPayload || numberOf(content[atSum:]) != crc.Sum32(content[:atSum]) {
		return Frame{}, false
	}
	f := Frame{
		Kind:    int(content[atKind]),
		Number:  int(numberOf(content[atNumber:atAll])),
		All:     int(numberOf(content[atAll:atPlace])),
		At:      int(numberOf(content[atPlace:atCount])),
		Payload: bytes.Clone(content[atPayload : atPayload+count]),
	}
	if !f.isFrame() {
		return Frame{}, false
	}
	return f, true
}

// put: a number over a whole list, its highest byte first.
func put(list []byte, number uint32) {
	for i := range list {
		list[len(list)-1-i] = byte(number >> (8 * i))
	}
}

// numberOf: what put has put there.
func numberOf(list []byte) uint32 {
	number := uint32(0)
	for _, b := range list {
		number = number<<8 | uint32(b)
	}
	return number
}
