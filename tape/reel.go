package tape

import (
	"slices"

	"orrery/api"
	"orrery/hexfile"
)

// cut: merged segments as numbered frames, with the end.
func cut(merged []api.Segment, entry int) ([]Frame, api.Errno) {
	var list []Frame
	for _, s := range merged {
		at := s.At
		for piece := range slices.Chunk(s.Bytes, mostPayload) {
			list = append(list, Frame{Kind: dataKind, At: at, Payload: piece})
			at += len(piece)
		}
	}
	list = append(list, Frame{Kind: endKind, At: entry})
	if len(list) > mostNumber {
		return nil, api.ErrBig
	}
	for number := range list {
		list[number].Number, list[number].All = number, len(list)
	}
	return list, api.OK
}

// reel: the frames that go together, of those that were told.
type reel struct {
	all    int           // how many there are, by the first one
	frames map[int]Frame // by their numbers
}

func (r *reel) take(f Frame) {
	if r.frames == nil {
		r.all, r.frames = f.All, map[int]Frame{}
	}
	if _, there := r.frames[f.Number]; there || f.All != r.all {
		return
	}
	r.frames[f.Number] = f
}

// lost: the numbers that were not told, rising.
func (r *reel) lost() []int {
	var list []int
	for number := range r.all {
		if _, there := r.frames[number]; !there {
			list = append(list, number)
		}
	}
	return list
}

// image: of a reel that has lost nothing.
func (r *reel) image() (Image, api.Errno) {
	end := r.all - 1
	var data []api.Segment
	for number := range end {
		f := r.frames[number]
		data = append(data, api.Segment{At: f.At, Bytes: f.Payload})
	}
	merged, e := hexfile.Merge(data)
	if e != api.OK {
		return Image{}, e
	}
	return Image{merged, r.frames[end].At}, api.OK
}
