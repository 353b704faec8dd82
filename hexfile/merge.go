package hexfile

import (
	"cmp"
	"slices"

	"orrery/api"
)

// Merge: P2101.
func Merge(l []api.Segment) ([]api.Segment, api.Errno) {
	var rising []api.Segment
	for _, s := range l {
		if !fitsMemory(s) {
			return nil, api.ErrArg
		}
		if len(s.Bytes) > 0 {
			rising = append(rising, s)
		}
	}
	slices.SortFunc(rising, func(a, b api.Segment) int { return cmp.Compare(a.At, b.At) })
	return joined(rising)
}

// Same: P2101.
func Same(a, b []api.Segment) bool {
	first, e := Merge(a)
	if e != api.OK {
		return false
	}
	second, e := Merge(b)
	if e != api.OK {
		return false
	}
	return slices.EqualFunc(first, second, func(x, y api.Segment) bool {
		return x.At == y.At && slices.Equal(x.Bytes, y.Bytes)
	})
}

// fitsMemory: one that has no bytes may stand at the end of memory, too.
func fitsMemory(s api.Segment) bool { return s.At >= 0 && s.At <= api.MaxMemory-len(s.Bytes) }

func joined(rising []api.Segment) ([]api.Segment, api.Errno) {
	var list []api.Segment
	end := -1 // of the last one
	for _, s := range rising {
		if s.At < end {
			return nil, api.ErrOver
		}
		if s.At > end {
			list = append(list, api.Segment{At: s.At})
		}
		last := &list[len(list)-1]
		last.Bytes = append(last.Bytes, s.Bytes...)
		end = s.At + len(s.Bytes)
	}
	return list, api.OK
}
