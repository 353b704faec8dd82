package disasm

import (
	"cmp"
	"slices"

	"orrery/api"
)

// merge: the segments without empty ones, rising, adjacent ones in one.
func merge(l []api.Segment) ([]stretch, api.Errno) {
	var rising []stretch
	for _, one := range l {
		s := stretch(one)
		if !s.fits() {
			return nil, api.ErrArg
		}
		if len(s.Bytes) > 0 {
			rising = append(rising, s)
		}
	}
	slices.SortFunc(rising, func(a, b stretch) int { return cmp.Compare(a.At, b.At) })
	if overlap(rising) {
		return nil, api.ErrOver
	}
	return joined(rising), api.OK
}

// overlap: have two of them a place in common?
func overlap(rising []stretch) bool {
	end := 0
	for _, s := range rising {
		if s.At < end {
			return true
		}
		end = s.end()
	}
	return false
}

func joined(rising []stretch) []stretch {
	var list []stretch
	end := -1 // of the last one
	for _, s := range rising {
		if s.At != end {
			list = append(list, stretch{At: s.At})
		}
		last := &list[len(list)-1]
		last.Bytes = append(last.Bytes, s.Bytes...)
		end = s.end()
	}
	return list
}
