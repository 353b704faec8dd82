package asm

import (
	"cmp"
	"maps"
	"slices"

	"orrery/api"
)

// ground: the places at which bytes stand.
type ground [api.MaxMemory]bool

// take: size places from here on; ErrOver, if one of them is taken.
func (g *ground) take(here, size int) api.Errno {
	for place := here; place < here+size; place++ {
		if g[place] {
			return api.ErrOver
		}
		g[place] = true
	}
	return api.OK
}

// segmentsOf: rows that have no place in common.
func segmentsOf(rows []Row) []api.Segment {
	rising := slices.Clone(rows)
	slices.SortFunc(rising, func(a, b Row) int { return cmp.Compare(a.At, b.At) })
	var list []api.Segment
	end := -1 // of the last segment
	for _, r := range rising {
		if r.At != end {
			list = append(list, api.Segment{At: r.At})
		}
		last := &list[len(list)-1]
		last.Bytes = append(last.Bytes, r.Bytes...)
		end = r.At + len(r.Bytes)
	}
	return list
}

func inOrder(names map[string]int) []Name {
	var list []Name
	for _, name := range slices.Sorted(maps.Keys(names)) {
		list = append(list, Name{name, names[name]})
	}
	return list
}
