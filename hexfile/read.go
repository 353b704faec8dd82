package hexfile

import (
	"strings"

	"orrery/api"
)

// reading: what the lines so far have told.
type reading struct {
	format   int // 0, till there is a record
	records  int // of all kinds
	data     int // those of data among them
	entry    int
	ended    bool
	taken    []bool // the places that have data
	segments []api.Segment
}

// Read: P2106.
func Read(text string) (File, int, api.Errno) {
	if len(text) > api.MaxText {
		return File{}, 0, api.ErrBig
	}
	lines := strings.Split(text, "\n")
	table := formats()
	r := &reading{entry: nowhere, taken: make([]bool, api.MaxMemory)}
	for number, line := range lines {
		if e := r.line(table, strings.Trim(line, blanks)); e != api.OK {
			return File{}, number, e
		}
	}
	if !r.ended {
		return File{}, len(lines), api.ErrEnds
	}
	merged, _ := Merge(r.segments) // lay has let nothing in that can not be merged
	return File{r.format, merged, r.entry}, 0, api.OK
}

func (r *reading) line(table []format, line string) api.Errno {
	if line == "" {
		return api.OK
	}
	if r.ended {
		return api.ErrMore
	}
	format, one, e := split(table, line)
	if e != api.OK {
		return e
	}
	if r.records > 0 && format != r.format {
		return api.ErrRecord
	}
	r.format = format
	e = table[format].take(r, one)
	r.records++
	return e
}

// first: what must have no record ahead of it.
func (r *reading) first() api.Errno {
	if r.records > 0 {
		return api.ErrRecord
	}
	return api.OK
}

// agree: with how many data records there should have been.
func (r *reading) agree(count int) api.Errno {
	if count != round(r.data) {
		return api.ErrRecord
	}
	return api.OK
}

func (r *reading) enter(entry int) api.Errno {
	if r.entry != nowhere {
		return api.ErrRecord
	}
	r.entry = entry
	return api.OK
}

// lay: the data of a record at their place.
func (r *reading) lay(one record) api.Errno {
	if len(one.data) > api.MaxMemory-one.at {
		return api.ErrRange
	}
	for i := range one.data {
		if r.taken[one.at+i] {
			return api.ErrOver
		}
		r.taken[one.at+i] = true
	}
	r.segments = append(r.segments, api.Segment{At: one.at, Bytes: one.data})
	r.data++
	return api.OK
}
