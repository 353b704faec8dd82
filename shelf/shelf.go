// Package shelf is layer 1: a register of tables, and the order in which they can be made. See shared/doc/01-shelf.md.
package shelf

import (
	"slices"

	"orrery/api"
)

// The two numbers of FNV-1a of 32 bits.
const (
	sumBegin uint32 = 2166136261
	sumTimes uint32 = 16777619
)

// Note: of a table.
type Note struct {
	Name  string
	Words int
	Sum   uint32
	Leans []string
}

// Shelf: notes by their names.
type Shelf struct {
	notes map[string]Note
}

// Sum: FNV-1a over the words' bytes, the highest of each word first.
func Sum(words []uint32) uint32 {
	sum := sumBegin
	for _, word := range words {
		sum = sumByte(sum, byte(word>>24))
		sum = sumByte(sum, byte(word>>16))
		sum = sumByte(sum, byte(word>>8))
		sum = sumByte(sum, byte(word))
	}
	return sum
}

func sumByte(sum uint32, b byte) uint32 {
	return (sum ^ uint32(b)) * sumTimes
}

// Right: may a note be?
func Right(n Note) api.Errno {
	if !isName(n.Name) || n.Words < 0 || n.Words > api.MaxWords || !rightLeans(n.Name, n.Leans) {
		return api.ErrArg
	}
	if len(n.Leans) > api.MaxLeans {
		return api.ErrBig
	}
	return api.OK
}

func isName(name string) bool {
	if len(name) < 1 || len(name) > api.MaxName || !isLetter(name[0]) {
		return false
	}
	for i := range len(name) {
		if !isLetter(name[i]) && !isDigit(name[i]) && name[i] != '.' {
			return false
		}
	}
	return true
}

func isLetter(b byte) bool { return 'a' <= b && b <= 'z' }

func isDigit(b byte) bool { return '0' <= b && b <= '9' }

// rightLeans counts in a map, since its list may be of any length: that it is too long is told only if nothing else is wrong with it.
func rightLeans(own string, leans []string) bool {
	count := map[string]int{}
	for _, lean := range leans {
		count[lean]++
		if !isName(lean) || lean == own || count[lean] > 1 {
			return false
		}
	}
	return true
}

// New: an empty shelf.
func New() *Shelf { return &Shelf{notes: map[string]Note{}} }

// Add: a note more. What it leans on may come later.
func (s *Shelf) Add(n Note) api.Errno {
	if s == nil {
		return api.ErrNil
	}
	if e := Right(n); e != api.OK {
		return e
	}
	if _, there := s.notes[n.Name]; there {
		return api.ErrThere
	}
	if len(s.notes) >= api.MaxNotes {
		return api.ErrBig
	}
	s.notes[n.Name] = copyNote(n)
	return api.OK
}

// copyNote keeps the Leans of a shelf apart from those of its callers.
func copyNote(n Note) Note {
	n.Leans = append([]string(nil), n.Leans...)
	return n
}

// Get: the note of that name.
func (s *Shelf) Get(name string) (Note, bool) {
	if s == nil {
		return Note{}, false
	}
	n, there := s.notes[name]
	return copyNote(n), there
}

// Len: how many notes.
func (s *Shelf) Len() int {
	if s == nil {
		return 0
	}
	return len(s.notes)
}

// Notes: all of them, in the order of their names.
func (s *Shelf) Notes() []Note {
	if s == nil {
		return nil
	}
	notes := make([]Note, 0, len(s.notes))
	for _, name := range s.names() {
		notes = append(notes, copyNote(s.notes[name]))
	}
	return notes
}

// names are sorted, so that the order of the range is not to be seen.
func (s *Shelf) names() []string {
	names := make([]string, 0, len(s.notes))
	for name := range s.notes {
		names = append(names, name)
	}
	slices.Sort(names)
	return names
}

// Order: all names, each behind those that it leans on, the least first where there is a choice.
func (s *Shelf) Order() ([]string, api.Errno) {
	if s == nil {
		return nil, api.ErrNil
	}
	if s.lacks() {
		return nil, api.ErrLean
	}
	names := s.names()
	order := make([]string, 0, len(names))
	placed := map[string]int{}
	for range names {
		next, found := s.next(names, placed)
		if !found {
			return nil, api.ErrRing
		}
		order = append(order, next)
		placed[next] = len(order)
	}
	return order, api.OK
}

// lacks: does a note lean on a name that is not there?
func (s *Shelf) lacks() bool {
	for _, n := range s.notes {
		for _, lean := range n.Leans {
			if _, there := s.notes[lean]; !there {
				return true
			}
		}
	}
	return false
}

// next: the first of the names that has no place yet, while all that it leans on have theirs.
func (s *Shelf) next(names []string, placed map[string]int) (string, bool) {
	for _, name := range names {
		if placed[name] == 0 && allPlaced(s.notes[name].Leans, placed) {
			return name, true
		}
	}
	return "", false
}

func allPlaced(names []string, placed map[string]int) bool {
	for _, name := range names {
		if placed[name] == 0 {
			return false
		}
	}
	return true
}

// Under: all names that a note leans on, directly or through others, in order.
func (s *Shelf) Under(name string) []string {
	if s == nil {
		return nil
	}
	under := addNew(nil, s.notes[name].Leans)
	for i := 0; i < len(under); i++ { // it grows while it is gone through
		under = addNew(under, s.notes[under[i]].Leans)
	}
	slices.Sort(under)
	return under
}

// addNew leaves out what is there already: by that a walk through a ring ends.
func addNew(list, more []string) []string {
	for _, name := range more {
		if !slices.Contains(list, name) {
			list = append(list, name)
		}
	}
	return list
}

// Clone: a shelf with the same notes, that shares nothing with this one.
func (s *Shelf) Clone() *Shelf {
	if s == nil {
		return nil
	}
	c := New()
	for name, n := range s.notes {
		c.notes[name] = copyNote(n)
	}
	return c
}
