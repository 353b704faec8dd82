package shelf_test

import (
	"fmt"
	"hash/fnv"
	"math"
	"slices"
	"strings"
	"testing"

	"orrery/api"
	"orrery/shelf"
)

// note: one that leans on names.
func note(name string, leans ...string) shelf.Note {
	return shelf.Note{Name: name, Words: len(name), Sum: shelf.Sum([]uint32{uint32(len(name))}), Leans: leans}
}

// filled: a shelf to which notes came in that order.
func filled(t *testing.T, notes ...shelf.Note) *shelf.Shelf {
	t.Helper()
	s := shelf.New()
	for _, n := range notes {
		if e := s.Add(n); e != api.OK {
			t.Fatalf("Add(%v) = %v", n, e)
		}
	}
	return s
}

// same: are two notes the same, an empty list of Leans being as good as nil?
func same(a, b shelf.Note) bool {
	return a.Name == b.Name && a.Words == b.Words && a.Sum == b.Sum && slices.Equal(a.Leans, b.Leans)
}

// distinct: so many names, none of them twice.
func distinct(n int) []string {
	names := make([]string, n)
	for i := range names {
		names[i] = fmt.Sprintf("n%06d", i)
	}
	return names
}

// shuffles calls f with each order of the numbers below n.
func shuffles(n int, f func([]int)) {
	var grow func(list []int)
	grow = func(list []int) {
		if len(list) == n {
			f(list)
			return
		}
		for i := range n {
			if !slices.Contains(list, i) {
				grow(append(slices.Clone(list), i))
			}
		}
	}
	grow(nil)
}

func wantOrder(t *testing.T, s *shelf.Shelf, want []string, wantErr api.Errno) {
	t.Helper()
	got, e := s.Order()
	if e != wantErr || !slices.Equal(got, want) {
		t.Errorf("Order = %v, %v; want %v, %v", got, e, want, wantErr)
	}
}

func wantUnder(t *testing.T, s *shelf.Shelf, name string, want ...string) {
	t.Helper()
	if got := s.Under(name); !slices.Equal(got, want) {
		t.Errorf("Under(%q) = %v, want %v", name, got, want)
	}
}

// P101

func TestSumKnown(t *testing.T) {
	for _, c := range []struct {
		words []uint32
		want  uint32
	}{
		{nil, 2166136261},
		{[]uint32{}, 2166136261},
		{[]uint32{0x61}, 0x6a9625e2},
		{[]uint32{0x666f6f62}, 0x3f5076ef}, // "foob", of the list that the authors of FNV published
	} {
		if got := shelf.Sum(c.words); got != c.want {
			t.Errorf("Sum(%x) = %x, want %x", c.words, got, c.want)
		}
	}
}

func TestSumIsFNV1a(t *testing.T) {
	lists := [][]uint32{{0}, {0, 0}, {1, 2}, {2, 1}, {0x01020304}, {0x04030201}, {math.MaxUint32}, {0x80000000, 0xff, 0xff00, 0xff0000, 0xff000000}}
	long := make([]uint32, api.MaxWords+1)
	for i := range long {
		long[i] = uint32(i) * 2654435761
	}
	lists = append(lists, long)
	for _, words := range lists {
		h := fnv.New32a()
		for _, w := range words {
			h.Write([]byte{byte(w >> 24), byte(w >> 16), byte(w >> 8), byte(w)})
		}
		if got := shelf.Sum(words); got != h.Sum32() {
			t.Errorf("Sum of %d words = %x, want %x", len(words), got, h.Sum32())
		}
	}
}

func TestSumChangesNothing(t *testing.T) {
	room := []uint32{1, 2, 3, 4}
	shelf.Sum(room[:2])
	if !slices.Equal(room, []uint32{1, 2, 3, 4}) {
		t.Errorf("Sum left %v", room)
	}
}

// P102

func TestRightNames(t *testing.T) {
	good := []string{"a", "z", "a.b", "a0", "z9", "a.", "a..", "abc.def.0", strings.Repeat("a", api.MaxName), "a" + strings.Repeat(".", api.MaxName-1)}
	for _, name := range good {
		if e := shelf.Right(shelf.Note{Name: name}); e != api.OK {
			t.Errorf("Right of the name %q = %v", name, e)
		}
		if e := shelf.Right(note("own.name", name)); e != api.OK {
			t.Errorf("Right with the lean %q = %v", name, e)
		}
	}
	bad := []string{"", "A", "1a", ".a", "0", "9", ".", "aB", "aZ", "a b", " a", "a ", "a-b", "a/b", "a:", "a_b", "a`", "`", "{", "a{", "a\x00", "\x00", "a\n", "a\xe1", "\xe1", "ä", "aä", "a\u0131", strings.Repeat("a", api.MaxName+1), strings.Repeat("ä", api.MaxName/2)}
	for _, name := range bad {
		if e := shelf.Right(shelf.Note{Name: name}); e != api.ErrArg {
			t.Errorf("Right of the name %q = %v", name, e)
		}
		if e := shelf.Right(note("own.name", "ok", name)); e != api.ErrArg {
			t.Errorf("Right with the lean %q = %v", name, e)
		}
	}
}

func TestRightEveryByte(t *testing.T) {
	for b := range 256 {
		letter := 'a' <= b && b <= 'z'
		inner := letter || '0' <= b && b <= '9' || b == '.'
		for _, c := range []struct {
			name string
			good bool
		}{
			{string([]byte{byte(b)}), letter},
			{string([]byte{byte(b), 'a'}), letter},
			{string([]byte{'a', byte(b)}), inner},
			{string([]byte{'a', byte(b), 'a'}), inner},
		} {
			if got := shelf.Right(shelf.Note{Name: c.name}) == api.OK; got != c.good {
				t.Errorf("is %q a name: %v", c.name, got)
			}
		}
	}
}

func TestRightWords(t *testing.T) {
	for _, c := range []struct {
		words int
		want  api.Errno
	}{
		{0, api.OK}, {1, api.OK}, {api.MaxWords - 1, api.OK}, {api.MaxWords, api.OK},
		{-1, api.ErrArg}, {api.MaxWords + 1, api.ErrArg}, {math.MinInt, api.ErrArg}, {math.MaxInt, api.ErrArg},
	} {
		if e := shelf.Right(shelf.Note{Name: "a", Words: c.words}); e != c.want {
			t.Errorf("Right with %d words = %v, want %v", c.words, e, c.want)
		}
	}
}

func TestRightAnySum(t *testing.T) {
	for _, sum := range []uint32{0, 1, math.MaxUint32} {
		if e := shelf.Right(shelf.Note{Name: "a", Sum: sum}); e != api.OK {
			t.Errorf("Right with the sum %d = %v", sum, e)
		}
	}
}

func TestRightLeans(t *testing.T) {
	most, more, many := distinct(api.MaxLeans), distinct(api.MaxLeans+1), distinct(100000)
	for _, c := range []struct {
		what  string
		leans []string
		want  api.Errno
	}{
		{"no list", nil, api.OK},
		{"an empty list", []string{}, api.OK},
		{"one", []string{"c"}, api.OK},
		{"the most", most, api.OK},
		{"one more", more, api.ErrBig},
		{"far too many", many, api.ErrBig},
		{"its own name", []string{"a.b"}, api.ErrArg},
		{"its own name last", []string{"c", "d", "a.b"}, api.ErrArg},
		{"a name twice", []string{"c", "c"}, api.ErrArg},
		{"a name twice, apart", []string{"c", "d", "e", "c"}, api.ErrArg},
		{"no name last", []string{"c", "d", ""}, api.ErrArg},
		{"too many, its own name last", append(slices.Clone(most), "a.b"), api.ErrArg},
		{"too many, one twice", append(slices.Clone(most), most[0]), api.ErrArg},
		{"too many, no name last", append(slices.Clone(most), "X"), api.ErrArg},
		{"far too many, one twice", append(slices.Clone(many), many[50000]), api.ErrArg},
		{"far too many, no name last", append(slices.Clone(many), "-"), api.ErrArg},
	} {
		if e := shelf.Right(shelf.Note{Name: "a.b", Words: 1, Leans: c.leans}); e != c.want {
			t.Errorf("%s: Right = %v, want %v", c.what, e, c.want)
		}
	}
}

func TestRightTellsArgAheadOfBig(t *testing.T) {
	more := distinct(api.MaxLeans + 1)
	for _, n := range []shelf.Note{
		{Name: "A", Leans: more},
		{Name: "a", Words: -1, Leans: more},
		{Name: "a", Words: api.MaxWords + 1, Leans: more},
		{Name: more[api.MaxLeans], Leans: more},
	} {
		if e := shelf.Right(n); e != api.ErrArg {
			t.Errorf("Right(%q, %d words) = %v, want ErrArg", n.Name, n.Words, e)
		}
	}
}

func TestRightChangesNothing(t *testing.T) {
	room := []string{"d", "c", "b", "a"}
	shelf.Right(shelf.Note{Name: "x", Leans: room[:2]})
	if !slices.Equal(room, []string{"d", "c", "b", "a"}) {
		t.Errorf("Right left %v", room)
	}
}

// P103

func TestAddIsThere(t *testing.T) {
	s := shelf.New()
	n := shelf.Note{Name: "gf", Words: 512, Sum: 7, Leans: []string{"later", "bits"}}
	if e := s.Add(n); e != api.OK {
		t.Fatalf("Add = %v", e)
	}
	if got, there := s.Get("gf"); !there || !same(got, n) {
		t.Errorf("Get = %v, %v", got, there)
	}
	if _, there := s.Get("later"); there {
		t.Error("what a note leans on came with it")
	}
}

func TestAddOfNil(t *testing.T) {
	var s *shelf.Shelf
	for _, n := range []shelf.Note{note("a"), note("A"), {}, note("a", distinct(api.MaxLeans+1)...)} {
		if e := s.Add(n); e != api.ErrNil {
			t.Errorf("Add(%v) of a nil shelf = %v", n, e)
		}
	}
}

func TestAddThere(t *testing.T) {
	s := filled(t, note("a", "b"), note("b"))
	if e := s.Add(note("a", "c", "d")); e != api.ErrThere {
		t.Errorf("Add of a name that is there = %v", e)
	}
	if n, _ := s.Get("a"); !same(n, note("a", "b")) {
		t.Errorf("a refused note changed the one that is there: %v", n)
	}
	if s.Len() != 2 {
		t.Errorf("Len = %d", s.Len())
	}
}

// full: a shelf that takes no more notes, its first name being there.
func full(t *testing.T) *shelf.Shelf {
	t.Helper()
	s := shelf.New()
	for i, name := range distinct(api.MaxNotes) {
		if e := s.Add(note(name)); e != api.OK {
			t.Fatalf("Add of note %d = %v", i+1, e)
		}
	}
	return s
}

func TestAddFull(t *testing.T) {
	s := full(t)
	if e := s.Add(note("one.more")); e != api.ErrBig {
		t.Errorf("Add to a full shelf = %v", e)
	}
	if _, there := s.Get("one.more"); there || s.Len() != api.MaxNotes {
		t.Errorf("a refused note is there, Len = %d", s.Len())
	}
}

func TestAddErrorsInOrder(t *testing.T) {
	s, there := full(t), distinct(1)[0]
	for _, c := range []struct {
		what string
		n    shelf.Note
		want api.Errno
	}{
		{"no name", note("A"), api.ErrArg},
		{"a name that is there, too many words", shelf.Note{Name: there, Words: api.MaxWords + 1}, api.ErrArg},
		{"a name that is there, leaning on itself", note(there, there), api.ErrArg},
		{"a name that is there, too many leans", note(there, distinct(api.MaxLeans + 2)[1:]...), api.ErrBig},
		{"a name that is there", note(there), api.ErrThere},
		{"a new name", note("new"), api.ErrBig},
	} {
		if e := s.Add(c.n); e != c.want {
			t.Errorf("%s: Add to a full shelf = %v, want %v", c.what, e, c.want)
		}
	}
}

func TestAddRefusedChangesNothing(t *testing.T) {
	s := filled(t, note("a", "b"))
	for _, n := range []shelf.Note{note("B"), note(""), note("c", "c"), note("c", "d", "d"), {Name: "c", Words: -1}, note("c", distinct(api.MaxLeans+1)...)} {
		if e := s.Add(n); e == api.OK {
			t.Errorf("Add(%v) = OK", n)
		}
	}
	if s.Len() != 1 || len(s.Notes()) != 1 {
		t.Errorf("Notes = %v", s.Notes())
	}
}

func TestAddKeepsNothingOfTheCaller(t *testing.T) {
	room := []string{"x", "y", "spare"}
	s := filled(t, shelf.Note{Name: "a", Leans: room[:2]})
	if !slices.Equal(room, []string{"x", "y", "spare"}) {
		t.Errorf("Add left %v", room)
	}
	room[0], room[2] = "z", "w"
	if n, _ := s.Get("a"); !slices.Equal(n.Leans, []string{"x", "y"}) {
		t.Errorf("the caller's list is kept: %v", n.Leans)
	}
	wantUnder(t, s, "a", "x", "y")
}

// P104

func TestNewIsEmpty(t *testing.T) {
	s := shelf.New()
	if s == nil {
		t.Fatal("New = nil")
	}
	n, there := s.Get("a")
	if s.Len() != 0 || len(s.Notes()) != 0 || there || !same(n, shelf.Note{}) {
		t.Errorf("an empty shelf has %d, %v, %v, %v", s.Len(), s.Notes(), n, there)
	}
	wantOrder(t, s, nil, api.OK)
	wantUnder(t, s, "a")
	if c := s.Clone(); c == nil || c.Len() != 0 {
		t.Errorf("Clone of an empty shelf = %v", c)
	}
}

func TestShelvesShareNothing(t *testing.T) {
	a, b := shelf.New(), shelf.New()
	a.Add(note("a"))
	if b.Len() != 0 {
		t.Error("a note came onto another shelf")
	}
}

func TestLooksOfNil(t *testing.T) {
	var s *shelf.Shelf
	if n, there := s.Get("a"); there || !same(n, shelf.Note{}) {
		t.Errorf("Get = %v, %v", n, there)
	}
	if s.Len() != 0 || len(s.Notes()) != 0 || s.Clone() != nil {
		t.Errorf("Len, Notes, Clone = %v, %v, %v", s.Len(), s.Notes(), s.Clone())
	}
}

func TestGetKeepsTheOrderOfLeans(t *testing.T) {
	leans := []string{"z", "a", "m", "b.c", "b"}
	s := filled(t, note("n", leans...))
	if n, there := s.Get("n"); !there || !slices.Equal(n.Leans, leans) {
		t.Errorf("Get = %v, %v", n, there)
	}
	if l := s.Notes(); len(l) != 1 || !slices.Equal(l[0].Leans, leans) {
		t.Errorf("Notes = %v", l)
	}
	if n, _ := s.Clone().Get("n"); !slices.Equal(n.Leans, leans) {
		t.Errorf("Clone has %v", n)
	}
}

func TestGetOfWhatIsNotThere(t *testing.T) {
	s := filled(t, note("a", "b"))
	for _, name := range []string{"b", "", "A", "aa", strings.Repeat("x", api.MaxText)} {
		if n, there := s.Get(name); there || !same(n, shelf.Note{}) {
			t.Errorf("Get(%.9q) = %v, %v", name, n, there)
		}
	}
}

func TestLenCounts(t *testing.T) {
	s := shelf.New()
	for i, name := range distinct(api.MaxNotes) {
		s.Add(note(name))
		if s.Len() != i+1 {
			t.Fatalf("Len = %d behind %d notes", s.Len(), i+1)
		}
	}
}

func TestNotesInOrderOfNames(t *testing.T) {
	// A point stands ahead of the digits, the digits ahead of the letters, a name ahead of those that it begins.
	names := []string{"a", "a.", "a.b", "a0", "a10", "a2", "aa", "ab", "b", "b.a", "z"}
	shuffled := []int{4, 9, 0, 7, 2, 10, 1, 5, 8, 3, 6}
	s := shelf.New()
	for _, i := range shuffled {
		s.Add(shelf.Note{Name: names[i], Words: i, Sum: uint32(i) + 9, Leans: []string{"z.z", "q"}})
	}
	notes := s.Notes()
	if len(notes) != len(names) {
		t.Fatalf("Notes = %v", notes)
	}
	for i, n := range notes {
		if !same(n, shelf.Note{Name: names[i], Words: i, Sum: uint32(i) + 9, Leans: []string{"z.z", "q"}}) {
			t.Errorf("note %d = %v", i, n)
		}
	}
}

func TestCloneHasTheSameNotes(t *testing.T) {
	s := filled(t, note("c", "b", "a"), note("b", "a"), note("a"))
	c := s.Clone()
	if !slices.EqualFunc(s.Notes(), c.Notes(), same) {
		t.Errorf("Clone has %v", c.Notes())
	}
	c.Add(note("d", "c"))
	s.Add(note("e"))
	s.Add(note("f"))
	if s.Len() != 5 || c.Len() != 4 {
		t.Errorf("a shelf and its clone share notes: %d, %d", s.Len(), c.Len())
	}
	if _, there := s.Get("d"); there {
		t.Error("a clone's note is on the first shelf")
	}
	if _, there := c.Get("e"); there {
		t.Error("a note of the first shelf came onto its clone")
	}
}

func TestAnswersAreTheCallers(t *testing.T) {
	s := filled(t, note("a", "b", "c"), note("b", "d"), note("c"), note("d"))
	c := s.Clone()
	spoil := func(list []string) {
		list = list[:cap(list)]
		for i := range list {
			list[i] = "spoilt"
		}
	}
	for range 2 {
		n, _ := s.Get("a")
		spoil(n.Leans)
		notes := s.Notes()
		for _, n := range notes {
			spoil(n.Leans)
		}
		notes = notes[:cap(notes)]
		for i := range notes {
			notes[i] = shelf.Note{Name: "spoilt"}
		}
		order, _ := s.Order()
		spoil(order)
		spoil(s.Under("a"))
		m, _ := c.Get("a")
		spoil(m.Leans)
	}
	for _, x := range []*shelf.Shelf{s, c} {
		if !slices.EqualFunc(x.Notes(), []shelf.Note{note("a", "b", "c"), note("b", "d"), note("c"), note("d")}, same) {
			t.Errorf("a caller wrote into a shelf: %v", x.Notes())
		}
		wantOrder(t, x, []string{"c", "d", "b", "a"}, api.OK)
		wantUnder(t, x, "a", "b", "c", "d")
	}
}

func TestListsOfNotesShareNothing(t *testing.T) {
	s := filled(t, note("a", "x", "y"), note("b", "x", "y"))
	notes := s.Notes()
	_ = append(notes[0].Leans, "one", "two", "three")
	notes[0].Leans[0] = "spoilt"
	if !slices.Equal(notes[1].Leans, []string{"x", "y"}) {
		t.Errorf("two lists of one answer share memory: %v", notes)
	}
}

// P105

func TestOrderExamples(t *testing.T) {
	wantOrder(t, filled(t, note("c", "b"), note("b", "a"), note("a")), []string{"a", "b", "c"}, api.OK)
	wantOrder(t, filled(t, note("c", "b"), note("b", "a")), nil, api.ErrLean)
	wantOrder(t, filled(t, note("c", "b"), note("b", "a"), note("a", "c")), nil, api.ErrRing)
}

func TestOrderTakesTheLeast(t *testing.T) {
	for _, c := range []struct {
		what  string
		notes []shelf.Note
		want  []string
	}{
		{"no leans", []shelf.Note{note("c"), note("a.b"), note("a"), note("a0")}, []string{"a", "a.b", "a0", "c"}},
		{"the last first", []shelf.Note{note("a", "z"), note("b"), note("z")}, []string{"b", "z", "a"}},
		{"one that comes free is the least", []shelf.Note{note("a", "c"), note("b", "d"), note("c"), note("d"), note("e")}, []string{"c", "a", "d", "b", "e"}},
		{"not in layers", []shelf.Note{note("a"), note("b", "a"), note("c")}, []string{"a", "b", "c"}},
		{"a chain backwards", []shelf.Note{note("a", "b"), note("b", "c"), note("c", "d"), note("d")}, []string{"d", "c", "b", "a"}},
		{"a diamond", []shelf.Note{note("top", "left", "right"), note("right", "base"), note("left", "base"), note("base")}, []string{"base", "left", "right", "top"}},
	} {
		t.Run(c.what, func(t *testing.T) { wantOrder(t, filled(t, c.notes...), c.want, api.OK) })
	}
}

func TestOrderOfNil(t *testing.T) {
	var s *shelf.Shelf
	wantOrder(t, s, nil, api.ErrNil)
}

func TestOrderTellsLeanAheadOfRing(t *testing.T) {
	wantOrder(t, filled(t, note("a", "b"), note("b", "a"), note("c", "gone")), nil, api.ErrLean)
	wantOrder(t, filled(t, note("a", "b"), note("b", "a", "gone")), nil, api.ErrLean)
	wantOrder(t, filled(t, note("z", "gone"), note("m"), note("a", "m")), nil, api.ErrLean)
}

func TestOrderRings(t *testing.T) {
	wantOrder(t, filled(t, note("a", "b"), note("b", "a")), nil, api.ErrRing)
	wantOrder(t, filled(t, note("a"), note("b", "a"), note("m", "n"), note("n", "m"), note("z", "b")), nil, api.ErrRing)
	wantOrder(t, filled(t, note("a", "b"), note("b", "c"), note("c", "b")), nil, api.ErrRing)
	names, s := distinct(api.MaxNotes), shelf.New()
	for i, name := range names {
		s.Add(note(name, names[(i+1)%len(names)]))
	}
	wantOrder(t, s, nil, api.ErrRing)
}

func TestOrderOfFullShelf(t *testing.T) {
	names, s := distinct(api.MaxNotes), shelf.New()
	for i, name := range names {
		s.Add(note(name, names[i+1:min(len(names), i+1+api.MaxLeans)]...))
	}
	want := slices.Clone(names)
	slices.Reverse(want)
	wantOrder(t, s, want, api.OK)
}

func TestOrderMendsWhenTheNoteComes(t *testing.T) {
	s := filled(t, note("b", "a"))
	wantOrder(t, s, nil, api.ErrLean)
	s.Add(note("a"))
	wantOrder(t, s, []string{"a", "b"}, api.OK)
	wantOrder(t, s, []string{"a", "b"}, api.OK)
}

// TestOrderIsTheLeastOfAll holds Order against all orders of four notes, for every way in which they may lean on one another: taking the least name at each step is the least of the right orders.
func TestOrderIsTheLeastOfAll(t *testing.T) {
	names := []string{"a", "b", "c", "d"}
	var orders [][]string
	shuffles(len(names), func(list []int) {
		order := make([]string, len(list))
		for i, n := range list {
			order[i] = names[n]
		}
		orders = append(orders, order)
	})
	slices.SortFunc(orders, slices.Compare)
	for ways := range 1 << (len(names) * len(names)) {
		leans, ok := leansOf(names, ways)
		if !ok {
			continue
		}
		s := shelf.New()
		for _, name := range names {
			s.Add(note(name, leans[name]...))
		}
		i := slices.IndexFunc(orders, func(order []string) bool { return rightOrder(order, leans) })
		if i < 0 {
			wantOrder(t, s, nil, api.ErrRing)
		} else {
			wantOrder(t, s, orders[i], api.OK)
		}
	}
}

// leansOf reads a bit for each pair of names; false if one would lean on itself.
func leansOf(names []string, ways int) (map[string][]string, bool) {
	leans := map[string][]string{}
	for i, from := range names {
		for j, to := range names {
			if ways>>(i*len(names)+j)&1 == 0 {
				continue
			}
			if i == j {
				return nil, false
			}
			leans[from] = append(leans[from], to)
		}
	}
	return leans, true
}

func rightOrder(order []string, leans map[string][]string) bool {
	for i, name := range order {
		for _, lean := range leans[name] {
			if !slices.Contains(order[:i], lean) {
				return false
			}
		}
	}
	return true
}

// P106

func TestUnder(t *testing.T) {
	s := filled(t, note("c", "b"), note("b", "a"), note("a"))
	wantUnder(t, s, "c", "a", "b")
	wantUnder(t, s, "b", "a")
	wantUnder(t, s, "a")
}

func TestUnderNamesInOrderAndOnce(t *testing.T) {
	s := filled(t, note("top", "z", "m", "b"), note("z", "b", "a"), note("m", "a", "zz"), note("b", "a"), note("a"), note("zz"), note("apart", "top"))
	wantUnder(t, s, "top", "a", "b", "m", "z", "zz")
	wantUnder(t, s, "apart", "a", "b", "m", "top", "z", "zz")
}

func TestUnderNamesThatAreNotThere(t *testing.T) {
	s := filled(t, note("c", "b", "gone.1"), note("b", "gone.0"))
	wantUnder(t, s, "c", "b", "gone.0", "gone.1")
	wantUnder(t, s, "gone.0")
}

func TestUnderOfWhatIsNotThere(t *testing.T) {
	s := filled(t, note("a", "b"))
	for _, name := range []string{"b", "x", "", "A", strings.Repeat("x", api.MaxText)} {
		wantUnder(t, s, name)
	}
	var none *shelf.Shelf
	wantUnder(t, none, "a")
	wantUnder(t, none, "")
}

func TestUnderRings(t *testing.T) {
	s := filled(t, note("a", "b"), note("b", "c"), note("c", "a"), note("d", "a"), note("e", "f"), note("f", "e", "g"))
	wantUnder(t, s, "a", "a", "b", "c")
	wantUnder(t, s, "b", "a", "b", "c")
	wantUnder(t, s, "c", "a", "b", "c")
	wantUnder(t, s, "d", "a", "b", "c") // it leads to a ring, but stands in none
	wantUnder(t, s, "e", "e", "f", "g")
	wantUnder(t, s, "f", "e", "f", "g")
}

func TestUnderOfFullShelf(t *testing.T) {
	names, all, s := distinct(api.MaxNotes*api.MaxLeans), []string{}, shelf.New()
	for i := range api.MaxNotes {
		leans := slices.Clone(names[i*api.MaxLeans : (i+1)*api.MaxLeans])
		leans[0] = fmt.Sprintf("m%06d", i+1)
		all = append(all, leans...)
		s.Add(note(fmt.Sprintf("m%06d", i), leans...))
	}
	slices.Sort(all)
	wantUnder(t, s, "m000000", all...)
}

// P107

func TestOrderOfComingDoesNotMatter(t *testing.T) {
	for _, notes := range [][]shelf.Note{
		{note("a", "e"), note("b", "d", "c"), note("c"), note("d", "a"), note("e")},
		{note("a", "e"), note("b"), note("c", "d"), note("d", "c"), note("e")},
		{note("a", "b"), note("b", "a"), note("c", "gone"), note("d"), note("e", "d")},
		{note("e"), note("d"), note("c"), note("b"), note("a")},
	} {
		want, wantErr := filled(t, notes...).Order()
		wantNotes := filled(t, notes...).Notes()
		shuffles(len(notes), func(list []int) {
			s := shelf.New()
			for _, i := range list {
				s.Add(notes[i])
			}
			wantOrder(t, s, want, wantErr)
			wantOrder(t, s.Clone(), want, wantErr)
			if !slices.EqualFunc(s.Notes(), wantNotes, same) {
				t.Errorf("Notes = %v, want %v", s.Notes(), wantNotes)
			}
		})
	}
}

func TestOrderOfLeansDoesNotMatter(t *testing.T) {
	leans := []string{"d", "b", "e", "c"}
	shuffles(len(leans), func(list []int) {
		mixed := make([]string, len(list))
		for i, n := range list {
			mixed[i] = leans[n]
		}
		s := filled(t, note("a", mixed...), note("b", "e"), note("c"), note("d"), note("e"))
		wantOrder(t, s, []string{"c", "d", "e", "b", "a"}, api.OK)
		wantUnder(t, s, "a", "b", "c", "d", "e")
	})
}
