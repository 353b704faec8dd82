package lr_test

import (
	"fmt"
	"math/rand"
	"slices"
	"testing"

	"orrery/api"
	"orrery/lr"
)

// F14.6: word by word.
func TestPack(t *testing.T) {
	x := lr.Table{Action: [][]int{{2, -1, 0}, {1, -2, lr.Accept}}, Goto: [][]int{{1, -1}, {0, 1}}, Left: []int{0, 1}, Size: []int{3, api.MaxText}}
	want := []uint32{2, 3, 2, 2, 2, 0xffffffff, 0, 1, 0xffffffff, 1, 0xfffffffe, 0x40000000, 0, 1, 0, 3, 1, 0x100000}
	words, e := lr.Pack(x)
	if !slices.Equal(words, want) || e != api.OK {
		t.Errorf("Pack = %v, %v, not %v", words, e, want)
	}
	back, e := lr.Unpack(want)
	wantErrno(t, "Unpack", e, api.OK)
	wantTable(t, "Unpack", back, x)
}

// wantThereAndBack: P1405.
func wantThereAndBack(t *testing.T, what string, x lr.Table) {
	t.Helper()
	words, e := lr.Pack(x)
	if e != api.OK {
		t.Errorf("Pack of %s: %v", what, e)
		return
	}
	wantNumber(t, "words of "+what, len(words), 4+len(x.Action)*(len(x.Action[0])+len(x.Goto[0]))+2*len(x.Left))
	back, e := lr.Unpack(words)
	wantErrno(t, "Unpack of "+what, e, api.OK)
	wantTable(t, what, back, x)
}

// P1405: of tables of all kinds.
func TestThereAndBack(t *testing.T) {
	r := rand.New(rand.NewSource(1407))
	for range 500 {
		wantThereAndBack(t, "some table", someTable(r))
		g := small(t, r, 3)
		x, _ := built(t, g, 1+r.Intn(2), somePrecs(r, g)...)
		wantThereAndBack(t, g.Text(), x)
	}
	x, _ := built(t, sums(t), lr.SLR)
	wantThereAndBack(t, "sums", x)
	for _, size := range []int{0, 1, 1 << 16, api.MaxText - 1, api.MaxText} {
		wantThereAndBack(t, "a Size", bent(wide(1, 2, 1, 3), func(y *lr.Table) { y.Size[1] = size }))
	}
}

// F14.6: MaxWords words, and one more; Sizes that are no table's.
func TestPackAtItsEdges(t *testing.T) {
	for _, n := range [][4]int{{1023, 2, 2, 0}, {137, 20, 8, 128}, {1023, 1, 3, 0}, {341, 8, 4, 0}, {1022, 1, 3, 2}, {31, 4, 128, 0}, {31, 128, 4, 0}} {
		x := wide(n[0], n[1], n[2], n[3])
		words, _ := lr.Pack(x)
		wantNumber(t, "words", len(words), api.MaxWords)
		wantThereAndBack(t, "MaxWords words", x)
	}
	for _, n := range [][4]int{{87, 40, 7, 2}, {87, 7, 40, 2}, {1023, 2, 2, 1}, {1024, 2, 2, 0}, {1023, 2, 3, 0}, {1023, 3, 2, 0}, {api.MaxItems, api.MaxSymbols, api.MaxSymbols, api.MaxRules}} {
		x := wide(n[0], n[1], n[2], n[3])
		size := 4 + n[0]*(n[1]+n[2]) + 2*n[3]
		if words, e := lr.Pack(x); len(words) != 0 || e != api.ErrBig {
			t.Errorf("Pack of %d words: %d, %v", size, len(words), e)
		}
	}
	for _, size := range []int{api.MaxText + 1, 1<<31 - 1, 1 << 31, 1<<32 - 1, 1 << 32, 1<<32 + 1} { // since such tables are none, that is told first
		for _, states := range []int{1, api.MaxItems} {
			x := bent(wide(states, 3, 2, 3), func(y *lr.Table) { y.Size[1] = size })
			if words, e := lr.Pack(x); len(words) != 0 || e != api.ErrArg {
				t.Errorf("Pack of the Size %d: %v, %v", size, words, e)
			}
		}
	}
	bad := bent(wide(api.MaxItems, 128, 128, 1), func(y *lr.Table) { y.Left[0] = 128 })
	wantNone(t, "a table that is none, and too many words", bad)
}

func wantNoTable(t *testing.T, what string, words []uint32) {
	t.Helper()
	if x, e := lr.Unpack(words); !isZero(x) || e != api.ErrTable {
		t.Errorf("Unpack of %s: %v, %v", what, x, e)
	}
}

// F14.6: too few words, too many, and numbers that do not fit.
func TestUnpackOfWrongWords(t *testing.T) {
	x := wide(3, 4, 3, 2)
	x.Action[0], x.Goto[1] = []int{3, -2, 1, lr.Accept}, []int{2, -1, 0}
	x.Left, x.Size = []int{2, 1}, []int{api.MaxText, 0}
	good, _ := lr.Pack(x)
	bentAt := func(at int, word uint32) []uint32 {
		words := slices.Clone(good)
		words[at] = word
		return words
	}
	for n := range good {
		wantNoTable(t, "too few words", good[:n])
	}
	for n := 1; n < 12; n++ {
		wantNoTable(t, "too many words", append(slices.Clone(good), make([]uint32, n)...))
	}
	wantNoTable(t, "far too many words", append(slices.Clone(good), make([]uint32, 100000)...))
	for at := range 4 {
		for _, word := range []uint32{0, 1, 5, 6, 7, 128, 129, 1024, 1025, 0x7fffffff, 0x80000000, 0xfffffffe, 0xffffffff, 0x10003} {
			if word != good[at] {
				wantNoTable(t, fmt.Sprint("another number ", at), bentAt(at, word))
			}
		}
	}
	for state := range 3 {
		from := 4 + 7*state
		for _, word := range []uint32{4, 0xfffffffd, 0x40000000, 0x3fffffff, 0x7fffffff, 0x80000000, 0x10000} {
			for at := range 3 {
				wantNoTable(t, "an action", bentAt(from+at, word))
			}
			if word != 0x40000000 {
				wantNoTable(t, "an action at the end", bentAt(from+3, word))
			}
		}
		for _, word := range []uint32{1, 2, 3} {
			wantNoTable(t, "going on at the end", bentAt(from+3, word))
		}
		for _, word := range []uint32{3, 0xfffffffe, 0x40000000, 0x7fffffff, 0x80000000} {
			for at := range 3 {
				wantNoTable(t, "a number of Goto", bentAt(from+4+at, word))
			}
		}
	}
	for rule := range 2 {
		for _, word := range []uint32{3, 0xffffffff, 0x7fffffff, 0x80000000} {
			wantNoTable(t, "a number of Left", bentAt(25+2*rule, word))
		}
		for _, word := range []uint32{api.MaxText + 1, 0xffffffff, 0x7fffffff, 0x80000000} {
			wantNoTable(t, "a Size", bentAt(26+2*rule, word))
		}
	}
	wantNoTable(t, "nothing", nil)
	wantNoTable(t, "a head alone", []uint32{0, 0, 0, 0})
	wantNoTable(t, "no states", []uint32{0, 1, 1, 0})
	wantNoTable(t, "no actions", []uint32{1, 0, 1, 0, 0})
	wantNoTable(t, "no places", []uint32{1, 1, 0, 0, 0})
	wantNoTable(t, "a rule and no place", []uint32{1, 1, 0, 1, 0, 0, 0})
}

// headed: words of these numbers, with 0 behind them.
func headed(states, actions, ways, rules uint32, size int) []uint32 {
	return append([]uint32{states, actions, ways, rules}, make([]uint32, size-4)...)
}

// F14.6: MaxWords words and one more, more than the limits of tables, and products that would go round.
func TestUnpackAtItsEdges(t *testing.T) {
	for _, n := range [][4]uint32{{1, 1, 1, 0}, {1023, 2, 2, 0}, {137, 20, 8, 128}, {31, 4, 128, 0}, {31, 128, 4, 0}, {1022, 1, 3, 2}, {1024, 1, 2, 10}} {
		size := int(4 + n[0]*(n[1]+n[2]) + 2*n[3])
		x, e := lr.Unpack(headed(n[0], n[1], n[2], n[3], size))
		if e != api.OK || len(x.Action) != int(n[0]) || len(x.Action[0]) != int(n[1]) || len(x.Goto[0]) != int(n[2]) || len(x.Left) != int(n[3]) {
			t.Errorf("Unpack of %v: %v", n, e)
		}
	}
	for _, n := range [][4]uint32{{87, 40, 7, 2}, {1023, 2, 2, 1}, {1024, 2, 2, 0}, {1025, 1, 1, 0}, {2, 129, 1, 0}, {2, 1, 129, 0}, {1, 1, 1, 129}, {1, 1, 1, 130}} {
		wantNoTable(t, fmt.Sprint(n), headed(n[0], n[1], n[2], n[3], int(4+n[0]*(n[1]+n[2])+2*n[3])))
	}
	const minus = 0xffffffff
	for _, n := range [][4]uint32{{minus, minus, minus, 1}, {1, minus, 3, 0}, {1, 3, minus, 0}, {2, 1, 1, minus}, {0x10000, 0x8000, 0x8000, 1}, {0x80000000, 1, 1, 1}, {1, 0x80000000, 0x80000002, 0}, {minus, 1, 1, 2}, {1, 2, 2, minus}, {minus, 2, 1, 4}, {minus - 1, 2, 1, 5}, {0, 2, 1, 3}} {
		for size := 4; size < 14; size++ {
			wantNoTable(t, fmt.Sprint(n), headed(n[0], n[1], n[2], n[3], size))
		}
	}
}

// Unpack answers just what Pack answers: words by chance.
func TestUnpackIsPackTurnedRound(t *testing.T) {
	r := rand.New(rand.NewSource(1408))
	right := 0
	for range 10000 {
		words, _ := lr.Pack(someTable(r))
		for range r.Intn(3) {
			words[r.Intn(len(words))] = uint32(r.Intn(6) - 2)
		}
		x, e := lr.Unpack(words)
		if e == api.ErrTable && isZero(x) {
			continue
		}
		right++
		back, f := lr.Pack(x)
		if e != api.OK || f != api.OK || !slices.Equal(back, words) {
			t.Errorf("Pack(Unpack(%v)) = %v, %v, %v", words, back, e, f)
		}
	}
	if right < 3000 || right > 9800 {
		t.Errorf("%d of 10000 were tables: that tells little", right)
	}
}
