package disasm_test

import (
	"math"
	"math/rand"
	"slices"
	"testing"

	"orrery/disasm"
)

// F20.2: entries.
func TestFollowEntries(t *testing.T) {
	b := []byte{0xea, 0xea, 0x60, 0xea, 0x60}
	wantFollowed(t, b, 0x200, nil)
	wantFollowed(t, b, 0x200, []int{})
	wantFollowed(t, b, 0x200, []int{0x200}, "0200 NOP", "0201 NOP", "0202 RTS")
	wantFollowed(t, b, 0x200, []int{0x201, 0x200, 0x201}, "0200 NOP", "0201 NOP", "0202 RTS")
	wantFollowed(t, b, 0x200, []int{0x204}, "0204 RTS")
	wantFollowed(t, b, 0x200, []int{0x204, 0x202}, "0202 RTS", "0204 RTS")
	wantFollowed(t, b, 0x200, []int{0x203, 0x203, 0x203}, "0203 NOP", "0204 RTS")
	for _, entry := range []int{0x1ff, 0x205, 0, 4, -1, 65536, 0x200 + 65536, math.MaxInt, math.MinInt} {
		wantNoFollow(t, b, 0x200, entry)
		wantNoFollow(t, b, 0x200, 0x200, entry)
		wantNoFollow(t, b, 0x200, entry, 0x200)
	}
	wantNoFollow(t, nil, 0, 0)
	wantNoFollow(t, nil, 65536, 65536)
	wantFollowed(t, []byte{0x60}, 65535, []int{65535}, "FFFF RTS")
}

// F20.2: where each kind of instruction goes on to.
func TestFollowGoesOn(t *testing.T) {
	for _, c := range []struct {
		b    []byte
		want []string
	}{
		{[]byte{0x4c, 4, 0, 0xea, 0x60}, []string{"0000 JMP $0004", "0004 RTS"}},
		{[]byte{0x4c, 0, 0, 0xea}, []string{"0000 JMP $0000"}},
		{[]byte{0x6c, 4, 0, 0xea, 0x60}, []string{"0000 JMP ($0004)"}},
		{[]byte{0x20, 5, 0, 0x60, 0xea, 0x40}, []string{"0000 JSR $0005", "0003 RTS", "0005 RTI"}},
		{[]byte{0x60, 0xea}, []string{"0000 RTS"}},
		{[]byte{0x40, 0xea}, []string{"0000 RTI"}},
		{[]byte{0x00, 0xea, 0xea}, []string{"0000 BRK"}},
		{[]byte{0xf0, 1, 0x00, 0x40}, []string{"0000 BEQ $0003", "0002 BRK", "0003 RTI"}},
		{[]byte{0xad, 4, 0, 0x60, 0xea}, []string{"0000 LDA $0004", "0003 RTS"}},
		{[]byte{0xea, 0xd0, 0xfd}, []string{"0000 NOP", "0001 BNE $0000"}},
		{[]byte{0x18, 0x90, 0x01, 0x02, 0x60}, []string{"0000 CLC", "0001 BCC $0004", "0004 RTS"}}, // to a bare byte, and beyond it
		{[]byte{0x02, 0xea}, nil},
		{[]byte{0xea, 0x02, 0xea}, []string{"0000 NOP"}},
		{[]byte{0x4c, 3, 0, 0x02, 0xea}, []string{"0000 JMP $0003"}},
		{[]byte{0xea, 0xea}, []string{"0000 NOP", "0001 NOP"}},                                                // beyond the end
		{[]byte{0xea, 0xad, 0x34}, []string{"0000 NOP"}},                                                      // not whole
		{[]byte{0x4c, 4, 0, 0xea, 0x4c, 0}, []string{"0000 JMP $0004"}},                                       // likewise
		{[]byte{0x4c, 5, 0, 0xea, 0x60}, []string{"0000 JMP $0005"}},                                          // one behind the last
		{[]byte{0x20, 0xff, 0xff, 0x60}, []string{"0000 JSR $FFFF", "0003 RTS"}},                              // in none
		{[]byte{0xd0, 0xfd, 0x60}, []string{"0000 BNE $FFFF", "0002 RTS"}},                                    // ahead of the first
		{[]byte{0x2c, 0xa9, 0x05, 0xf0, 0xfc}, []string{"0000 BIT $05A9", "0001 LDA #$05", "0003 BEQ $0001"}}, // into the middle of another
		{[]byte{0x4c, 1, 0, 0x60}, []string{"0000 JMP $0001", "0001 ORA ($00,X)", "0003 RTS"}},
	} {
		wantFollowed(t, c.b, 0, []int{0}, c.want...)
	}
}

// F20.2: over the ends of memory a branch goes round; the place behind the last one is none.
func TestFollowAtTheEndsOfMemory(t *testing.T) {
	whole := make([]byte, 65536)
	copy(whole, []byte{0xea, 0x90, 0xfb, 0x60}) // BCC to FFFE
	copy(whole[65534:], []byte{0xf0, 0x01})     // BEQ to 0001
	wantFollowed(t, whole, 0, []int{65534}, "0001 BCC $FFFE", "0003 RTS", "FFFE BEQ $0001")
	wantFollowed(t, whole, 0, []int{0}, "0000 NOP", "0001 BCC $FFFE", "0003 RTS", "FFFE BEQ $0001")
	copy(whole[65534:], []byte{0xea, 0xea})
	wantFollowed(t, whole, 0, []int{65534}, "FFFE NOP", "FFFF NOP")
	copy(whole[65533:], []byte{0x20, 0x03, 0x00})
	wantFollowed(t, whole, 0, []int{65533}, "0003 RTS", "FFFD JSR $0003")
	copy(whole[65534:], []byte{0x20, 0x03})
	wantFollowed(t, whole, 0, []int{65534})
}

// byGrowing: all lines that are come to, by asking each of them again until no place is new.
func byGrowing(b []byte, pc int, entries []int) []line {
	come := map[int]bool{}
	for _, entry := range entries {
		come[entry] = true
	}
	for before := -1; before != len(come); {
		before = len(come)
		for place := pc; place < pc+len(b); place++ {
			l, whole := byChart(b, place, pc)
			if !come[place] || !whole {
				continue
			}
			for _, to := range next(l) {
				come[to] = true
			}
		}
	}
	var list []line
	for place := pc; place < pc+len(b); place++ {
		if l, whole := byChart(b, place, pc); come[place] && whole {
			list = append(list, l)
		}
	}
	return list
}

// P2004, F20.2: the lines are all that are come to, and no others.
func TestFollowed(t *testing.T) {
	chance := rand.New(rand.NewSource(2004))
	for range 20000 {
		b, pc := madeUp(chance, 40)
		var entries []int
		for range chance.Intn(4) {
			if len(b) > 0 {
				entries = append(entries, pc+chance.Intn(len(b)))
			}
		}
		got := followed(t, b, pc, entries...)
		want := byGrowing(b, pc, entries)
		if !slices.EqualFunc(got, want, sameLine) {
			t.Fatalf("Follow(% x, %d, %v):\n%snot\n%s", b, pc, entries, disasm.Text(got), disasm.Text(want))
		}
	}
}

// madeUp: bytes at a place, with many jumps and branches that stay near.
func madeUp(chance *rand.Rand, most int) ([]byte, int) {
	b := make([]byte, chance.Intn(most))
	pc := [...]int{0, 0xe0, 0x1000, 65536 - len(b), chance.Intn(65536 - len(b))}[chance.Intn(5)]
	chance.Read(b)
	for i := 0; i < len(b); i++ {
		rest := b[i:]
		switch chance.Intn(6) {
		case 0, 1:
			if len(rest) > 2 {
				to := pc + chance.Intn(len(b)+2)
				rest[0], rest[1], rest[2] = [...]byte{0x4c, 0x20, 0x6c, 0xad, 0xbe}[chance.Intn(5)], byte(to), byte(to>>8)
				i += 2
			}
		case 2:
			if len(rest) > 1 {
				rest[0], rest[1] = [...]byte{0xd0, 0xf0, 0x10}[chance.Intn(3)], byte(chance.Intn(2*len(b))-len(b))
				i++
			}
		case 3, 4:
			rest[0] = [...]byte{0xea, 0xca, 0x0a, 0x60, 0xe8}[chance.Intn(5)]
		}
	}
	return b, pc
}

// P2004: the longest ways: all of memory, forwards, backwards, and with an entry at each place.
func TestFollowFar(t *testing.T) {
	nops := slices.Repeat([]byte{0xea}, 65536)
	if got := followed(t, nops, 0, 0); len(got) != 65536 || got[65535].At != 65535 {
		t.Errorf("%d lines", len(got))
	}
	back := slices.Repeat([]byte{0xd0, 0xfc}, 32768) // each to the one ahead; the first goes round to the last
	if got := followed(t, back, 0, 0); len(got) != 32768 || got[0].Target != 65534 || got[32767].Target != 65532 {
		t.Errorf("%d lines", len(got))
	}
	every := make([]int, 65536)
	for i := range every {
		every[i] = 65535 - i
	}
	if got := followed(t, nops, 0, append(every, every...)...); len(got) != 65536 || got[0].At != 0 {
		t.Errorf("%d lines", len(got))
	}
}
