package hexfile_test

import (
	"fmt"
	"math/rand"
	"strings"
	"testing"

	"orrery/api"
)

// telling: a record of each format and kind, with data and without.
func telling() []string {
	return []string{
		":0300300002337A1E", ":0000000000", ":00000001FF", ":0400000300003800C1",
		"S00600004844521B", "S0030000FC", "S10400000AF1", "S1031234B6", "S5030003F9", "S9031234B6",
		";0320000102AB00D1", ";011000FF0110", ";0000010001",
	}
}

// wantSplitAgain: what the second reading of the chapter's words tells.
func wantSplitAgain(t *testing.T, line string) api.Errno {
	t.Helper()
	format, kind, place, data, e := splitAgain(line)
	if e != api.OK {
		wantNoSplit(t, line, e)
	} else {
		wantSplit(t, line, format, kind, place, data)
	}
	return e
}

// P2103: a line of each format and kind, by hand.
func TestSplit(t *testing.T) {
	wantSplit(t, ":0300300002337A1E", intel, 0, 0x30, []byte{2, 0x33, 0x7a})
	wantSplit(t, ":01FFFF00FF02", intel, 0, 65535, []byte{0xff})
	wantSplit(t, ":00123400BA", intel, 0, 0x1234, nil)
	wantSplit(t, ":00000001FF", intel, 1, 0, nil)
	wantSplit(t, ":0400000300003800C1", intel, 3, 0, []byte{0, 0, 0x38, 0})
	wantSplit(t, "S00600004844521B", motorola, 0, 0, []byte("HDR"))
	wantSplit(t, "S1031234B6", motorola, 1, 0x1234, nil)
	wantSplit(t, "S10400000AF1", motorola, 1, 0, []byte{10})
	wantSplit(t, "S5030003F9", motorola, 5, 3, nil)
	wantSplit(t, "S9031234B6", motorola, 9, 0x1234, nil)
	wantSplit(t, ";0320000102AB00D1", mos, 0, 0x2000, []byte{1, 2, 0xab})
	wantSplit(t, ";0000010001", mos, 1, 1, nil)
	wantSplit(t, ";00FFFF01FE", mos, 1, 65535, nil)
}

// P2103: a to f are digits, too, also among A to F; but s is no S.
func TestSplitSmallLetters(t *testing.T) {
	wantSplit(t, ":0300300002337a1e", intel, 0, 0x30, []byte{2, 0x33, 0x7a})
	wantSplit(t, "S105abcDEfFa99", motorola, 1, 0xabcd, []byte{0xef, 0xfa})
	wantSplit(t, ";03abcD0102ef026d", mos, 0, 0xabcd, []byte{1, 2, 0xef})
	wantNoSplit(t, "s10400000AF1", api.ErrRecord)
	wantNoSplit(t, "s10400000af1", api.ErrRecord)
}

// P2103: what begins otherwise, or has nothing behind.
func TestSplitBeginning(t *testing.T) {
	for _, line := range []string{"", ":", "S", ";", "S1", "S9", "S1 ", " ", "\x00", "x", "0", "é", "\xff"} {
		wantNoSplit(t, line, api.ErrRecord)
	}
	for _, line := range telling() {
		for b := range 256 {
			first := string([]byte{byte(b)})
			wantSplitAgain(t, first+line[1:])
			wantNoSplit(t, first+line, api.ErrRecord)
		}
		wantNoSplit(t, line[1:], api.ErrRecord)
	}
}

// P2103: digits too few and too many, though it be by a half byte, at each end of a line.
func TestSplitLength(t *testing.T) {
	for _, line := range telling() {
		if e := wantSplitAgain(t, line); e != api.OK {
			t.Fatal(line, e)
		}
		for n := range len(line) {
			wantNoSplit(t, line[:n], api.ErrRecord)
		}
		for _, more := range []string{"0", "00", "F", "FF", "000", "0000", "FFFF", ":", line} {
			wantNoSplit(t, line+more, api.ErrRecord)
		}
	}
}

// P2103: each byte at each place of a line; a character of several bytes there, and ones that look like digits.
func TestSplitEachByte(t *testing.T) {
	for _, line := range telling() {
		for place := range len(line) {
			for b := range 256 {
				wantSplitAgain(t, line[:place]+string([]byte{byte(b)})+line[place+1:])
			}
			if place == 0 {
				continue
			}
			for _, c := range []string{"é", "０", "１", "Ａ", "٣", "\U0001d7ce", "\xc3", "\xa9\xc3", "\x80\x80", "𝐀"} {
				wantNoSplit(t, line[:place]+c+line[place+1:], api.ErrRecord)
				if end := place + len(c); end <= len(line) {
					wantNoSplit(t, line[:place]+c+line[end:], api.ErrRecord)
				}
			}
		}
	}
}

// P2103: the split line is the line alone; blanks are Read's.
func TestSplitBlanks(t *testing.T) {
	for _, line := range telling() {
		for _, blank := range []string{" ", "\t", "\r", "\n", "\r\n", "\x00", "\v", "\u00a0"} {
			wantNoSplit(t, blank+line, api.ErrRecord)
			wantNoSplit(t, line+blank, api.ErrRecord)
			for place := 1; place < len(line); place++ {
				wantNoSplit(t, line[:place]+blank+line[place:], api.ErrRecord)
			}
		}
	}
}

// summed: a line of that format with these bytes and a right sum behind them, whatever they tell.
func summed(format int, b ...byte) string {
	switch format {
	case intel:
		return fmt.Sprintf(":%X%02X", b, byte(-sumOf(b)))
	case motorola:
		return fmt.Sprintf("S1%X%02X", b, byte(255-sumOf(b)))
	}
	return fmt.Sprintf(";%X%04X", b, sumOf(b)%65536)
}

// P2103: every count with as many bytes as it asks for, with one more, and with one less.
func TestSplitCount(t *testing.T) {
	aheadOf := map[int][]byte{intel: {0x12, 0x34, 0}, motorola: {0x12, 0x34}, mos: {0x12, 0x34}}
	for format, ahead := range aheadOf {
		for n := range 256 {
			count, kind := n, 0
			switch {
			case format == motorola && n > 252:
				continue
			case format == motorola:
				count, kind = n+3, 1
			case format == mos && n == 0:
				kind = 1
			}
			body := append([]byte{byte(count)}, ahead...)
			wantSplit(t, summed(format, append(body, many(n)...)...), format, kind, 0x1234, many(n))
			wantNoSplit(t, summed(format, append(body, many(n+1)...)...), api.ErrRecord)
			if n > 0 {
				wantNoSplit(t, summed(format, append(body, many(n-1)...)...), api.ErrRecord)
			}
		}
	}
	wantNoSplit(t, summed(intel, append([]byte{0, 0x12, 0x34, 0}, many(256)...)...), api.ErrRecord)
	wantNoSplit(t, summed(motorola, append([]byte{3, 0x12, 0x34}, many(256)...)...), api.ErrRecord)
	wantNoSplit(t, summed(mos, append([]byte{0, 0x12, 0x34}, many(256)...)...), api.ErrRecord)
}

// P2103: a count of Motorola below 3 is none, with as many bytes as it tells and a right sum, too.
func TestSplitLeastCount(t *testing.T) {
	wantNoSplit(t, "S100", api.ErrRecord)
	wantNoSplit(t, "S101FE", api.ErrRecord)
	wantNoSplit(t, "S10200FD", api.ErrRecord)
	wantNoSplit(t, "S901FE", api.ErrRecord)
	wantNoSplit(t, "S902FFFE", api.ErrRecord)
	wantNoSplit(t, "S101FF", api.ErrRecord) // another sum is told behind the count
	wantNoSplit(t, "S1020000", api.ErrRecord)
	wantNoSplit(t, "S1020000FD", api.ErrRecord)
	wantSplit(t, "S1030000FC", motorola, 1, 0, nil)
}

// P2103: every other sum.
func TestSplitSum(t *testing.T) {
	for _, line := range telling() {
		digits, right := 2, 0
		if line[0] == ';' {
			digits = 4
		}
		for sum := range 1 << (4 * digits) {
			other := fmt.Sprintf("%s%0*X", line[:len(line)-digits], digits, sum)
			if other == line {
				right++
				continue
			}
			wantNoSplit(t, other, api.ErrSum)
		}
		if right != 1 {
			t.Errorf("%s: its sum was met %d times", line, right)
		}
	}
	whole := strings.Repeat("FF", 255)
	wantSplit(t, ";FFFFFF"+whole+"00FE", mos, 0, 65535, []byte(strings.Repeat("\xff", 255)))
	wantNoSplit(t, ";FFFFFF"+whole+"FFFE", api.ErrSum)
	wantNoSplit(t, ";FFFFFF"+whole+"01FE", api.ErrSum)
}

// P2103: kinds that the format has not, and ones whose place or data are not theirs: with another sum that is told first.
func TestSplitKind(t *testing.T) {
	for kind := range 256 {
		for _, b := range [][]byte{{0, 0, 0}, {0, 0, 1}, {1, 0, 0, 7}, {4, 0, 0, 0, 0, 1, 2}, {4, 0, 1, 0, 0, 1, 2}, {4, 0, 0, 0, 1, 1, 2}, {4, 0, 0, 1, 0, 1, 2}, {3, 0, 0, 0, 0, 1}, {5, 0, 0, 0, 0, 1, 2, 3}} {
			line := summed(intel, append(append(append([]byte{}, b[:3]...), byte(kind)), b[3:]...)...)
			wantSplitAgain(t, line)
			wantNoSplit(t, line[:len(line)-2]+fmt.Sprintf("%02X", byte(sumOf(b)+kind)*0xff+1), api.ErrSum)
		}
	}
	for kind := range 10 {
		for _, b := range [][]byte{{3, 0, 0}, {3, 0, 1}, {3, 1, 0}, {4, 0, 0, 7}, {4, 0, 1, 7}} {
			line := fmt.Sprintf("S%d%s", kind, summed(motorola, b...)[2:])
			wantSplitAgain(t, line)
			if e := wantSplitAgain(t, line[:len(line)-2]+"00"); e != api.ErrRecord && e != api.ErrSum {
				t.Error(line, e)
			}
		}
	}
	wantNoSplit(t, ":00000002FE", api.ErrRecord)
	wantNoSplit(t, ":00000002FF", api.ErrSum)
	wantNoSplit(t, ":00000101FE", api.ErrRecord) // an end at a place
	wantNoSplit(t, ":0100000107F7", api.ErrRecord)
	wantNoSplit(t, "S0030001FB", api.ErrRecord) // a head at a place
	wantNoSplit(t, "S0030001FC", api.ErrSum)
	wantNoSplit(t, "S504000007F4", api.ErrRecord) // data where there are none
	wantNoSplit(t, "S904000007F4", api.ErrRecord)
	wantNoSplit(t, "S904000007F5", api.ErrSum)
	wantNoSplit(t, "S2030000FC", api.ErrRecord)
	wantNoSplit(t, "S2030000FD", api.ErrRecord) // a digit that is no kind is told ahead of the sum
}

// P2103: made-up lines, most of them nearly records, held against the second reading.
func TestSplitAgain(t *testing.T) {
	chance := rand.New(rand.NewSource(2103))
	met := map[api.Errno]int{}
	for range 60000 {
		line := []byte(telling()[chance.Intn(len(telling()))])
		for range chance.Intn(3) {
			line[chance.Intn(len(line))] = ":S;0123456789ABCDEFabcdefg "[chance.Intn(27)]
		}
		met[wantSplitAgain(t, string(line))]++
		b := make([]byte, chance.Intn(9))
		chance.Read(b)
		if len(b) > 0 {
			b[0] = byte(chance.Intn(len(b) + 3))
		}
		met[wantSplitAgain(t, summed(1+chance.Intn(3), b...))]++
	}
	for _, e := range []api.Errno{api.OK, api.ErrRecord, api.ErrSum} {
		if met[e] < 2000 {
			t.Errorf("%v came %d times: the chance is too poor", e, met[e])
		}
	}
}
