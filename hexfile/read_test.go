package hexfile_test

import (
	"math/rand"
	"slices"
	"strings"
	"testing"

	"orrery/api"
	"orrery/hexfile"
)

const (
	intelEnd    = ":00000001FF"
	motorolaEnd = "S9030000FC"
	mosEnd      = ";0000000000"
)

func wantDetect(t *testing.T, text string, want int) {
	t.Helper()
	if got := hexfile.Detect(text); got != want {
		t.Errorf("Detect(%q): %d, not %d", brief(text), got, want)
	}
}

// P2105: nothing, blanks alone, blanks of each kind ahead, every first byte.
func TestDetect(t *testing.T) {
	for _, text := range []string{"", " ", "\t", "\n", "\r", " \t\r\n\n \t", "x:", "1", "s1", "é", "\xff:", "0S", "-;", "\x00:", "\v:", "\f;", "\u00a0S", "\x85:", "\u2003:", "\ufeff:"} {
		wantDetect(t, text, 0)
	}
	formatOf := map[byte]int{':': intel, 'S': motorola, ';': mos}
	for b := range 256 {
		first := string([]byte{byte(b)})
		for _, ahead := range []string{"", " ", "\t", "\n", "\r", "\r\n\t  \n"} {
			for _, behind := range []string{"", "x", " ", "\xff", "00000001FF\n"} {
				if !strings.Contains(" \t\n\r", first) {
					wantDetect(t, ahead+first+behind, formatOf[byte(b)])
				}
			}
		}
	}
	wantDetect(t, " \n;S:", mos)
	wantDetect(t, "S:", motorola)
	wantDetect(t, strings.Repeat("\n", api.MaxText+1)+":", intel)
}

// P2106: a file of each format, by hand.
func TestRead(t *testing.T) {
	two := segments{at(0x200, 10, 20, 30, 40, 50, 60), at(0x2000, 1, 2, 3)}
	wantRead(t, lines(":03200000010203D7", ":02020400323C8A", ":040200000A141E2896", intelEnd), file{intel, two, -1})
	wantRead(t, ":0400000300000203F4\n:060200000A141E28323C26\n:03200000010203D7\n"+intelEnd, file{intel, two, 0x203})
	wantRead(t, lines("S0030000FC", "S10702000A141E2892", "S1050204323C86", "S1062000010203D3", "S5030003F9", "S9031234B6"), file{motorola, two, 0x1234})
	wantRead(t, lines("S1062000010203D3", "S10902000A141E28323C22", motorolaEnd), file{motorola, two, 0})
	wantRead(t, lines(";0402000A141E28006A", ";020204323C0076", ";0320000102030029", ";0000030003"), file{mos, two, -1})
	wantRead(t, intelEnd, file{intel, nil, -1})
	wantRead(t, motorolaEnd, file{motorola, nil, 0})
	wantRead(t, mosEnd, file{mos, nil, -1})
	wantRead(t, "S903FFFFFE", file{motorola, nil, 65535})
	wantRead(t, lines(":040000030000FFFFFB", intelEnd), file{intel, nil, 65535})
	wantRead(t, lines(":0400000300000000F9", intelEnd), file{intel, nil, 0})
}

// P2106: small letters are digits, but an s is no S.
func TestReadSmallLetters(t *testing.T) {
	wantRead(t, ":02020400323c8a\n:00000001ff", file{intel, segments{at(0x204, 0x32, 0x3c)}, -1})
	wantRead(t, "S903fffffe", file{motorola, nil, 65535})
	wantNoRead(t, "s903fffffe", 0, api.ErrRecord)
}

// P2106: no lines, empty ones, blanks alone: the lines are counted as bytes 10 part them.
func TestReadNothing(t *testing.T) {
	wantNoRead(t, "", 1, api.ErrEnds)
	wantNoRead(t, " \t\r", 1, api.ErrEnds)
	wantNoRead(t, "\n", 2, api.ErrEnds)
	wantNoRead(t, " \n\t\n\r\n", 4, api.ErrEnds)
	wantNoRead(t, strings.Repeat("\n", api.MaxText), api.MaxText+1, api.ErrEnds)
	wantNoRead(t, strings.Repeat(" ", api.MaxText), 1, api.ErrEnds)
}

// P2106: MaxText bytes, and one more, whatever they are.
func TestReadMaxText(t *testing.T) {
	for _, pad := range []string{"\n", " ", "\t", "\r"} {
		room := strings.Repeat(pad, api.MaxText-len(intelEnd))
		wantRead(t, intelEnd+room, file{intel, nil, -1})
		wantRead(t, room+intelEnd, file{intel, nil, -1})
		wantNoRead(t, intelEnd+room+pad, 0, api.ErrBig)
		wantNoRead(t, pad+room+intelEnd, 0, api.ErrBig)
	}
	wantNoRead(t, "x"+strings.Repeat("\n", api.MaxText), 0, api.ErrBig)
	wantNoRead(t, strings.Repeat("x", api.MaxText+1), 0, api.ErrBig)
	wantNoRead(t, strings.Repeat("x", api.MaxText), 0, api.ErrRecord)
	wantNoRead(t, strings.Repeat("\n", api.MaxText-1)+"x", api.MaxText-1, api.ErrRecord)
	wantNoRead(t, ":"+strings.Repeat("0", api.MaxText-1), 0, api.ErrRecord)
}

// P2106: blanks at both ends of lines, empty lines between; blanks within a line, and other bytes, are none.
func TestReadBlanks(t *testing.T) {
	want := file{intel, segments{at(0x204, 0x32, 0x3c)}, -1}
	wantRead(t, "\n\r\n \t:02020400323C8A\r\n\n  \n\t"+intelEnd+" \r\t", want)
	wantRead(t, " \t\r :02020400323C8A \t\r \n"+intelEnd+"\n\n \n", want)
	wantRead(t, ":02020400323C8A\r\r\n"+intelEnd+"\r\n", want)
	wantNoRead(t, ":02020400323C8A\r"+intelEnd, 0, api.ErrRecord)
	wantNoRead(t, "\n:0202 0400323C8A\n"+intelEnd, 1, api.ErrRecord)
	wantNoRead(t, ": 02020400323C8A\n"+intelEnd, 0, api.ErrRecord)
	for _, other := range []string{"\v", "\f", "\x00", "\x85", "\xa0", "\u0085", "\u00a0", "\u2003", "\ufeff", "\b", "x", "\x1a"} {
		wantNoRead(t, other+intelEnd, 0, api.ErrRecord)
		wantNoRead(t, "\n"+intelEnd+other, 1, api.ErrRecord)
		wantNoRead(t, "\n\n"+other+"\n"+intelEnd, 2, api.ErrRecord)
		wantNoRead(t, intelEnd+"\n\n"+other, 2, api.ErrMore)
	}
}

// P2106: behind the end only lines without anything; what stands there is not asked.
func TestReadBehindTheEnd(t *testing.T) {
	for format, end := range map[int]string{intel: intelEnd, motorola: motorolaEnd, mos: mosEnd} {
		want, _, _ := hexfile.Read(end)
		wantRead(t, end+"\n\n \t\r\n", want)
		for _, more := range append(telling(), "x", ":", "S", ":00000001FE", "\xff", intelEnd, motorolaEnd, mosEnd) {
			wantNoRead(t, end+"\n"+more, 1, api.ErrMore)
			wantNoRead(t, " "+end+"\n \n\n\t"+more+"\n"+more, 3, api.ErrMore)
		}
		if want.Format != format {
			t.Error(want)
		}
	}
	wantNoRead(t, lines(":0000000000", motorolaEnd, intelEnd), 1, api.ErrRecord) // an end that is refused is none
}

// P2106: another format than the first record's: behind Split's errors.
func TestReadTwoFormats(t *testing.T) {
	records := map[int]string{intel: ":0000000000", motorola: "S1030000FC", mos: ";010000070008"}
	for format, first := range records {
		for other, second := range records {
			if other == format {
				continue
			}
			wantNoRead(t, lines(first, "", second), 2, api.ErrRecord)
			wantNoRead(t, lines("", first, "", second[:len(second)-1]+"5"), 3, api.ErrSum)
			wantNoRead(t, lines(first, second+"5"), 1, api.ErrRecord)
		}
		for _, end := range []string{intelEnd, motorolaEnd, mosEnd} {
			if end[0] != first[0] {
				wantNoRead(t, lines(first, end), 1, api.ErrRecord)
			}
		}
	}
	wantNoRead(t, lines(":01FFFF000001", "S105FFFF0102FA"), 1, api.ErrSum)
	wantNoRead(t, lines(":01FFFF000001", "S105FFFF0102F9"), 1, api.ErrRecord) // ahead of data beyond the last place
}

// P2106: Split's errors, at their lines.
func TestReadRefused(t *testing.T) {
	for _, c := range []struct {
		line string
		e    api.Errno
	}{
		{"x", api.ErrRecord}, {":", api.ErrRecord}, {":00000000000", api.ErrRecord}, {":0000000001", api.ErrSum},
		{":00000002FE", api.ErrRecord}, {":00000002FF", api.ErrSum}, {":00000101FE", api.ErrRecord}, {":0400000300010000F8", api.ErrRecord},
	} {
		wantNoRead(t, c.line, 0, c.e)
		wantNoRead(t, lines("", ":0000000000", c.line, intelEnd), 2, c.e)
		wantNoRead(t, lines("", ":0000000000", c.line, "x", ":0000000001"), 2, c.e)
		wantNoRead(t, lines(c.line, c.line), 0, c.e)
	}
}

// P2106: kind 5 and the end of Mos: as many data records as there were ahead, those without data among them.
func TestReadCounts(t *testing.T) {
	s5 := func(n int) string { return record(t, motorola, 5, n) }
	one, two, none := record(t, motorola, 1, 5, 7), record(t, motorola, 1, 6, 8), record(t, motorola, 1, 5)
	both := file{motorola, segments{at(5, 7, 8)}, 0}
	wantRead(t, lines(s5(0), one, s5(1), s5(1), two, s5(2), motorolaEnd), both)
	wantRead(t, lines("S0030000FC", s5(0), none, one, none, s5(3), two, motorolaEnd), both)
	for n := range 6 {
		if n != 2 {
			wantNoRead(t, lines(one, two, s5(n), motorolaEnd), 2, api.ErrRecord)
		}
		if n != 1 {
			wantNoRead(t, lines("S0030000FC", one, s5(n), two, motorolaEnd), 2, api.ErrRecord)
			wantNoRead(t, lines(record(t, mos, 0, 5, 7), record(t, mos, 1, n)), 1, api.ErrRecord)
		}
		if n != 0 {
			wantNoRead(t, record(t, mos, 1, n), 0, api.ErrRecord)
			wantNoRead(t, lines(s5(n), motorolaEnd), 0, api.ErrRecord)
		}
	}
	wantNoRead(t, s5(65535), 0, api.ErrRecord)
	wantNoRead(t, s5(0), 1, api.ErrEnds)
	wantRead(t, lines(record(t, mos, 0, 5, 7), record(t, mos, 0, 6, 8), record(t, mos, 1, 2)), file{mos, segments{at(5, 7, 8)}, -1})
}

// P2106: the count goes round at 65536.
func TestReadManyRecords(t *testing.T) {
	none := record(t, motorola, 1, 65535)
	for _, n := range []int{65535, 65536, 65537, 90000} {
		ahead := strings.Repeat(none+"\n", n)
		wantRead(t, ahead+lines(record(t, motorola, 5, n%65536), motorolaEnd), file{motorola, nil, 0})
		wantNoRead(t, ahead+lines(record(t, motorola, 5, (n+1)%65536), motorolaEnd), n, api.ErrRecord)
	}
	var text strings.Builder
	for place, b := range many(65536) {
		text.WriteString(record(t, mos, 0, place, b) + "\n")
	}
	wantRead(t, text.String()+mosEnd, file{mos, segments{at(0, many(65536)...)}, -1})
	wantNoRead(t, text.String()+record(t, mos, 1, 65535), 65536, api.ErrRecord)
	wantNoRead(t, text.String()+record(t, mos, 0, 65535, 0)+"\n"+mosEnd, 65536, api.ErrOver)
}

// P2106: Motorola's head is the first record, or there is none.
func TestReadHead(t *testing.T) {
	head, data := "S00600004844521B", record(t, motorola, 1, 5, 7)
	want := file{motorola, segments{at(5, 7)}, 0}
	wantRead(t, lines("", " ", head, data, motorolaEnd), want)
	wantRead(t, lines(data, motorolaEnd), want)
	wantRead(t, lines(head, motorolaEnd), file{motorola, nil, 0})
	wantNoRead(t, lines(data, head, motorolaEnd), 1, api.ErrRecord)
	wantNoRead(t, lines(head, head, motorolaEnd), 1, api.ErrRecord)
	wantNoRead(t, lines("S5030000FC", head, motorolaEnd), 1, api.ErrRecord)
	wantNoRead(t, lines("S1030000FC", "", head, motorolaEnd), 2, api.ErrRecord)
	wantNoRead(t, lines(motorolaEnd, head), 1, api.ErrMore)
}

// P2106: one record of kind 3, wherever it stands ahead of the end.
func TestReadEntry(t *testing.T) {
	entry, other := ":0400000300001234B3", ":0400000300000000F9"
	data := record(t, intel, 0, 5, 7)
	want := file{intel, segments{at(5, 7)}, 0x1234}
	wantRead(t, lines(entry, data, intelEnd), want)
	wantRead(t, lines(data, entry, intelEnd), want)
	wantNoRead(t, lines(entry, entry, intelEnd), 1, api.ErrRecord)
	wantNoRead(t, lines(entry, data, other, intelEnd), 2, api.ErrRecord)
	wantNoRead(t, lines(other, entry, intelEnd), 1, api.ErrRecord)
	wantNoRead(t, lines(other, other, intelEnd), 1, api.ErrRecord)
	wantNoRead(t, lines(entry, intelEnd, entry), 2, api.ErrMore)
}

// P2106: data up to the last place, and beyond; data where there are some; which of the two is told.
func TestReadPlaces(t *testing.T) {
	for format, kind := range map[int]int{intel: 0, motorola: 1, mos: 0} {
		end := map[int]string{intel: intelEnd, motorola: motorolaEnd, mos: ";0000010001"}[format]
		entry := map[int]int{intel: -1, motorola: 0, mos: -1}[format]
		r := func(place int, data ...byte) string { return record(t, format, kind, place, data...) }
		wantRead(t, lines(r(65535, 7), end), file{format, segments{at(65535, 7)}, entry})
		wantRead(t, lines(r(65536-252, many(252)...), end), file{format, segments{at(65536-252, many(252)...)}, entry})
		wantNoRead(t, lines(r(65535, 7, 8), end), 0, api.ErrRange)
		wantNoRead(t, lines(r(65536-251, many(252)...), end), 0, api.ErrRange)
		wantNoRead(t, lines(r(0, 7), r(65535, many(252)...), end), 1, api.ErrRange)
		wantNoRead(t, lines(r(65535, 7), r(65535, 7, 8), end), 1, api.ErrRange) // ahead of the place that has some
		wantNoRead(t, lines(r(5, 7), "", r(5, 7), end), 2, api.ErrOver)
		wantNoRead(t, lines(r(5, 7), r(4, 1, 2), end), 1, api.ErrOver)
		wantNoRead(t, lines(r(5, 7, 8, 9), r(3, 1, 2), r(7, 3), end), 2, api.ErrOver)
		wantNoRead(t, lines(r(5, 7, 8, 9), r(8, 1), r(6, 3), r(65535, 1, 2)), 2, api.ErrOver)
		wantNoRead(t, lines(r(0, 7), r(65535, 1), r(0, 3), end), 2, api.ErrOver)
	}
}

// P2106: data records without data stand anywhere, also where there are some.
func TestReadWithoutData(t *testing.T) {
	wantRead(t, lines(":00000500FB", ":0100050007F3", ":00000500FB", ":00FFFF0002", intelEnd), file{intel, segments{at(5, 7)}, -1})
	wantRead(t, lines("S1030005F7", "S104000507EF", "S1030005F7", "S103FFFFFE", "S5030004F8", motorolaEnd), file{motorola, segments{at(5, 7)}, 0})
	wantRead(t, lines(":00FFFF0002", intelEnd), file{intel, nil, -1})
}

// P2106: no end: behind all lines, those without anything counted, too.
func TestReadNoEnd(t *testing.T) {
	for _, line := range []string{":0000000000", ":0100050007F3", ":0400000300001234B3", "S0030000FC", "S1030005F7", "S5030000FC", ";01000507000D"} {
		wantNoRead(t, line, 1, api.ErrEnds)
		wantNoRead(t, line+"\n", 2, api.ErrEnds)
		wantNoRead(t, "\n"+line+"\n \n\r", 4, api.ErrEnds)
	}
}

// madeUpText: records of one format for the most, near each other, some of them bent, some blank lines; mostly an end.
func madeUpText(t *testing.T, chance *rand.Rand) string {
	format := 1 + chance.Intn(3)
	var list []string
	data, here := 0, 65520*chance.Intn(2) // near the last place, or far from it
	for range chance.Intn(6) {
		switch chance.Intn(12) {
		case 0:
			list = append(list, telling()[chance.Intn(len(telling()))])
		case 1:
			list = append(list, strings.Repeat(" ", chance.Intn(2)))
		case 2:
			list = append(list, unchecked(format, []int{0, 3, 5, 1}[format], chance.Intn(2)*data, nil))
		case 3:
			list = append(list, unchecked(intel, 3, 0, []byte{0, 0, byte(chance.Intn(256)), 9}))
		default:
			place, n := min(here+chance.Intn(9), 65535), chance.Intn(6)
			list = append(list, unchecked(format, []int{0, 0, 1, 0}[format], place, many(n)))
			data, here = data+1, place+chance.Intn(9)
		}
	}
	if chance.Intn(8) > 0 {
		list = append(list, []string{"", intelEnd, "S9031234B6", unchecked(mos, 1, data, nil)}[format])
	}
	if chance.Intn(8) == 0 && len(list) > 0 {
		i := chance.Intn(len(list))
		list = slices.Insert(list, i, list[chance.Intn(len(list))])
	}
	text := []byte(strings.Join(list, "\n"))
	if chance.Intn(8) == 0 && len(text) > 0 {
		text[chance.Intn(len(text))] = ":S;0123456789ABCDEFabcdefg \n"[chance.Intn(28)]
	}
	return string(text)
}

// P2106: made-up texts, held against the second reading.
func TestReadAgain(t *testing.T) {
	chance := rand.New(rand.NewSource(2106))
	met := map[api.Errno]int{}
	for range 6000 {
		text := madeUpText(t, chance)
		want, number, e := readAgain(text)
		met[e]++
		if e == api.OK {
			wantRead(t, text, want)
		} else {
			wantNoRead(t, text, number, e)
		}
	}
	for _, e := range []api.Errno{api.OK, api.ErrMore, api.ErrRecord, api.ErrSum, api.ErrRange, api.ErrOver, api.ErrEnds} {
		if met[e] < 50 {
			t.Errorf("%v came %d times: the chance is too poor", e, met[e])
		}
	}
}
