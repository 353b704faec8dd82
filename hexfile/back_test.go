package hexfile_test

import (
	"math/rand"
	"strings"
	"testing"

	"orrery/api"
	"orrery/hexfile"
)

func written(t *testing.T, f file, width int) string {
	t.Helper()
	text, e := hexfile.Write(f, width)
	if e != api.OK {
		t.Fatalf("Write(%d, %d segments, %d; %d): %v", f.Format, len(f.Segments), f.Entry, width, e)
	}
	return text
}

// wantBack: Read of Write is the file, however the lines are told.
func wantBack(t *testing.T, f file, width int) {
	t.Helper()
	merged, e := hexfile.Merge(f.Segments)
	if e != api.OK {
		t.Fatal(e)
	}
	want := file{f.Format, merged, f.Entry}
	if f.Format == motorola {
		want.Entry = max(f.Entry, 0)
	}
	text := written(t, f, width)
	wantRead(t, text, want)
	if got := hexfile.Detect(text); got != f.Format {
		t.Errorf("Detect: %d, not %d", got, f.Format)
	}
	if len(text) < 20000 {
		for _, other := range toldOtherwise(text) {
			wantRead(t, other, want)
		}
	}
}

// toldOtherwise: the same lines with small digits, with blanks at their ends, with empty lines between, with all of that.
func toldOtherwise(text string) []string {
	var small, blank, between, all []string
	for n, line := range strings.Split(strings.TrimSuffix(text, "\n"), "\n") {
		low := line[:1] + strings.ToLower(line[1:])
		ahead, behind := []string{"", " ", "\t \r", "\r"}[n%4], []string{"\r", " \t", "", "\t\r "}[n%4]
		small = append(small, low)
		blank = append(blank, ahead+line+behind)
		between = append(between, "", line, " \t\r"[:n%4], "")
		all = append(all, behind, ahead+low+behind, "")
	}
	return []string{lines(small...), lines(blank...), lines(between...), lines(all...), strings.TrimSuffix(text, "\n")}
}

// P2107: made-up files of all formats come back.
func TestThereAndBack(t *testing.T) {
	chance := rand.New(rand.NewSource(2107))
	for range 1000 {
		f, width := madeUpFile(chance)
		wantBack(t, f, width)
	}
}

// P2107: no segments, all widths, entries at their edges.
func TestBackAtTheEdges(t *testing.T) {
	l := segments{at(65536-300, many(300)...), at(9, 1), at(10, 2), at(500), at(0, 3)}
	for format, most := range map[int]int{intel: 255, motorola: 252, mos: 255} {
		for width := 1; width <= most; width++ {
			wantBack(t, file{format, l, -1}, width)
		}
		wantBack(t, file{format, nil, -1}, 1)
		wantBack(t, file{format, segments{at(0), at(65536)}, -1}, most)
		if format != mos {
			for _, entry := range []int{0, 1, 255, 256, 0x1234, 65535} {
				wantBack(t, file{format, nil, entry}, 1)
				wantBack(t, file{format, l, entry}, most)
			}
		}
	}
}

// P2107: the whole memory comes back at each width, the narrowest among them: its text is not too long.
func TestBackWholeMemory(t *testing.T) {
	whole := segments{at(0, many(65536)...)}
	var apart segments
	for place := 1; place < 65536; place += 2 {
		apart = append(apart, at(65536-place, byte(place)))
	}
	for format := intel; format <= mos; format++ {
		for _, width := range []int{1, 3, 16, 252} {
			wantBack(t, file{format, whole, -1}, width)
		}
		wantBack(t, file{format, apart, -1}, 1)
	}
	wantBack(t, file{intel, whole, 65535}, 1)
	wantBack(t, file{motorola, whole, 65535}, 1)
}

// P2107: a record with one digit turned into another one is refused; the digit behind an S is not asked.
func TestOneDigitTurned(t *testing.T) {
	chance := rand.New(rand.NewSource(21071))
	list := telling()
	for range 60 {
		f, width := madeUpFile(chance)
		all := strings.Split(strings.TrimSuffix(written(t, f, width), "\n"), "\n")
		list = append(list, all[chance.Intn(len(all))])
	}
	list = append(list, unchecked(intel, 0, 0xfff0, many(255)), unchecked(motorola, 1, 0xff00, many(252)), unchecked(mos, 0, 0xff0f, many(255)))
	for _, line := range list {
		first := 1
		if line[0] == 'S' {
			first = 2
		}
		for place := first; place < len(line); place++ {
			for _, digit := range []byte("0123456789ABCDEFabcdef") {
				if strings.EqualFold(string(digit), line[place:place+1]) {
					continue
				}
				turned := line[:place] + string(digit) + line[place+1:]
				if e := wantSplitAgain(t, turned); e != api.ErrSum && e != api.ErrRecord {
					t.Errorf("%q is taken: %v", turned, e)
				}
			}
		}
	}
}

// P2107, P2102: Record of what Split tells is the line, with great letters.
func TestRecordOfSplit(t *testing.T) {
	for _, line := range telling() {
		format, kind, place, data, e := hexfile.Split(line[:1] + strings.ToLower(line[1:]))
		if e != api.OK {
			t.Fatal(line, e)
		}
		wantRecord(t, format, kind, place, data, line)
	}
}
