package hexfile_test

import (
	"reflect"
	"slices"
	"strings"
	"testing"

	"orrery/api"
	"orrery/hexfile"
)

type (
	segments = []api.Segment
	file     = hexfile.File
)

const (
	intel    = hexfile.Intel
	motorola = hexfile.Motorola
	mos      = hexfile.Mos
)

// at: bytes at a place.
func at(place int, list ...byte) api.Segment { return api.Segment{At: place, Bytes: list} }

// many: so many bytes, none of them like its neighbours.
func many(n int) []byte {
	list := make([]byte, n)
	for i := range list {
		list[i] = byte(i*7 + i>>8 + 1)
	}
	return list
}

// lines: each with a byte 10 behind it.
func lines(list ...string) string { return strings.Join(append(list, ""), "\n") }

// sameSegments: rule 3 of the document leaves open whether a list without an element is nil.
func sameSegments(a, b segments) bool {
	return slices.EqualFunc(a, b, func(x, y api.Segment) bool { return x.At == y.At && slices.Equal(x.Bytes, y.Bytes) })
}

func sameFile(a, b file) bool {
	return a.Format == b.Format && a.Entry == b.Entry && sameSegments(a.Segments, b.Segments)
}

func wantMerge(t *testing.T, l segments, want ...api.Segment) {
	t.Helper()
	got, e := hexfile.Merge(l)
	if !sameSegments(got, want) || e != api.OK {
		t.Errorf("Merge(%v): %v, %v, not %v", l, got, e, want)
	}
}

func wantNoMerge(t *testing.T, l segments, want api.Errno) {
	t.Helper()
	got, e := hexfile.Merge(l)
	if len(got) != 0 || e != want {
		t.Errorf("Merge(%d segments): %v, %v, not %v", len(l), got, e, want)
	}
}

func wantRecord(t *testing.T, format, kind, place int, data []byte, want string) {
	t.Helper()
	got, e := hexfile.Record(format, kind, place, data)
	if got != want || e != api.OK {
		t.Errorf("Record(%d, %d, %d, % x): %q, %v, not %q", format, kind, place, data, got, e, want)
	}
}

func wantNoRecord(t *testing.T, format, kind, place int, data []byte) {
	t.Helper()
	got, e := hexfile.Record(format, kind, place, data)
	if got != "" || e != api.ErrArg {
		t.Errorf("Record(%d, %d, %d, %d bytes): %q, %v, not ErrArg", format, kind, place, len(data), got, e)
	}
}

func wantSplit(t *testing.T, line string, format, kind, place int, data []byte) {
	t.Helper()
	f, k, p, d, e := hexfile.Split(line)
	if f != format || k != kind || p != place || !slices.Equal(d, data) || e != api.OK {
		t.Errorf("Split(%q): %d, %d, %d, % x, %v, not %d, %d, %d, % x", line, f, k, p, d, e, format, kind, place, data)
	}
}

func wantNoSplit(t *testing.T, line string, want api.Errno) {
	t.Helper()
	f, k, p, d, e := hexfile.Split(line)
	if f != 0 || k != 0 || p != 0 || len(d) != 0 || e != want {
		t.Errorf("Split(%q): %d, %d, %d, % x, %v, not %v", brief(line), f, k, p, d, e, want)
	}
}

func wantWrite(t *testing.T, f file, width int, want ...string) {
	t.Helper()
	got, e := hexfile.Write(f, width)
	if got != lines(want...) || e != api.OK {
		t.Errorf("Write(%v, %d): %v\n%snot\n%s", f, width, e, brief(got), brief(lines(want...)))
	}
}

func wantNoWrite(t *testing.T, f file, width int, want api.Errno) {
	t.Helper()
	got, e := hexfile.Write(f, width)
	if got != "" || e != want {
		t.Errorf("Write(%d %d, %d): %q, %v, not %v", f.Format, f.Entry, width, brief(got), e, want)
	}
}

func wantRead(t *testing.T, text string, want file) {
	t.Helper()
	got, number, e := hexfile.Read(text)
	if !sameFile(got, want) || number != 0 || e != api.OK {
		t.Errorf("Read(%q): %v, %d, %v, not %v", brief(text), got, number, e, want)
	}
}

func wantNoRead(t *testing.T, text string, number int, want api.Errno) {
	t.Helper()
	got, n, e := hexfile.Read(text)
	if !reflect.DeepEqual(got, file{}) || n != number || e != want {
		t.Errorf("Read(%q): %v, %d, %v, not %d, %v", brief(text), got, n, e, number, want)
	}
}

// record: one that must be.
func record(t testing.TB, format, kind, place int, data ...byte) string {
	t.Helper()
	text, e := hexfile.Record(format, kind, place, data)
	if e != api.OK {
		t.Fatalf("Record(%d, %d, %d, % x): %v", format, kind, place, data, e)
	}
	return text
}

// brief: a text, as far as a message of a test has room for it.
func brief(text string) string {
	if len(text) > 400 {
		return text[:400] + " .."
	}
	return text
}

// The chapter's examples.
func TestExamples(t *testing.T) {
	wantRecord(t, intel, 0, 0x100, []byte{0x21, 0x46}, ":02010000214696")
	wantRecord(t, intel, 1, 0, nil, ":00000001FF")
	wantRecord(t, motorola, 1, 0, []byte{0x0a}, "S10400000AF1")
	wantRecord(t, motorola, 9, 0, nil, "S9030000FC")
	wantRecord(t, mos, 0, 0x1000, []byte{0xff}, ";011000FF0110")
	wantRecord(t, mos, 1, 1, nil, ";0000010001")
	wantNoRead(t, ":0100000000FF", 1, api.ErrEnds)
	wantNoRead(t, ":00000001FE", 0, api.ErrSum)
	wantNoRead(t, ":00000001FF\n:00000001FF", 1, api.ErrMore)
	wantMerge(t, segments{at(3, 7), at(1, 5, 6)}, at(1, 5, 6, 7))
	wantNoMerge(t, segments{at(1, 5), at(1, 5)}, api.ErrOver)
}

// Example 6 of the whole document.
func TestExampleOfTheWhole(t *testing.T) {
	f := file{intel, segments{at(0x1000, 0xca, 0xd0, 0xfd, 0)}, -1}
	wantWrite(t, f, 16, ":04100000CAD0FD0055", ":00000001FF")
	wantRead(t, lines(":04100000CAD0FD0055", ":00000001FF"), f)
}

// The formats are numbered as the chapter says.
func TestFormats(t *testing.T) {
	if intel != 1 || motorola != 2 || mos != 3 {
		t.Error(intel, motorola, mos)
	}
}
