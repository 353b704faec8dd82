package asm_test

import (
	"fmt"
	"reflect"
	"slices"
	"sync"
	"testing"

	"orrery/api"
	"orrery/asm"
	"orrery/lexer"
)

var spare = lexer.Token{Kind: 77, Text: "spare", Value: 78, At: 79}

// scribble: over a list and its spare room.
func scribble[T any](list []T, mark T) {
	list = list[:cap(list)]
	for i := range list {
		list[i] = mark
	}
}

// Rule 4: tokens that are handed in are not changed, their spare room neither; and Parts does not keep them.
func TestPartsAreTheCallers(t *testing.T) {
	for _, line := range []string{"", "1", ",", "1,2", "1,(2,3),4", ",,", "1),2", "1,2,"} {
		list := lex(t, line)
		given := append(slices.Clone(list), spare, spare, spare)[:len(list)]
		want := asm.Parts(slices.Clone(list))
		for n := range want {
			got := asm.Parts(given)
			scribble(got[n], spare)
			_ = append(got[n], spare)
			for m := range got {
				if m != n && !slices.Equal(got[m], want[m]) {
					t.Errorf("%q: part %d is seen in part %d", line, n, m)
				}
			}
			if !slices.Equal(given[:len(list)+3], append(slices.Clone(list), spare, spare, spare)) {
				t.Errorf("%q: the tokens are %v", line, given)
			}
		}
		got := asm.Parts(given)
		scribble(got, nil)
		got = asm.Parts(given)
		scribble(given[:len(given)], spare)
		if len(got) != len(want) || len(want) > 0 && !reflect.DeepEqual(got, want) {
			t.Errorf("%q: the parts are %v", line, got)
		}
	}
}

// Rule 4: nobody sees what the caller writes into a Rest.
func TestRestIsTheCallers(t *testing.T) {
	for _, line := range []string{"l: lda #1", "l nop", "k = 5 + 2", "* = 1", ".byte 1, 2", ""} {
		want, _, _ := asm.Split(line)
		want.Rest = slices.Clone(want.Rest)
		got, _, _ := asm.Split(line)
		scribble(got.Rest, spare)
		_ = append(got.Rest, spare)
		again, at, e := asm.Split(line)
		if again.Label != want.Label || again.Word != want.Word || !slices.Equal(again.Rest, want.Rest) || at != 0 || e != api.OK {
			t.Errorf("%q: %v, not %v", line, again, want)
		}
	}
}

const shared = "* = 9\nl: .res 3, 5\nk: .byte \"abc\", k\n.align 8\n* = 40\nlda #l\n* = 42\n.word l, l\n.word l, l"

// bytesOf: all lists of bytes of a listing.
func bytesOf(l asm.Listing) [][]byte {
	var all [][]byte
	for _, s := range l.Segments {
		all = append(all, s.Bytes)
	}
	for _, r := range l.Rows {
		all = append(all, r.Bytes)
	}
	return all
}

// Rule 4: no two lists of a listing share memory, their spare room neither, and no two listings do.
func TestListingIsTheCallers(t *testing.T) {
	want := assembled(t, shared)
	for n := range bytesOf(want) {
		got := assembled(t, shared)
		_ = append(bytesOf(got)[n], 99)
		scribble(bytesOf(got)[n], 99)
		for m, list := range bytesOf(got) {
			if m != n && !slices.Equal(list, bytesOf(want)[m]) {
				t.Errorf("list %d is seen in list %d: % x", n, m, list)
			}
		}
	}
	got := assembled(t, shared)
	scribble(got.Segments, api.Segment{})
	scribble(got.Rows, asm.Row{})
	scribble(got.Names, asm.Name{})
	if again := assembled(t, shared); !reflect.DeepEqual(again, want) {
		t.Errorf("%v, not %v", again, want)
	}
}

// Rule 4: Text does not change the listing that is handed in, nor its spare room.
func TestTextLeavesTheListing(t *testing.T) {
	extra := asm.Row{Line: 3, At: 4, Bytes: []byte{5}}
	list := append(make(rows, 0, 8), asm.Row{Line: 2, At: 9, Bytes: count(9)}, asm.Row{Line: 1, At: 1, Bytes: count(3)}, asm.Row{Line: -1}, extra, extra)
	given := append(make(rows, 0, 8), list...)
	for i := range given {
		given[i].Bytes = append(make([]byte, 0, 32), given[i].Bytes...)
	}
	first := asm.Text("a\nb\nc\nd", asm.Listing{Rows: given[:3]})
	second := asm.Text("a\nb\nc\nd", asm.Listing{Rows: given[:3]})
	for i, r := range given {
		if r.Line != list[i].Line || r.At != list[i].At || !slices.Equal(r.Bytes, list[i].Bytes) || slices.Max(append(r.Bytes[len(r.Bytes):32], 0)) != 0 {
			t.Errorf("row %d is %v, not %v", i, r, list[i])
		}
	}
	if first != second {
		t.Errorf("%q, not %q", second, first)
	}
}

// Rule 5: the same each time, whatever was asked between, and whoever asks beside.
func TestSameEachTime(t *testing.T) {
	asked := append([]string{shared, "", "l:\nl:", "lda k\nk = 5", "k = 7\nlda k", "lda k", "k = 300\nlda k", "bne far\n.res 200\nfar:", "?", "* = 0\n.byte 1+2\n.byte 1 + 2"}, sources...)
	whole := func(source string) string {
		l, line, e := asm.Assemble(source)
		split, at, f := asm.Split(source)
		return fmt.Sprint(l, line, e, split, at, f, asm.Text(source, l))
	}
	var first []string
	for _, source := range asked {
		first = append(first, whole(source))
	}
	var all sync.WaitGroup
	for range 4 {
		all.Go(func() {
			for n := range asked {
				n = len(asked) - 1 - n
				if got := whole(asked[n]); got != first[n] {
					t.Errorf("%q: %s, not %s", asked[n], got, first[n])
				}
			}
		})
	}
	all.Wait()
}
