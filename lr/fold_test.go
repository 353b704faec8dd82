package lr_test

import (
	"crypto/sha256"
	"fmt"
	"math/rand"
	"slices"
	"strings"
	"testing"

	"orrery/api"
	"orrery/lr"
)

func leafText(i int) string { return fmt.Sprint(i) }

// nodeText: a long text is told by its sum, since it may grow round by round.
func nodeText(rule int, parts list) string {
	text := fmt.Sprintf("r%d(%s)", rule, strings.Join(parts, " "))
	if len(text) > 100 {
		return fmt.Sprintf("r%d(%x)", rule, sha256.Sum256([]byte(text)))
	}
	return text
}

// folded: what Fold answers of texts, and its calls in order.
func folded(x lr.Table, tokens []int) (worth string, at int, e api.Errno, calls list) {
	note := func(text string) string {
		calls = append(calls, text)
		return text
	}
	worth, at, e = lr.Fold(x, tokens,
		func(i int) string { return note(leafText(i)) },
		func(rule int, parts []string) string { return note(nodeText(rule, parts)) })
	return worth, at, e, calls
}

// F14.5: what symbols are worth, of several types.
func TestFold(t *testing.T) {
	x, g := plain(t, lr.SLR, "E -> E + T | T", "T -> T * F | F", "F -> ( E ) | id")
	values := []int{2, 0, 3, 0, 4}
	worth, at, e := lr.Fold(x, numbers(t, g, "id + id * id"), func(i int) int { return values[i] }, func(rule int, parts []int) int {
		switch rule {
		case 0:
			return parts[0] + parts[2]
		case 2:
			return parts[0] * parts[2]
		case 4:
			return parts[1]
		}
		return parts[0]
	})
	if worth != 14 || at != 0 || e != api.OK {
		t.Errorf("Fold = %d, %d, %v", worth, at, e)
	}
	text, at, e, calls := folded(x, numbers(t, g, "( id ) * id"))
	want := list{"0", "1", "r5(1)", "r3(r5(1))", "r1(r3(r5(1)))", "2", "r4(0 r1(r3(r5(1))) 2)", "r3(r4(0 r1(r3(r5(1))) 2))", "3", "4", "r5(4)"}
	want = append(want, "r2("+want[7]+" 3 r5(4))", "r1(r2("+want[7]+" 3 r5(4)))")
	if text != want[12] || at != 0 || e != api.OK || !slices.Equal(calls, want) {
		t.Errorf("Fold = %q, %d, %v, by %q", text, at, e, calls)
	}
	count, at, e := lr.Fold(x, numbers(t, g, "id * id"), func(int) []float64 { return []float64{1} }, func(_ int, parts [][]float64) []float64 {
		return slices.Concat(parts...)
	})
	if len(count) != 3 || at != 0 || e != api.OK {
		t.Errorf("Fold = %v, %d, %v", count, at, e)
	}
}

// F14.5: calls ahead of an error, and the zero value with it.
func TestFoldAheadOfErrors(t *testing.T) {
	x, g := plain(t, lr.SLR, "E -> E + T | T", "T -> T * F | F", "F -> ( E ) | id")
	for _, c := range []struct {
		text  string
		at    int
		calls list
	}{
		{"", 0, nil},
		{")", 0, nil},
		{"( )", 1, list{"0"}},
		{"id id", 1, list{"0"}},
		{"id + )", 2, list{"0", "r5(0)", "r3(r5(0))", "r1(r3(r5(0)))", "1"}},
		{"id )", 1, list{"0", "r5(0)", "r3(r5(0))", "r1(r3(r5(0)))"}}, // SLR goes by rules at a wrong token
	} {
		worth, at, e, calls := folded(x, numbers(t, g, c.text))
		if worth != "" || at != c.at || e != api.ErrSyntax || !slices.Equal(calls, c.calls) {
			t.Errorf("%s: %q, %d, %v, by %q", c.text, worth, at, e, calls)
		}
	}
	missing := bent(stack(1), func(y *lr.Table) { y.Goto[0][0] = 1 })
	worth, at, e, calls := folded(missing, []int{0}) // Goto has -1: the rule is not noted
	if worth != "" || at != 1 || e != api.ErrSyntax || !slices.Equal(calls, list{"0"}) {
		t.Errorf("%q, %d, %v, by %q", worth, at, e, calls)
	}
	worth, at, e, calls = folded(stack(2), []int{0}) // Size is more than there is
	if worth != "" || at != 1 || e != api.ErrSyntax || !slices.Equal(calls, list{"0"}) {
		t.Errorf("%q, %d, %v, by %q", worth, at, e, calls)
	}
}

// F14.5: rules of nothing have no parts, and at Accept there may be nothing, or more than one.
func TestFoldOfNothing(t *testing.T) {
	x, _ := plain(t, lr.LALR, "S -> A B A", "A ->", "B -> b |")
	worth, _, e, calls := folded(x, nil)
	if worth != "r0(r1() r3() r1())" || e != api.OK || len(calls) != 4 {
		t.Errorf("Fold = %q, %v, by %q", worth, e, calls)
	}
	only := bent(wide(1, 1, 1, 0), func(y *lr.Table) { y.Action[0][0] = lr.Accept })
	worth, at, e, calls := folded(only, nil)
	if worth != "" || at != 0 || e != api.OK || len(calls) != 0 {
		t.Errorf("Fold = %q, %d, %v, by %q", worth, at, e, calls)
	}
	three := bent(wide(1, 2, 1, 0), func(y *lr.Table) { y.Action[0] = []int{1, lr.Accept} })
	worth, at, e, calls = folded(three, []int{0, 0, 0})
	if worth != "2" || at != 0 || e != api.OK || !slices.Equal(calls, list{"0", "1", "2"}) {
		t.Errorf("Fold = %q, %d, %v, by %q", worth, at, e, calls)
	}
}

// F14.5: leaf or node nil, ahead of all else.
func TestFoldWithoutFunctions(t *testing.T) {
	right, _ := plain(t, lr.LALR, "S -> a")
	calls := 0
	leaf := func(int) string { calls++; return "leaf" }
	node := func(int, []string) string { calls++; return "node" }
	for _, x := range []lr.Table{right, {}, wide(1, 0, 1, 0)} {
		for _, tokens := range [][]int{{0}, nil, {-1}, {9, 9}, make([]int, api.MaxMemory+1)} {
			for n := range 3 {
				var worth string
				var at int
				var e api.Errno
				switch n {
				case 0:
					worth, at, e = lr.Fold(x, tokens, nil, node)
				case 1:
					worth, at, e = lr.Fold(x, tokens, leaf, nil)
				case 2:
					worth, at, e = lr.Fold[string](x, tokens, nil, nil)
				}
				if worth != "" || at != 0 || e != api.ErrNil || calls > 0 {
					t.Errorf("Fold = %q, %d, %v, by %d calls", worth, at, e, calls)
				}
			}
		}
	}
}

// F14.5: against a slow driver, with tables at random.
func TestFoldByTheWords(t *testing.T) {
	r := rand.New(rand.NewSource(1406))
	results := map[api.Errno]int{}
	for range 6000 {
		x := someTable(r)
		tokens := make([]int, r.Intn(7))
		if len(x.Action[0]) == 1 {
			tokens = nil
		}
		for i := range tokens {
			tokens[i] = r.Intn(len(x.Action[0]) - 1)
		}
		d := slowDrive(x, tokens)
		results[d.result]++
		want, place := "", d.at
		if d.result == api.OK {
			place = 0
			if len(d.worth) > 0 {
				want = d.worth[len(d.worth)-1]
			}
		}
		worth, at, e, calls := folded(x, tokens)
		if worth != want || at != place || e != d.result || !slices.Equal(calls, d.calls) {
			t.Errorf("Fold(%v, %v) = %q, %d, %v, by %q, not %q, %d, %v, by %q", x, tokens, worth, at, e, calls, want, place, d.result, d.calls)
		}
	}
	if results[api.OK] < 500 || results[api.ErrSyntax] < 500 || results[api.ErrBig] < 200 {
		t.Errorf("that tells little: %v", results)
	}
}
