package lr_test

import (
	"fmt"
	"math"
	"math/rand"
	"slices"
	"testing"

	"orrery/api"
	"orrery/lr"
)

// wantDrive: the tokens are taken, by these rules, and nothing is expected.
func wantDrive(t *testing.T, x lr.Table, tokens []int, want ...int) {
	t.Helper()
	rules, at, e := lr.Drive(x, tokens)
	if !slices.Equal(rules, want) || at != 0 || e != api.OK {
		t.Errorf("Drive(%.60s) = %.200s, %d, %v, not %.200s", fmt.Sprint(tokens), fmt.Sprint(rules), at, e, fmt.Sprint(want))
	}
	if all, e := lr.Expected(x, tokens); len(all) != 0 || e != api.OK {
		t.Errorf("Expected(%.60s) = %v, %v", fmt.Sprint(tokens), all, e)
	}
}

// wantStop: Drive stops there, and these are expected.
func wantStop(t *testing.T, x lr.Table, tokens []int, place int, result api.Errno, expected ...int) {
	t.Helper()
	rules, at, e := lr.Drive(x, tokens)
	if len(rules) != 0 || at != place || e != result {
		t.Errorf("Drive(%.60s) = %.200s, %d, %v, not %d, %v", fmt.Sprint(tokens), fmt.Sprint(rules), at, e, place, result)
	}
	all, e := lr.Expected(x, tokens)
	wantErrno(t, "Expected", e, api.OK)
	wantInts(t, fmt.Sprintf("Expected(%.60s)", fmt.Sprint(tokens)), all, expected...)
}

// wantWrong: neither Drive nor Expected nor Fold begins.
func wantWrong(t *testing.T, x lr.Table, tokens []int, result api.Errno) {
	t.Helper()
	if rules, at, e := lr.Drive(x, tokens); len(rules) != 0 || at != 0 || e != result {
		t.Errorf("Drive(%.60s) = %.200s, %d, %v", fmt.Sprint(tokens), fmt.Sprint(rules), at, e)
	}
	if all, e := lr.Expected(x, tokens); len(all) != 0 || e != result {
		t.Errorf("Expected(%.60s) = %v, %v", fmt.Sprint(tokens), all, e)
	}
	calls := 0
	leaf, node := func(int) int { calls++; return 7 }, func(int, []int) int { calls++; return 7 }
	if v, at, e := lr.Fold(x, tokens, leaf, node); v != 0 || at != 0 || e != result || calls > 0 {
		t.Errorf("Fold(%.60s) = %v, %d, %v, by %d calls", fmt.Sprint(tokens), v, at, e, calls)
	}
}

// F14.4: no tokens, some, and where it stops.
func TestDrive(t *testing.T) {
	x, g := plain(t, lr.LALR, "E -> E + T | T", "T -> T * F | F", "F -> ( E ) | id")
	for text, rules := range map[string][]int{
		"id":              {5, 3, 1},
		"id * id":         {5, 3, 5, 2, 1},
		"( id )":          {5, 3, 1, 4, 3, 1},
		"( id + id )":     {5, 3, 1, 5, 3, 0, 4, 3, 1},
		"id + id + id":    {5, 3, 1, 5, 3, 0, 5, 3, 0},
		"( ( id ) * id )": {5, 3, 1, 4, 3, 5, 2, 1, 4, 3, 1},
	} {
		wantDrive(t, x, numbers(t, g, text), rules...)
	}
	for text, at := range map[string]int{"": 0, "+": 0, ")": 0, "( )": 1, "id id": 1, "id +": 2, "( id": 2, "( id ) )": 3, "id + * id": 2, "id ( id )": 1} {
		want := numbers(t, g, "( id")
		switch text {
		case "id id", "id ( id )": // behind an id that no rule was noted of
			want = numbers(t, g, "+ * ) $")
		case "( id": // T was made E at the end, since it can end there somewhere else
			want = numbers(t, g, "+ )")
		case "( id ) )":
			want = numbers(t, g, "+ $")
		}
		slices.Sort(want)
		wantStop(t, x, numbers(t, g, text), at, api.ErrSyntax, want...)
	}
	y, _ := plain(t, lr.SLR, "S -> a S |")
	wantDrive(t, y, nil, 1)
	wantDrive(t, y, []int{0}, 1, 0)
	wantDrive(t, y, []int{0, 0, 0}, 1, 0, 0, 0)
}

// F14.4: tokens that are none, told ahead of too many.
func TestDriveOfWrongTokens(t *testing.T) {
	x, _ := plain(t, lr.LALR, "S -> S a | S b |") // a 0, b 1, the end 2
	for _, token := range []int{-1, 2, 3, 4, math.MinInt, math.MaxInt, lr.Accept} {
		for _, tokens := range [][]int{{token}, {0, token}, {token, 0}, {0, 1, 0, 1, token, 1}} {
			wantWrong(t, x, tokens, api.ErrArg)
		}
		most := make([]int, api.MaxMemory)
		most[api.MaxMemory-1] = token
		wantWrong(t, x, most, api.ErrArg)
		wantWrong(t, x, append(most, 0), api.ErrArg)
		wantWrong(t, x, append(make([]int, 2*api.MaxMemory), token), api.ErrArg)
	}
	only := bent(wide(1, 1, 1, 0), func(y *lr.Table) { y.Action[0][0] = lr.Accept }) // with the end alone
	wantDrive(t, only, nil)
	wantWrong(t, only, []int{0}, api.ErrArg)
}

// F14.4: MaxMemory tokens, and one more.
func TestDriveOfMaxMemory(t *testing.T) {
	left, _ := plain(t, lr.LALR, "S -> S a | S b |")
	right, _ := plain(t, lr.SLR, "S -> a S | b S | c")
	tokens := make([]int, api.MaxMemory)
	rules := make([]int, api.MaxMemory+1)
	rules[0] = 2
	wantDrive(t, left, tokens, rules...)
	wantWrong(t, left, append(tokens, 1), api.ErrBig)
	wantWrong(t, left, make([]int, 3*api.MaxMemory), api.ErrBig)
	wantStop(t, right, tokens, api.MaxMemory, api.ErrSyntax, 0, 1, 2)
	tokens[api.MaxMemory-1] = 2
	rules = make([]int, api.MaxMemory)
	rules[0] = 2
	wantDrive(t, right, tokens, rules...)
	wantWrong(t, right, append(tokens, 0), api.ErrBig)
}

// stack: tables of states that lie one above the other: the states 0 to 3 go on by the terminal 0, the terminal 1 is by the rule 0, and so is the end.
func stack(size int) lr.Table {
	x := wide(5, 3, 2, 1)
	for state := range 5 {
		x.Action[state] = []int{state + 2, -1, -1}
		x.Goto[state] = []int{-1, -1}
	}
	x.Action[4][0] = 0
	x.Left[0], x.Size[0] = 1, size
	return x
}

// F14.4: a Size that is more than there is above the first state: nothing is taken off.
func TestDriveOfWrongSizes(t *testing.T) {
	for above := range 4 {
		tokens := make([]int, above)
		for _, size := range []int{above + 1, above + 2, 1000, api.MaxText} {
			wantStop(t, bent(stack(size), func(y *lr.Table) { y.Action[above][0] = 0 }), tokens, above, api.ErrSyntax, 1, 2)
			wantStop(t, bent(stack(size), func(y *lr.Table) { y.Action[above][2] = lr.Accept }), append(tokens, 1), above, api.ErrSyntax, 0, 1, 2)
		}
		x := bent(stack(above), func(y *lr.Table) { y.Goto[0][1], y.Action[4] = 4, []int{0, 0, lr.Accept} })
		wantDrive(t, x, tokens, 0)
	}
}

// F14.4: -1 in Goto: the states are off, and what is expected is told of the one below.
func TestDriveOfWrongGotos(t *testing.T) {
	for above := range 4 {
		for size := range above + 1 {
			below := above - size
			x := bent(stack(size), func(y *lr.Table) {
				y.Goto[below][0] = 4 // of another left side
				y.Action[below] = []int{below + 2, -1, -1}
				if size > 0 {
					y.Action[below][1] = 0
				}
			})
			want := []int{0, 2}
			if size == 0 {
				want = []int{0, 1, 2}
			}
			wantStop(t, x, make([]int, above), above, api.ErrSyntax, want...)
			if size > 0 {
				wantStop(t, x, append(make([]int, above), 1), above, api.ErrSyntax, want...)
			}
		}
	}
}

// round: tables that go by this many rules at the end, none of which needs a token, and then do what last says: half of the rules lay states upon one another, half take them off.
func round(rules, last int) lr.Table {
	up := rules / 2
	x := wide(up+4, 2, 4, 5)
	off, more, done := up+1, up+2, up+3
	for state := range up {
		x.Action[state][1] = -1 // nothing becomes 0: the next state lies on top
		x.Goto[state] = []int{state + 1, off, -1, done}
	}
	x.Action[up][1], x.Action[off][1] = -2, -3
	x.Left, x.Size = []int{0, 1, 1, 2, 3}, []int{0, 1, 2, 0, 1}
	x.Goto[0][1] = done
	if rules%2 == 1 {
		x.Goto[0][1] = more
	}
	x.Action[more][1] = -5
	x.Action[done][1] = last
	return x
}

// F14.4: MaxItems rules for each token and the end, and one more; what is wrong is told ahead of that.
func TestDriveGoesRound(t *testing.T) {
	for _, n := range []int{2, 3, 10, 11, api.MaxItems - 1, api.MaxItems} {
		rules, at, e := lr.Drive(round(n, lr.Accept), nil)
		if len(rules) != n || at != 0 || e != api.OK {
			t.Errorf("Drive by %d rules: %d, %d, %v", n, len(rules), at, e)
		}
		wantStop(t, round(n, 0), nil, 0, api.ErrSyntax)
	}
	for _, n := range []int{api.MaxItems + 1, api.MaxItems + 2, 2*api.MaxItems - 10} {
		wantStop(t, round(n, lr.Accept), nil, 0, api.ErrBig)
	}
	full := round(api.MaxItems, lr.Accept)
	done := len(full.Action) - 1
	end := func(left, size int) lr.Table {
		return bent(full, func(y *lr.Table) {
			y.Action[done] = []int{1, -4}
			y.Left[3], y.Size[3] = left, size
		})
	}
	wantStop(t, end(2, 0), nil, 0, api.ErrSyntax, 0, 1) // Goto has -1
	wantStop(t, end(2, 1), nil, 0, api.ErrSyntax, 1)    // and it has below
	wantStop(t, end(3, 2), nil, 0, api.ErrSyntax, 0, 1) // the first state would be taken off
	wantStop(t, end(3, 1), nil, 0, api.ErrBig)
	for n := range 4 { // a token for each, and the end
		x := bent(wide(3, 2, 1, 1), func(y *lr.Table) {
			y.Action[0][0], y.Action[0][1] = 1, -1
			y.Goto[0][0] = 0
		})
		wantStop(t, x, make([]int, n), n, api.ErrBig)
		calls := 0
		_, at, e := lr.Fold(x, make([]int, n), func(int) int { return 0 }, func(int, []int) int { calls++; return 0 })
		if at != n || e != api.ErrBig || calls != api.MaxItems*(n+1) {
			t.Errorf("Fold: %d, %v, by %d calls", at, e, calls)
		}
	}
	g := parsed(t, "S -> A S b | A", "A ->") // rules of nothing, ahead of each token
	x, _ := built(t, g, lr.LALR)
	wantStop(t, bent(x, func(y *lr.Table) { y.Action[0][0] = -3; y.Action[2][0], y.Action[2][1] = -3, -3 }), []int{0, 0, 0}, 0, api.ErrBig)
}

// F14.4: against a slow driver, with tables at random.
func TestDriveByTheWords(t *testing.T) {
	r := rand.New(rand.NewSource(1405))
	results := map[api.Errno]int{}
	for range 6000 {
		x := someTable(r)
		tokens := make([]int, r.Intn(7))
		if len(x.Action[0]) == 1 {
			tokens = nil
		}
		for i := range tokens {
			tokens[i] = r.Intn(len(x.Action[0]) - 1)
		}
		d := slowDrive(x, tokens)
		results[d.result]++
		if d.result == api.OK {
			wantDrive(t, x, tokens, d.rules...)
			continue
		}
		var expected []int
		for symbol, action := range x.Action[d.top] {
			if action != 0 && d.result == api.ErrSyntax {
				expected = append(expected, symbol)
			}
		}
		wantStop(t, x, tokens, d.at, d.result, expected...)
	}
	if results[api.OK] < 500 || results[api.ErrSyntax] < 500 || results[api.ErrBig] < 200 {
		t.Errorf("that tells little: %v", results)
	}
}
