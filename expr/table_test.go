package expr_test

import (
	"reflect"
	"testing"

	"orrery/api"
	"orrery/expr"
	"orrery/grammar"
	"orrery/lr"
)

const chapterGrammar = "E -> E or E\nE -> E ^ E\nE -> E & E\nE -> E << E\nE -> E >> E\nE -> E + E\nE -> E - E\nE -> E * E\nE -> E / E\n" +
	"E -> < E\nE -> > E\nE -> U\nU -> - U\nU -> + U\nU -> ~ U\nU -> ! U\nU -> number\nU -> name\nU -> *\nU -> ( E )\n"

func chapters(t testing.TB) *grammar.Grammar {
	t.Helper()
	g, line, e := grammar.Parse(chapterGrammar)
	if e != api.OK {
		t.Fatalf("line %d: %v", line, e)
	}
	return g
}

// chapterLevels: those of the chapter, in order of the terminals, the end's behind them.
var chapterLevels = []struct {
	name  string
	level int
}{
	{"or", 2}, {"^", 3}, {"&", 4}, {"<<", 5}, {">>", 5}, {"+", 6}, {"-", 6}, {"*", 7}, {"/", 7}, {"<", 1}, {">", 1},
	{"~", 0}, {"!", 0}, {"number", 0}, {"name", 0}, {"(", 0}, {")", 0}, {"$", 0},
}

// F16.1.
func TestGrammar(t *testing.T) {
	if got := expr.Grammar(); got != chapterGrammar {
		t.Errorf("the grammar is %q", got)
	}
	g := chapters(t)
	if len(g.Rules()) != 20 || len(g.Useless()) != 0 {
		t.Errorf("%d rules, useless %v", len(g.Rules()), g.Useless())
	}
}

// F16.1: by the numbers of the terminals, the zero Prec of those without a level.
func TestPrecedences(t *testing.T) {
	g := chapters(t)
	if g.Terminals() != len(chapterLevels) {
		t.Fatalf("%d terminals", g.Terminals())
	}
	var want []lr.Prec
	for symbol, c := range chapterLevels {
		if name, _ := g.Name(symbol); name != c.name {
			t.Fatalf("terminal %d is %s", symbol, name)
		}
		one := lr.Prec{}
		if c.level > 0 {
			one = lr.Prec{Level: c.level, Side: lr.Left}
		}
		want = append(want, one)
	}
	wantList(t, "Precedences", expr.Precedences(), want...)
}

// F16.1, P1601: what lr.Build makes anew of the chapter's text and levels.
func TestTable(t *testing.T) {
	var prec []lr.Prec
	for _, c := range chapterLevels {
		prec = append(prec, lr.Prec{Level: c.level, Side: min(c.level, lr.Left)})
	}
	want, conflicts, e := lr.Build(chapters(t), lr.LALR, prec)
	if len(conflicts) > 0 || e != api.OK {
		t.Fatalf("conflicts %v, %v", conflicts, e)
	}
	for range 3 {
		if got := expr.Table(); !reflect.DeepEqual(got, want) || !lr.Valid(got) {
			t.Fatalf("the table is %v, not %v", got, want)
		}
	}
}

// P1601: of the package's own answers, and that the precedences are what leaves no conflict.
func TestNoConflicts(t *testing.T) {
	g, _, e := grammar.Parse(expr.Grammar())
	if e != api.OK {
		t.Fatal(e)
	}
	made, conflicts, e := lr.Build(g, lr.LALR, expr.Precedences())
	if len(conflicts) > 0 || e != api.OK || !reflect.DeepEqual(made, expr.Table()) {
		t.Errorf("conflicts %v, %v", conflicts, e)
	}
	if _, open, _ := lr.Build(g, lr.LALR, nil); len(open) == 0 {
		t.Error("no conflicts without precedences")
	}
}
