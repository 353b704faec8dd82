package gf_test

import (
	"bytes"
	"math"
	"math/big"
	"math/rand"
	"slices"
	"testing"

	"orrery/api"
	"orrery/gf"
)

// wrongPolys: what has another degree than 8.
var wrongPolys = []int{0xff, 0x200, 0x201, 0x21b, 0x3ff, 0x1b, 2, 1, 0, -1, -0x11b, -0x100, -0x1ff, 0x11b << 8, 0x11b | 1<<16, 0x11b | 1<<32, math.MinInt | 0x11b, math.MinInt, math.MaxInt}

// product: of two polynomials over two elements, nothing taken off it.
func product(a, b int) int {
	sum := 0
	for i := range 9 {
		if b&(1<<i) != 0 {
			sum ^= a << i
		}
	}
	return sum
}

// carried: the product modulo poly, by long division of the whole product.
func carried(a, b byte, poly int) byte {
	p := product(int(a), int(b))
	for i := 14; i >= 8; i-- {
		if p&(1<<i) != 0 {
			p ^= poly << (i - 8)
		}
	}
	return byte(p)
}

// composed: all products of two polynomials of degrees from 1 to 7.
func composed() map[int]int {
	seen := map[int]int{}
	for a := 2; a < 256; a++ {
		for b := a; b < 256; b++ {
			seen[product(a, b)]++
		}
	}
	return seen
}

// orderOf: by a walk over many more powers than there are elements.
func orderOf(poly int, g byte) int {
	power := byte(1)
	for n := 1; n <= 600; n++ {
		power = carried(power, g, poly)
		if power == 1 {
			return n
		}
		if power == 0 {
			return 0
		}
	}
	return 0
}

type made struct {
	poly  int
	g     byte
	field *gf.Field
}

// fields: some of several polys and generators; that of 0x11b and 3, and that of 0x11d and 2, among them.
func fields(t *testing.T) []made {
	t.Helper()
	var list []made
	for _, m := range []made{{poly: 0x11b, g: 3}, {poly: 0x11d, g: 2}, {poly: 0x11b, g: 0xe5}, {poly: 0x12d, g: 2}, {poly: 0x1f5, g: 2}, {poly: 0x1f9, g: 3}} {
		f, e := gf.New(m.poly, m.g)
		if f == nil || e != api.OK {
			t.Fatalf("New(%#x, %d): %v, %v", m.poly, m.g, f, e)
		}
		m.field = f
		list = append(list, m)
	}
	return list
}

func one(t *testing.T) *gf.Field { return fields(t)[1].field }

// power: a to the n, n any int, by multiplication after multiplication; to the 255 all but 0 are 1.
func power(poly int, a byte, n int) byte {
	times := int(new(big.Int).Mod(big.NewInt(int64(n)), big.NewInt(255)).Int64())
	p := byte(1)
	for range times {
		p = carried(p, a, poly)
	}
	return p
}

var ints = []int{0, 1, 2, 3, 7, 8, 253, 254, 255, 256, 509, 510, 511, 65535, 1 << 31, 1 << 32, 1<<62 + 1, math.MaxInt - 1, math.MaxInt,
	-1, -2, -3, -254, -255, -256, -510, -511, -1 << 31, -1 << 62, math.MinInt + 1, math.MinInt}

func TestCarry(t *testing.T) {
	for poly := 0x100; poly <= 0x1ff; poly++ {
		step := 7
		if poly == 0x100 || poly == 0x11b || poly == 0x11d || poly == 0x1ff {
			step = 1
		}
		for a := 0; a < 256; a += step {
			for b := range 256 {
				if got, want := gf.Carry(byte(a), byte(b), poly), carried(byte(a), byte(b), poly); got != want {
					t.Fatalf("Carry(%#x, %#x, %#x): %#x, not %#x", a, b, poly, got, want)
				}
			}
		}
	}
	for _, c := range []struct {
		a, b byte
		poly int
		want byte
	}{{0x57, 0x83, 0x11b, 0xc1}, {2, 0x80, 0x11b, 0x1b}, {2, 0x80, 0x100, 0}, {2, 0x80, 0x1ff, 0xff}, {1, 1, 0x100, 1}, {0xff, 1, 0x1ff, 0xff}, {0, 0xff, 0x11b, 0}} {
		if got := gf.Carry(c.a, c.b, c.poly); got != c.want {
			t.Errorf("Carry(%#x, %#x, %#x): %#x, not %#x", c.a, c.b, c.poly, got, c.want)
		}
	}
}

func TestCarryOfAnotherDegree(t *testing.T) {
	for _, poly := range wrongPolys {
		for _, a := range []byte{0, 1, 2, 0x57, 0x80, 0xff} {
			for _, b := range []byte{0, 1, 2, 0x83, 0x80, 0xff} {
				if got := gf.Carry(a, b, poly); got != 0 {
					t.Errorf("Carry(%#x, %#x, %#x): %#x, not 0", a, b, poly, got)
				}
			}
		}
	}
}

func TestIrreducible(t *testing.T) {
	products, count := composed(), 0
	for poly := -0x400; poly <= 0x800; poly++ {
		want := poly >= 0x100 && poly <= 0x1ff && products[poly] == 0
		if got := gf.Irreducible(poly); got != want {
			t.Errorf("Irreducible(%#x): %v", poly, got)
		}
		if want {
			count++
		}
	}
	if count != 30 {
		t.Errorf("%d polynomials of degree 8 are irreducible, not 30", count)
	}
	for _, poly := range wrongPolys {
		if gf.Irreducible(poly) {
			t.Errorf("Irreducible(%#x): true", poly)
		}
	}
	for poly, want := range map[int]bool{0x11b: true, 0x11d: true, 0x1f9: true, 0x101: false, 0x100: false, 0x1ff: false, product(0x13, 0x19): false, product(0x13, 0x13): false, product(2, 0x83): false, product(3, 0x83): false} {
		if got := gf.Irreducible(poly); got != want {
			t.Errorf("Irreducible(%#x): %v", poly, got)
		}
	}
}

func TestOrder(t *testing.T) {
	for poly := 0x100; poly <= 0x1ff; poly++ {
		for g := range 256 {
			if got, want := gf.Order(poly, byte(g)), orderOf(poly, byte(g)); got != want {
				t.Fatalf("Order(%#x, %#x): %d, not %d", poly, g, got, want)
			}
		}
	}
	for _, c := range []struct {
		poly int
		g    byte
		want int
	}{{0x11b, 2, 51}, {0x11b, 3, 255}, {0x11d, 2, 255}, {0x11b, 1, 1}, {0x11b, 0, 0}, {0x100, 2, 0}, {0x101, 3, 0}, {0x101, 2, 8}, {0x100, 1, 1}, {0x1ff, 2, 9}} {
		if got := gf.Order(c.poly, c.g); got != c.want {
			t.Errorf("Order(%#x, %#x): %d, not %d", c.poly, c.g, got, c.want)
		}
	}
}

func TestOrderOfAnotherDegree(t *testing.T) {
	for _, poly := range wrongPolys {
		for g := range 256 {
			if got := gf.Order(poly, byte(g)); got != 0 {
				t.Errorf("Order(%#x, %#x): %d, not 0", poly, g, got)
			}
		}
	}
}

func TestNew(t *testing.T) {
	products, count := composed(), 0
	for poly := 0x100; poly <= 0x1ff; poly++ {
		for g := range 256 {
			f, e := gf.New(poly, byte(g))
			if products[poly] > 0 || orderOf(poly, byte(g)) != 255 {
				if f != nil || e != api.ErrField {
					t.Fatalf("New(%#x, %#x): %v, %v", poly, g, f, e)
				}
				continue
			}
			if f == nil || e != api.OK || f.Exp(1) != byte(g) || f.Exp(0) != 1 || f.Mul(2, 0x80) != byte(poly) {
				t.Fatalf("New(%#x, %#x): %v, %v", poly, g, f, e)
			}
			count++
		}
	}
	if count != 30*128 {
		t.Errorf("%d fields, not %d", count, 30*128)
	}
}

func TestNewOfWhatIsNone(t *testing.T) {
	for _, poly := range append([]int{0x100, 0x101, 0x1ff, product(0x13, 0x19)}, wrongPolys...) {
		for g := range 256 {
			if f, e := gf.New(poly, byte(g)); f != nil || e != api.ErrField {
				t.Errorf("New(%#x, %#x): %v, %v", poly, g, f, e)
			}
		}
	}
	for _, g := range []byte{0, 1, 2} {
		if f, e := gf.New(0x11b, g); f != nil || e != api.ErrField {
			t.Errorf("New(0x11b, %#x): %v, %v", g, f, e)
		}
	}
}

func TestMulDivInv(t *testing.T) {
	for _, m := range fields(t) {
		for a := range 256 {
			for b := range 256 {
				x, y := byte(a), byte(b)
				if got, want := m.field.Mul(x, y), carried(x, y, m.poly); got != want {
					t.Fatalf("of %#x, %d: Mul(%#x, %#x): %#x, not %#x", m.poly, m.g, x, y, got, want)
				}
				c, e := m.field.Div(x, y)
				if y == 0 {
					if c != 0 || e != api.ErrZero {
						t.Fatalf("of %#x, %d: Div(%#x, 0): %#x, %v", m.poly, m.g, x, c, e)
					}
				} else if e != api.OK || carried(c, y, m.poly) != x {
					t.Fatalf("of %#x, %d: Div(%#x, %#x): %#x, %v", m.poly, m.g, x, y, c, e)
				}
			}
		}
		for a := 1; a < 256; a++ {
			if c, e := m.field.Inv(byte(a)); e != api.OK || carried(c, byte(a), m.poly) != 1 {
				t.Errorf("of %#x, %d: Inv(%#x): %#x, %v", m.poly, m.g, a, c, e)
			}
		}
		if c, e := m.field.Inv(0); c != 0 || e != api.ErrZero {
			t.Errorf("of %#x, %d: Inv(0): %#x, %v", m.poly, m.g, c, e)
		}
	}
}

func TestPow(t *testing.T) {
	for _, m := range fields(t) {
		for _, n := range ints {
			for a := 1; a < 256; a++ {
				if got, e := m.field.Pow(byte(a), n); e != api.OK || got != power(m.poly, byte(a), n) {
					t.Fatalf("of %#x, %d: Pow(%#x, %d): %#x, %v, not %#x", m.poly, m.g, a, n, got, e, power(m.poly, byte(a), n))
				}
			}
			got, e := m.field.Pow(0, n)
			want, wantE := byte(0), api.OK
			if n == 0 {
				want = 1
			} else if n < 0 {
				wantE = api.ErrZero
			}
			if got != want || e != wantE {
				t.Errorf("of %#x, %d: Pow(0, %d): %#x, %v", m.poly, m.g, n, got, e)
			}
		}
	}
	if got, e := one(t).Pow(2, -1); got != 0x8e || e != api.OK {
		t.Errorf("Pow(2, -1): %#x, %v", got, e)
	}
}

func TestExpLog(t *testing.T) {
	for _, m := range fields(t) {
		p := byte(1)
		for n := range 256 {
			if got := m.field.Exp(n); got != p {
				t.Errorf("of %#x, %d: Exp(%d): %#x, not %#x", m.poly, m.g, n, got, p)
			}
			if got := m.field.Exp(n - 255); got != p {
				t.Errorf("of %#x, %d: Exp(%d): %#x, not %#x", m.poly, m.g, n-255, got, p)
			}
			if got, e := m.field.Log(p); n < 255 && (got != n || e != api.OK) {
				t.Errorf("of %#x, %d: Log(%#x): %d, %v, not %d", m.poly, m.g, p, got, e, n)
			}
			p = carried(p, m.g, m.poly)
		}
		for _, n := range ints {
			if got, want := m.field.Exp(n), power(m.poly, m.g, n); got != want {
				t.Errorf("of %#x, %d: Exp(%d): %#x, not %#x", m.poly, m.g, n, got, want)
			}
		}
		if n, e := m.field.Log(0); n != 0 || e != api.ErrZero {
			t.Errorf("of %#x, %d: Log(0): %d, %v", m.poly, m.g, n, e)
		}
	}
	f := one(t)
	if n, e := f.Log(0x1d); f.Exp(8) != 0x1d || n != 8 || e != api.OK {
		t.Errorf("Exp(8): %#x; Log(0x1d): %d, %v", f.Exp(8), n, e)
	}
}

// polynomials: of no coefficient, of zeros alone, with zeros at their front, within and at their end, and many by chance.
func polynomials(seed int64) [][]byte {
	list := [][]byte{nil, {}, {0}, {0, 0, 0}, {1}, {7}, {255, 0}, {0, 1}, {0, 0, 9, 0, 0}, {1, 1}, {1, 0, 1}, {3, 0, 0, 0, 5}, {5, 4, 3, 2, 1, 0}}
	r := rand.New(rand.NewSource(seed))
	for range 25 {
		p := make([]byte, 1+r.Intn(20))
		r.Read(p)
		if r.Intn(3) == 0 {
			p = append(p, make([]byte, 1+r.Intn(4))...)
		}
		list = append(list, p)
	}
	return list
}

// cut: a copy without the zeros at its end.
func cut(p []byte) []byte { return bytes.TrimRight(slices.Clone(p), "\x00") }

func at(p []byte, i int) byte {
	if i < len(p) {
		return p[i]
	}
	return 0
}

func plus(p, q []byte) []byte {
	sum := make([]byte, max(len(p), len(q)))
	for i := range sum {
		sum[i] = at(p, i) ^ at(q, i)
	}
	return cut(sum)
}

func times(poly int, p, q []byte) []byte {
	whole := make([]byte, len(p)+len(q))
	for n := range whole {
		for i := range n + 1 {
			whole[n] ^= carried(at(p, i), at(q, n-i), poly)
		}
	}
	return cut(whole)
}

// evaluated: the sum of each coefficient times the power of x.
func evaluated(poly int, p []byte, x byte) byte {
	sum, power := byte(0), byte(1)
	for _, c := range p {
		sum ^= carried(c, power, poly)
		power = carried(power, x, poly)
	}
	return sum
}

func TestEval(t *testing.T) {
	for _, m := range fields(t) {
		for _, p := range polynomials(1) {
			for x := range 256 {
				if got, want := m.field.Eval(p, byte(x)), evaluated(m.poly, p, byte(x)); got != want {
					t.Fatalf("of %#x, %d: Eval(%v, %#x): %#x, not %#x", m.poly, m.g, p, x, got, want)
				}
			}
		}
	}
}

func TestPlusTimes(t *testing.T) {
	for _, m := range fields(t) {
		for _, p := range polynomials(2) {
			for _, q := range polynomials(3) {
				if got, want := m.field.Plus(p, q), plus(p, q); !bytes.Equal(got, want) {
					t.Fatalf("of %#x, %d: Plus(%v, %v): %v, not %v", m.poly, m.g, p, q, got, want)
				}
				if got, want := m.field.Times(p, q), times(m.poly, p, q); !bytes.Equal(got, want) {
					t.Fatalf("of %#x, %d: Times(%v, %v): %v, not %v", m.poly, m.g, p, q, got, want)
				}
			}
			if got := m.field.Plus(p, p); len(got) != 0 {
				t.Errorf("of %#x, %d: Plus(%v, %v): %v", m.poly, m.g, p, p, got)
			}
			if got, want := m.field.Times(p, p), times(m.poly, p, p); !bytes.Equal(got, want) {
				t.Errorf("of %#x, %d: Times(%v, %v): %v, not %v", m.poly, m.g, p, p, got, want)
			}
		}
	}
	f := one(t)
	if got := f.Plus([]byte{1, 2, 0}, []byte{0, 2}); !bytes.Equal(got, []byte{1}) {
		t.Errorf("Plus: %v", got)
	}
	if got := f.Times([]byte{1, 1, 0}, []byte{1, 1}); !bytes.Equal(got, []byte{1, 0, 1}) {
		t.Errorf("Times: %v", got)
	}
}

func TestDivide(t *testing.T) {
	for _, m := range fields(t) {
		for _, p := range polynomials(4) {
			for _, q := range polynomials(5) {
				quotient, rest, e := m.field.Divide(p, q)
				if len(cut(q)) == 0 {
					if len(quotient) != 0 || len(rest) != 0 || e != api.ErrZero {
						t.Fatalf("of %#x, %d: Divide(%v, %v): %v, %v, %v", m.poly, m.g, p, q, quotient, rest, e)
					}
					continue
				}
				if e != api.OK || len(rest) >= len(cut(q)) || len(cut(rest)) != len(rest) || len(cut(quotient)) != len(quotient) {
					t.Fatalf("of %#x, %d: Divide(%v, %v): %v, %v, %v", m.poly, m.g, p, q, quotient, rest, e)
				}
				if got := plus(times(m.poly, q, quotient), rest); !bytes.Equal(got, cut(p)) {
					t.Fatalf("of %#x, %d: Divide(%v, %v): %v, %v, which is %v", m.poly, m.g, p, q, quotient, rest, got)
				}
			}
		}
	}
}

func TestDivideAtItsEdges(t *testing.T) {
	f := one(t)
	for _, c := range []struct{ p, q, quotient, rest []byte }{
		{[]byte{1, 0, 1}, []byte{1, 1}, []byte{1, 1}, nil},
		{[]byte{1, 0, 1, 0, 0}, []byte{1, 1, 0}, []byte{1, 1}, nil},
		{[]byte{4, 5}, []byte{1, 2, 3}, nil, []byte{4, 5}},
		{[]byte{4, 5, 0, 0, 0}, []byte{1, 2, 3}, nil, []byte{4, 5}},
		{[]byte{4, 5, 6}, []byte{1}, []byte{4, 5, 6}, nil},
		{[]byte{4, 5, 6}, []byte{4, 5, 6}, []byte{1}, nil},
		{nil, []byte{1, 2, 3}, nil, nil},
		{[]byte{0, 0, 0, 0, 0}, []byte{1, 2, 3}, nil, nil},
		{[]byte{9, 0, 0, 1}, []byte{0, 1}, []byte{0, 0, 1}, []byte{9}},
	} {
		if quotient, rest, e := f.Divide(c.p, c.q); !bytes.Equal(quotient, c.quotient) || !bytes.Equal(rest, c.rest) || e != api.OK {
			t.Errorf("Divide(%v, %v): %v, %v, %v, not %v, %v", c.p, c.q, quotient, rest, e, c.quotient, c.rest)
		}
	}
	for _, q := range [][]byte{nil, {}, {0}, {0, 0, 0, 0}} {
		for _, p := range [][]byte{nil, {0}, {1}, {1, 2, 3}} {
			if quotient, rest, e := f.Divide(p, q); len(quotient) != 0 || len(rest) != 0 || e != api.ErrZero {
				t.Errorf("Divide(%v, %v): %v, %v, %v", p, q, quotient, rest, e)
			}
		}
	}
}

func TestRoots(t *testing.T) {
	for _, m := range fields(t) {
		for _, p := range polynomials(6) {
			var want []byte
			for x := range 256 {
				if evaluated(m.poly, p, byte(x)) == 0 {
					want = append(want, byte(x))
				}
			}
			if got := m.field.Roots(p); !bytes.Equal(got, want) {
				t.Fatalf("of %#x, %d: Roots(%v): %v, not %v", m.poly, m.g, p, got, want)
			}
		}
		p := []byte{5}
		for _, x := range []byte{200, 0, 255, 17, 17, 3} {
			p = times(m.poly, p, []byte{x, 1})
		}
		if got := m.field.Roots(p); !bytes.Equal(got, []byte{0, 3, 17, 200, 255}) {
			t.Errorf("of %#x, %d: Roots(%v): %v", m.poly, m.g, p, got)
		}
		for _, zero := range [][]byte{nil, {}, {0}, {0, 0, 0}} {
			got := m.field.Roots(zero)
			for x := range got {
				if int(got[x]) != x {
					t.Errorf("of %#x, %d: root %d of the zero polynomial is %d", m.poly, m.g, x, got[x])
				}
			}
			if len(got) != 256 {
				t.Errorf("of %#x, %d: the zero polynomial has %d roots", m.poly, m.g, len(got))
			}
		}
		if got := m.field.Roots([]byte{7}); len(got) != 0 {
			t.Errorf("of %#x, %d: Roots([7]): %v", m.poly, m.g, got)
		}
	}
	if got := one(t).Roots([]byte{1, 0, 1}); !bytes.Equal(got, []byte{1}) {
		t.Errorf("Roots([1 0 1]): %v", got)
	}
}

func TestLongPolynomials(t *testing.T) {
	f, r := one(t), rand.New(rand.NewSource(7))
	p, q := make([]byte, 3000), make([]byte, 1200)
	r.Read(p)
	r.Read(q)
	p[len(p)-1], q[len(q)-1] = 1, 9
	quotient, rest, e := f.Divide(p, q)
	if e != api.OK || len(quotient) != 1801 || len(rest) >= len(q) || !bytes.Equal(f.Plus(f.Times(q, quotient), rest), p) {
		t.Errorf("Divide of long ones: %d, %d, %v", len(quotient), len(rest), e)
	}
}

func TestNilField(t *testing.T) {
	var f *gf.Field
	if a, b, c := f.Mul(1, 1), f.Exp(0), f.Eval([]byte{1}, 1); a != 0 || b != 0 || c != 0 {
		t.Errorf("Mul, Exp, Eval: %d, %d, %d", a, b, c)
	}
	if a, b, c := f.Plus([]byte{1}, nil), f.Times([]byte{1}, []byte{1}), f.Roots(nil); len(a)+len(b)+len(c) != 0 {
		t.Errorf("Plus, Times, Roots: %v, %v, %v", a, b, c)
	}
	for _, b := range []byte{0, 1} { // what is nil is told ahead of what is 0
		if c, e := f.Div(1, b); c != 0 || e != api.ErrNil {
			t.Errorf("Div(1, %d): %d, %v", b, c, e)
		}
		if c, e := f.Inv(b); c != 0 || e != api.ErrNil {
			t.Errorf("Inv(%d): %d, %v", b, c, e)
		}
		if n, e := f.Log(b); n != 0 || e != api.ErrNil {
			t.Errorf("Log(%d): %d, %v", b, n, e)
		}
		for _, n := range []int{-1, 0, 1} {
			if c, e := f.Pow(b, n); c != 0 || e != api.ErrNil {
				t.Errorf("Pow(%d, %d): %d, %v", b, n, c, e)
			}
		}
		if q, r, e := f.Divide([]byte{1, 1}, []byte{b}); len(q) != 0 || len(r) != 0 || e != api.ErrNil {
			t.Errorf("Divide: %v, %v, %v", q, r, e)
		}
	}
	if q, r, e := f.Divide(nil, nil); len(q) != 0 || len(r) != 0 || e != api.ErrNil {
		t.Errorf("Divide of nothing: %v, %v, %v", q, r, e)
	}
}

func TestOwnMulInverse(t *testing.T) {
	for a := range 256 {
		for b := range 256 {
			if got, want := gf.Mul(byte(a), byte(b)), carried(byte(a), byte(b), 0x11b); got != want {
				t.Fatalf("Mul(%#x, %#x): %#x, not %#x", a, b, got, want)
			}
		}
		if got := gf.Inverse(byte(a)); a != 0 && carried(got, byte(a), 0x11b) != 1 || a == 0 && got != 0 {
			t.Errorf("Inverse(%#x): %#x", a, got)
		}
	}
	if gf.Mul(2, 0x80) != 0x1b || gf.Mul(0x57, 0x83) != 0xc1 || gf.Inverse(0x53) != 0xca || gf.Inverse(1) != 1 {
		t.Error("Mul or Inverse is not the published one")
	}
}

// ruled: the table by the chapter's words, each word by itself.
func ruled() []uint32 {
	words := make([]uint32, 256)
	for n := range words {
		log := uint32(0)
		for k := 0; n != 0 && power(0x11b, 3, k) != byte(n); k++ {
			log++
		}
		words[n] = uint32(power(0x11b, 3, n)) | log<<8
	}
	return words
}

func TestTable(t *testing.T) {
	want := ruled()
	for range 2 {
		for what, got := range map[string][]uint32{"Rule": gf.Rule(), "Words": gf.Words()} {
			if len(got) != 256 {
				t.Fatalf("%s: %d words", what, len(got))
			}
			for n := range got {
				if got[n] != want[n] {
					t.Errorf("%s: word %d is %#x, not %#x", what, n, got[n], want[n])
				}
			}
		}
	}
	if want[0] != 1 || want[1] != 3 || want[3] != 0x10f || want[255]&0xff != 1 {
		t.Errorf("words 0, 1, 3, 255: %#x, %#x, %#x, %#x", want[0], want[1], want[3], want[255])
	}
}

func TestTableIsNewMemory(t *testing.T) {
	want := ruled()
	for range 2 {
		for _, words := range [][]uint32{gf.Rule(), gf.Words()} {
			words = words[:cap(words)]
			for i := range words {
				words[i] = 0xeeeeeeee
			}
		}
		if !slices.Equal(gf.Rule(), want) || !slices.Equal(gf.Words(), want) {
			t.Error("what the caller wrote is seen")
		}
	}
	if f, e := gf.New(0x11b, 3); e != api.OK || f.Exp(3) != 0x0f || gf.Mul(3, 3) != 5 || gf.Inverse(0x53) != 0xca {
		t.Error("what the caller wrote is seen in a field")
	}
}

func TestItIsAField(t *testing.T) {
	muls := []func(a, b byte) byte{gf.Mul}
	for _, m := range fields(t) {
		muls = append(muls, m.field.Mul)
	}
	for _, mul := range muls {
		for i := range 256 {
			a := byte(i)
			if mul(a, 1) != a || mul(1, a) != a || mul(a, 0) != 0 {
				t.Fatalf("1 or 0 times %#x", a)
			}
			inverses := 0
			for j := range 256 {
				b := byte(j)
				if mul(a, b) != mul(b, a) {
					t.Fatalf("%#x times %#x", a, b)
				}
				if mul(a, b) == 1 {
					inverses++
				}
				for c := byte(1); c < 250; c += 31 {
					if mul(a, mul(b, c)) != mul(mul(a, b), c) || mul(a, b^c) != mul(a, b)^mul(a, c) {
						t.Fatalf("%#x, %#x, %#x", a, b, c)
					}
				}
			}
			if inverses != min(i, 1) {
				t.Fatalf("%#x has %d inverses", a, inverses)
			}
		}
	}
}

// roomy: a copy of p with spare room behind it, and the whole of it.
func roomy(p []byte) ([]byte, []byte) {
	whole := append(slices.Clone(p), 0xaa, 0xaa, 0xaa, 0xaa, 0xaa, 0xaa, 0xaa, 0xaa)
	return whole[:len(p)], whole
}

func spoil(p []byte) {
	p = p[:cap(p)]
	for i := range p {
		p[i] = 0xee
	}
}

// answers: what the calls with lists answer, each list for itself.
func answers(f *gf.Field, p, q []byte) [][]byte {
	quotient, rest, _ := f.Divide(p, q)
	return [][]byte{f.Plus(p, q), f.Plus(q, p), f.Times(p, q), f.Times(q, p), quotient, rest, f.Roots(p), {f.Eval(p, 3), f.Eval(q, 9)}}
}

func TestWhatIsHandedInAndOut(t *testing.T) {
	f := one(t)
	for _, p := range polynomials(8) {
		for _, q := range append(polynomials(9), p) {
			a, wholeA := roomy(p)
			b, wholeB := roomy(q)
			keptA, keptB := slices.Clone(wholeA), slices.Clone(wholeB)
			first, want := answers(f, a, b), answers(f, a, b)
			for i := range first {
				if !bytes.Equal(first[i], want[i]) {
					t.Fatalf("of %v and %v: %v, then %v", p, q, first[i], want[i])
				}
				spoil(first[i])
				for j := i + 1; j < len(first); j++ {
					if !bytes.Equal(first[j], want[j]) {
						t.Fatalf("of %v and %v: the answers %d and %d share memory", p, q, i, j)
					}
				}
			}
			if !bytes.Equal(wholeA, keptA) || !bytes.Equal(wholeB, keptB) {
				t.Fatalf("what was handed in has changed: %v, %v", wholeA, wholeB)
			}
			held := answers(f, a, b)
			spoil(a)
			spoil(b)
			for i := range held {
				if !bytes.Equal(held[i], want[i]) {
					t.Fatalf("of %v and %v: answer %d shares memory with an argument", p, q, i)
				}
			}
		}
	}
}

func TestFieldsShareNothing(t *testing.T) {
	list := fields(t)
	for _, m := range slices.Backward(list) {
		again, e := gf.New(m.poly, m.g)
		if e != api.OK || again == m.field {
			t.Fatalf("New(%#x, %d) again: %v", m.poly, m.g, e)
		}
		for n := range 255 {
			if want := power(m.poly, m.g, n); m.field.Exp(n) != want || again.Exp(n) != want {
				t.Fatalf("of %#x, %d: Exp(%d): %#x and %#x, not %#x", m.poly, m.g, n, m.field.Exp(n), again.Exp(n), want)
			}
		}
	}
}
