package alu_test

import (
	"fmt"
	"math/big"
	"math/rand"
	"testing"

	"orrery/alu"
)

// pairs: all of them, with each of these P.
func pairs(list []byte, do func(a, b, p byte)) {
	for a := range 256 {
		for b := range 256 {
			for _, p := range list {
				do(byte(a), byte(b), p)
			}
		}
	}
}

// binaryP: those of telling without FlagD.
func binaryP() []byte {
	var list []byte
	for _, p := range telling() {
		if p&flags("D") == 0 {
			list = append(list, p)
		}
	}
	return list
}

// P2402
func TestBinary(t *testing.T) {
	pairs(binaryP(), func(a, b, p byte) {
		sum, behind := alu.Add(a, b, p)
		if got, want := int(sum)+256*int(behind&1), int(a)+int(b)+int(p&1); got != want {
			t.Errorf("Add(%02X, %02X, %s) comes to %d, not %d", a, b, told(p), got, want)
		}
		difference, flags := alu.Sub(a, b, p)
		turned, turnedFlags := alu.Add(a, 255-b, p)
		if difference != turned || flags != turnedFlags {
			t.Errorf("Sub(%02X, %02X, %s): %02X, %s; of the bits turned %02X, %s", a, b, told(p), difference, told(flags), turned, told(turnedFlags))
		}
	})
}

// P2403
func TestSigned(t *testing.T) {
	fits := func(n int) bool { return n >= -128 && n <= 127 }
	pairs(binaryP(), func(a, b, p byte) {
		x, y, c := int(int8(a)), int(int8(b)), int(p&1)
		if _, behind := alu.Add(a, b, p); fits(x+y+c) == (behind&flags("V") != 0) {
			t.Errorf("Add(%02X, %02X, %s): %s", a, b, told(p), told(behind))
		}
		if _, behind := alu.Sub(a, b, p); fits(x-y-1+c) == (behind&flags("V") != 0) {
			t.Errorf("Sub(%02X, %02X, %s): %s", a, b, told(p), told(behind))
		}
	})
}

// packed: the byte of two decimal digits.
func packed(n int) byte { return byte(n/10*16 + n%10) }

// P2404
func TestDecimalSums(t *testing.T) {
	for x := range 100 {
		for y := range 100 {
			for c := range 2 {
				a, b, p := packed(x), packed(y), flags("D")|byte(c)
				sum, difference, ok := alu.Decimal(a, b, p)
				if !ok || sum != packed((x+y+c)%100) || difference != packed((x-y-1+c+100)%100) {
					t.Fatalf("Decimal(%02X, %02X, %s): %02X, %02X, %v", a, b, told(p), sum, difference, ok)
				}
				got, behind := alu.Add(a, b, p)
				if got != sum || behind&flags("C") != 0 != (x+y+c > 99) {
					t.Errorf("Add(%02X, %02X, %s): %02X, %s, not %02X", a, b, told(p), got, told(behind), sum)
				}
				got, behind = alu.Sub(a, b, p)
				if got != difference || behind&flags("C") != 0 != (x-y-1+c >= 0) {
					t.Errorf("Sub(%02X, %02X, %s): %02X, %s, not %02X", a, b, told(p), got, told(behind), difference)
				}
			}
		}
	}
}

// P2405
func TestTurnedRound(t *testing.T) {
	for v := range 256 {
		for _, p := range allP() {
			up, between := alu.Rol(byte(v), p)
			back, behind := alu.Ror(up, between)
			if back != byte(v) || behind&1 != p&1 {
				t.Errorf("Ror of Rol(%02X, %s): %02X, %s", v, told(p), back, told(behind))
			}
			more, between := alu.Inc(byte(v), p)
			if back, _ := alu.Dec(more, between); back != byte(v) {
				t.Errorf("Dec of Inc(%02X, %s): %02X", v, told(p), back)
			}
		}
	}
}

// P2406
func TestCompareIsSub(t *testing.T) {
	pairs(telling(), func(a, b, p byte) {
		_, want := alu.Sub(a, b, p&^flags("D")|flags("C"))
		if got := alu.Compare(a, b, p); (got^want)&flags("NZC") != 0 {
			t.Errorf("Compare(%02X, %02X, %s): %s, but Sub tells %s", a, b, told(p), told(got), told(want))
		}
	})
}

// long: two numbers byte by byte, the lowest first, with the carry handed on.
func long(do func(a, b, p byte) (byte, byte), a, b []byte, p byte) ([]byte, byte) {
	whole := make([]byte, len(a))
	for i := range a {
		whole[i], p = do(a[i], b[i], p)
	}
	return whole, p
}

// text: the digits of such a number, the highest first.
func text(b []byte) string {
	s := ""
	for _, c := range b {
		s = fmt.Sprintf("%02x", c) + s
	}
	return s
}

func number(t *testing.T, text string, base int) *big.Int {
	t.Helper()
	n, ok := new(big.Int).SetString(text, base)
	if !ok {
		t.Fatalf("%s is no number of base %d", text, base)
	}
	return n
}

// P7: long numbers, binary and decimal.
func TestLongNumbers(t *testing.T) {
	r := rand.New(rand.NewSource(24))
	for range 2000 {
		for _, base := range []int{16, 10} {
			a, b := make([]byte, 1+r.Intn(12)), make([]byte, 12)
			b = b[:len(a)]
			for i := range a {
				a[i], b[i] = byte(r.Intn(256)), byte(r.Intn(256))
				if base == 10 {
					a[i], b[i] = packed(r.Intn(100)), packed(r.Intn(100))
				}
			}
			wantLong(t, a, b, base)
		}
	}
}

func wantLong(t *testing.T, a, b []byte, base int) {
	t.Helper()
	p := flags("")
	if base == 10 {
		p = flags("D")
	}
	x, y := number(t, text(a), base), number(t, text(b), base)
	room := new(big.Int).Exp(big.NewInt(int64(base)), big.NewInt(int64(2*len(a))), nil)
	sum, behind := long(alu.Add, a, b, p)
	got := number(t, text(sum), base)
	if behind&1 == 1 {
		got.Add(got, room)
	}
	if want := new(big.Int).Add(x, y); got.Cmp(want) != 0 {
		t.Errorf("%s and %s in base %d: %s, %s", text(a), text(b), base, text(sum), told(behind))
	}
	difference, behind := long(alu.Sub, a, b, p|1)
	got = number(t, text(difference), base)
	if behind&1 == 0 {
		got.Sub(got, room)
	}
	if want := new(big.Int).Sub(x, y); got.Cmp(want) != 0 {
		t.Errorf("%s less %s in base %d: %s, %s", text(a), text(b), base, text(difference), told(behind))
	}
}
