package alu_test

import (
	"strings"
	"testing"

	"orrery/alu"
	"orrery/api"
)

// call: one of those that answer a value and P, with the letters of the flags that it tells; the ones that take a single value go without b, and those that answer P alone with the value 0.
type call struct {
	name, tells string
	do          func(a, b, p byte) (byte, byte)
}

func single(f func(v, p byte) (byte, byte)) func(a, b, p byte) (byte, byte) {
	return func(a, _, p byte) (byte, byte) { return f(a, p) }
}

func flagsAlone(f func(a, b, p byte) byte) func(a, b, p byte) (byte, byte) {
	return func(a, b, p byte) (byte, byte) { return 0, f(a, b, p) }
}

var calls = []call{
	{"Flags", "NZ", func(a, _, p byte) (byte, byte) { return 0, alu.Flags(a, p) }},
	{"Add", "NVZC", alu.Add},
	{"Sub", "NVZC", alu.Sub},
	{"And", "NZ", alu.And},
	{"Or", "NZ", alu.Or},
	{"Eor", "NZ", alu.Eor},
	{"Compare", "NZC", flagsAlone(alu.Compare)},
	{"Bit", "NVZ", flagsAlone(alu.Bit)},
	{"Asl", "NZC", single(alu.Asl)},
	{"Lsr", "NZC", single(alu.Lsr)},
	{"Rol", "NZC", single(alu.Rol)},
	{"Ror", "NZC", single(alu.Ror)},
	{"Inc", "NZ", single(alu.Inc)},
	{"Dec", "NZ", single(alu.Dec)},
}

// letters: the flags from bit 7 down; the sixth is FlagU, the fifth FlagB.
const letters = "NVUBDIZC"

// flags: P by its letters.
func flags(text string) byte {
	p := byte(0)
	for i, letter := range letters {
		if strings.ContainsRune(text, letter) {
			p |= 128 >> i
		}
	}
	return p
}

// told: the letters of P.
func told(p byte) string {
	text := ""
	for i, letter := range letters {
		if p&(128>>i) != 0 {
			text += string(letter)
		}
	}
	if text == "" {
		return "none"
	}
	return text
}

func TestLettersAreTheFlags(t *testing.T) {
	for text, want := range map[string]byte{"C": api.FlagC, "Z": api.FlagZ, "I": api.FlagI, "D": api.FlagD, "B": api.FlagB, "U": api.FlagU, "V": api.FlagV, "N": api.FlagN} {
		if got := flags(text); got != want {
			t.Errorf("%s: %02X, not %02X", text, got, want)
		}
	}
}

// row: of a call what comes, written out by hand.
type row struct {
	a, b  byte
	p     string
	value byte
	want  string
}

// wantRows asks each row with all sets of the other flags beside: those that the call tells do not matter ahead of it, all others stay.
func wantRows(t *testing.T, name string, rows []row) {
	t.Helper()
	for _, c := range calls {
		if c.name != name {
			continue
		}
		for _, r := range rows {
			for _, others := range allP() {
				if others&flags("CD") != 0 {
					continue
				}
				wantAnswer(t, c, r.a, r.b, flags(r.p)|others, r.value, flags(r.want)|others&^flags(c.tells))
			}
		}
		return
	}
	t.Fatalf("no call %s", name)
}

func wantAnswer(t *testing.T, c call, a, b, p, value, want byte) {
	t.Helper()
	got, flags := c.do(a, b, p)
	if got != value || flags != want {
		t.Errorf("%s(%02X, %02X, %s): %02X, %s, not %02X, %s", c.name, a, b, told(p), got, told(flags), value, told(want))
	}
}

func TestFlags(t *testing.T) {
	wantRows(t, "Flags", []row{
		{0x00, 0, "", 0, "Z"},
		{0x01, 0, "", 0, ""},
		{0x7f, 0, "", 0, ""},
		{0x80, 0, "", 0, "N"},
		{0xff, 0, "", 0, "N"},
		{0x00, 0, "CD", 0, "ZCD"},
		{0x9f, 0, "C", 0, "NC"},
	})
}

func TestBitByBit(t *testing.T) {
	wantRows(t, "And", []row{
		{0xf0, 0x3c, "", 0x30, ""},
		{0xf0, 0x0f, "", 0x00, "Z"},
		{0xff, 0x80, "C", 0x80, "NC"},
		{0xff, 0xff, "D", 0xff, "ND"},
	})
	wantRows(t, "Or", []row{
		{0xf0, 0x3c, "", 0xfc, "N"},
		{0x00, 0x00, "C", 0x00, "ZC"},
		{0x70, 0x0f, "D", 0x7f, "D"},
	})
	wantRows(t, "Eor", []row{
		{0xf0, 0x3c, "", 0xcc, "N"},
		{0xa5, 0xa5, "CD", 0x00, "ZCD"},
		{0xff, 0x80, "", 0x7f, ""},
	})
}

func TestCompare(t *testing.T) {
	wantRows(t, "Compare", []row{
		{0x10, 0x20, "", 0, "N"},
		{0x10, 0x20, "C", 0, "N"},
		{0x10, 0x10, "", 0, "ZC"},
		{0x10, 0x10, "C", 0, "ZC"},
		{0x20, 0x10, "", 0, "C"},
		{0x00, 0x00, "", 0, "ZC"},
		{0xff, 0xff, "", 0, "ZC"},
		{0x00, 0xff, "C", 0, ""},
		{0xff, 0x00, "", 0, "NC"},
		{0x7f, 0x80, "", 0, "N"},
		{0x80, 0x7f, "", 0, "C"},
		{0x10, 0x01, "D", 0, "DC"},
		{0x00, 0x01, "DC", 0, "DN"},
	})
}

func TestBit(t *testing.T) {
	wantRows(t, "Bit", []row{
		{0x01, 0xc0, "", 0, "NVZ"},
		{0x01, 0x80, "", 0, "NZ"},
		{0x01, 0x40, "", 0, "VZ"},
		{0x01, 0x3f, "", 0, ""},
		{0x80, 0x80, "", 0, "N"},
		{0x40, 0x40, "C", 0, "VC"},
		{0xff, 0xff, "", 0, "NV"},
		{0x00, 0xff, "", 0, "NVZ"},
		{0xff, 0x00, "", 0, "Z"},
		{0xc0, 0x3f, "CD", 0, "ZCD"},
	})
}

func TestShifts(t *testing.T) {
	wantRows(t, "Asl", []row{
		{0x00, 0, "", 0x00, "Z"},
		{0x00, 0, "C", 0x00, "Z"},
		{0x01, 0, "", 0x02, ""},
		{0x01, 0, "C", 0x02, ""},
		{0x40, 0, "", 0x80, "N"},
		{0x80, 0, "", 0x00, "ZC"},
		{0x80, 0, "C", 0x00, "ZC"},
		{0xff, 0, "", 0xfe, "NC"},
		{0xff, 0, "CD", 0xfe, "NCD"},
	})
	wantRows(t, "Lsr", []row{
		{0x00, 0, "", 0x00, "Z"},
		{0x00, 0, "C", 0x00, "Z"},
		{0x01, 0, "", 0x00, "ZC"},
		{0x01, 0, "C", 0x00, "ZC"},
		{0x80, 0, "", 0x40, ""},
		{0x80, 0, "C", 0x40, ""},
		{0xff, 0, "", 0x7f, "C"},
		{0xff, 0, "CD", 0x7f, "CD"},
	})
}

func TestTurns(t *testing.T) {
	wantRows(t, "Rol", []row{
		{0x00, 0, "", 0x00, "Z"},
		{0x00, 0, "C", 0x01, ""},
		{0x01, 0, "", 0x02, ""},
		{0x01, 0, "C", 0x03, ""},
		{0x80, 0, "", 0x00, "ZC"},
		{0x80, 0, "C", 0x01, "C"},
		{0xff, 0, "", 0xfe, "NC"},
		{0xff, 0, "CD", 0xff, "NCD"},
	})
	wantRows(t, "Ror", []row{
		{0x00, 0, "", 0x00, "Z"},
		{0x00, 0, "C", 0x80, "N"},
		{0x01, 0, "", 0x00, "ZC"},
		{0x01, 0, "C", 0x80, "NC"},
		{0x80, 0, "", 0x40, ""},
		{0x80, 0, "C", 0xc0, "N"},
		{0xff, 0, "", 0x7f, "C"},
		{0xff, 0, "CD", 0xff, "NCD"},
	})
}

func TestOneMoreOneLess(t *testing.T) {
	wantRows(t, "Inc", []row{
		{0xff, 0, "", 0x00, "Z"},
		{0xff, 0, "C", 0x00, "ZC"},
		{0x7f, 0, "", 0x80, "N"},
		{0x00, 0, "C", 0x01, "C"},
		{0x09, 0, "D", 0x0a, "D"},
	})
	wantRows(t, "Dec", []row{
		{0x00, 0, "", 0xff, "N"},
		{0x00, 0, "C", 0xff, "NC"},
		{0x80, 0, "", 0x7f, ""},
		{0x01, 0, "", 0x00, "Z"},
		{0x10, 0, "D", 0x0f, "D"},
	})
}
