package asm_test

import (
	"fmt"
	"math/rand"
	"reflect"
	"slices"
	"strings"
	"testing"

	"orrery/api"
	"orrery/asm"
	"orrery/expr"
	"orrery/modes"
	"orrery/opcode"
)

// made: a line that was made up. What it means is known without its text.
type made struct {
	label string
	what  string   // a directive, a mnemonic, "=", "*" or nothing
	name  string   // of a Define
	parts []string // expressions
	texts []bool   // which parts are texts
	kind  int      // of an operand's form
}

func (m made) text(chance *rand.Rand) string {
	ahead := [...]string{"", " ", "\t"}[chance.Intn(3)]
	if m.label != "" {
		ahead += m.label + [...]string{": ", ":", " ", " :\t"}[chance.Intn(4)]
	}
	switch m.what {
	case "":
		return ahead
	case "=":
		return m.name + " = " + m.parts[0]
	case "*":
		return ahead + "* = " + m.parts[0]
	}
	word := m.what
	if chance.Intn(2) == 0 {
		word = strings.ToLower(word)
	}
	if m.what[0] == '.' {
		return ahead + word + " " + strings.Join(m.parts, ", ")
	}
	operand := ""
	if len(m.parts) > 0 {
		operand = m.parts[0]
	}
	return ahead + word + " " + map[int]string{
		modes.None: "", modes.OfA: "A", modes.Sharp: "#" + operand, modes.Plain: operand, modes.WithX: operand + ",X", modes.WithY: operand + ",y",
		modes.Paren: "(" + operand + ")", modes.ParenX: "(" + operand + ",x)", modes.ParenY: "(" + operand + "),Y"}[m.kind]
}

// maker: makes up lines, of few names, so that some of them meet.
type maker struct {
	chance *rand.Rand
	names  []string
	given  int
}

func (k *maker) name() string { return k.names[k.chance.Intn(len(k.names))] }

// fresh: mostly one that no line had yet.
func (k *maker) fresh() string {
	if k.given < len(k.names) && k.chance.Intn(20) > 0 {
		k.given++
		return k.names[k.given-1]
	}
	return k.name()
}

func (k *maker) expression(most int) string {
	n := fmt.Sprint(k.chance.Intn(most))
	switch k.chance.Intn(12) {
	case 0, 1, 2:
		return k.name()
	case 3:
		return k.name() + "-" + k.name()
	case 4:
		return "*+" + n
	case 5:
		return "<" + k.name() + "+" + n
	case 6:
		return "(" + n + "+1)/1+" + k.name()
	case 7:
		return "0-" + n
	}
	return n
}

func (k *maker) line() made {
	m := made{}
	if k.chance.Intn(3) == 0 {
		m.label = k.fresh()
	}
	switch k.chance.Intn(14) {
	case 0:
		return m
	case 1:
		return made{what: "=", name: k.fresh(), parts: []string{k.expression(300)}}
	case 2:
		m.what, m.parts = [...]string{"*", ".ORG"}[k.chance.Intn(2)], []string{fmt.Sprint([...]int{k.chance.Intn(60), k.chance.Intn(66000), 65500 + k.chance.Intn(39)}[k.chance.Intn(3)])}
	case 3:
		m.what, m.parts = ".RES", []string{fmt.Sprint(k.chance.Intn(40))}
		if k.chance.Intn(2) == 0 {
			m.parts = append(m.parts, k.expression(200))
		}
	case 4:
		m.what, m.parts = ".ALIGN", []string{fmt.Sprint(1 + k.chance.Intn(40))}
	case 5, 6:
		m.what = [...]string{".BYTE", ".WORD"}[k.chance.Intn(2)]
		for range 1 + k.chance.Intn(3) {
			text := m.what == ".BYTE" && k.chance.Intn(3) == 0
			part := k.expression(200)
			if text {
				part = [...]string{`""`, `"a"`, `"b,c"`}[k.chance.Intn(3)]
			}
			m.parts, m.texts = append(m.parts, part), append(m.texts, text)
		}
	default:
		m.what = opcode.Mnemonics()[k.chance.Intn(56)]
		has := opcode.Modes(m.what)
		m.kind = int(modes.Words()[has[k.chance.Intn(len(has))]] >> 4 & 15)
		if k.chance.Intn(50) == 0 {
			m.kind = k.chance.Intn(9)
		}
		if m.kind > modes.OfA {
			m.parts = []string{k.expression(300)}
		}
	}
	return m
}

// world: what a second working-out knows.
type world struct {
	names       map[string]int
	place, size int
	heres       []int
	chosen      []int // the mode of each line that is an instruction
}

func (w *world) now(text string) (int, api.Errno) {
	value, _, e := expr.Value(text, w.names, w.place)
	return value, e
}

func (w *world) give(name string, value int) api.Errno {
	if _, there := w.names[name]; there {
		return api.ErrTwice
	}
	w.names[name] = value
	return api.OK
}

// mode: of an instruction: of the two that may be, by the operand's worth now.
func (w *world) mode(m made) (int, api.Errno) {
	var may []int
	for _, mode := range opcode.Modes(m.what) {
		if slices.Contains(modes.May(m.kind), mode) {
			may = append(may, mode)
		}
	}
	if len(may) == 0 {
		return 0, api.ErrMode
	}
	mode := slices.Max(may)
	if narrow, ok := modes.Narrow(mode); ok && slices.Contains(may, narrow) {
		if value, e := w.now(m.parts[0]); e == api.OK && value == value&255 {
			mode = narrow
		}
	}
	return mode, api.OK
}

func (w *world) first(m made) (size int, e api.Errno) {
	if m.label != "" {
		if e := w.give(m.label, w.place); e != api.OK {
			return 0, e
		}
	}
	w.chosen[len(w.chosen)-1] = -1
	switch m.what {
	case "":
		return 0, api.OK
	case "=":
		value, e := w.now(m.parts[0])
		if e == api.OK {
			e = w.give(m.name, value)
		}
		return 0, e
	case "*", ".ORG":
		place, e := w.now(m.parts[0])
		if e == api.OK && uint(place) > 65536 {
			return 0, api.ErrRange
		}
		w.place = place
		return 0, e
	case ".RES":
		size, e = w.now(m.parts[0])
		if e == api.OK && len(m.parts) > 1 {
			var fill int
			if fill, e = w.now(m.parts[1]); e == api.OK && (fill < -128 || fill > 255) {
				e = api.ErrRange
			}
		}
		return size, e
	case ".ALIGN":
		n, e := w.now(m.parts[0])
		for (w.place+size)%n != 0 {
			size++
		}
		return size, e
	case ".BYTE", ".WORD":
		for i, part := range m.parts {
			switch {
			case m.texts[i]:
				size += len(part) - 2
			case m.what == ".WORD":
				size += 2
			default:
				size++
			}
		}
		return size, api.OK
	}
	mode, e := w.mode(m)
	w.chosen[len(w.chosen)-1] = mode
	return modes.Length(mode), e
}

// second: the bytes of a line whose here and mode are known.
func (w *world) second(m made, here, mode int) ([]byte, api.Errno) {
	w.place = here
	var list []byte
	switch {
	case m.what == ".RES":
		size, _ := w.now(m.parts[0])
		fill := 0
		if len(m.parts) > 1 {
			fill, _ = w.now(m.parts[1])
		}
		return slices.Repeat([]byte{byte(fill)}, size), api.OK
	case m.what == ".ALIGN":
		for n, _ := w.now(m.parts[0]); (here+len(list))%n != 0; {
			list = append(list, 0)
		}
	case m.what == ".BYTE" || m.what == ".WORD":
		for i, part := range m.parts {
			if m.texts[i] {
				list = append(list, part[1:len(part)-1]...)
				continue
			}
			value, e := w.now(part)
			if e != api.OK {
				return nil, e
			}
			span := map[string]int{".BYTE": 256, ".WORD": 65536}[m.what]
			if value < -span/2 || value >= span {
				return nil, api.ErrRange
			}
			list = append(list, byte(value))
			if m.what == ".WORD" {
				list = append(list, byte(value>>8))
			}
		}
	case mode >= 0:
		value := 0
		if len(m.parts) > 0 {
			var e api.Errno
			if value, e = w.now(m.parts[0]); e != api.OK {
				return nil, e
			}
		}
		behind, e := modes.Bytes(mode, value, here)
		code, _ := opcode.Code(m.what, mode)
		return append([]byte{code}, behind...), e
	}
	return list, api.OK
}

// workedOut: what Assemble answers of these lines, worked out a second time.
func workedOut(list []made) (asm.Listing, int, api.Errno) {
	w := &world{names: map[string]int{}}
	for number, m := range list {
		here := w.place
		w.chosen = append(w.chosen, -1)
		size, e := w.first(m)
		if e != api.OK {
			return asm.Listing{}, number, e
		}
		w.heres = append(w.heres, here)
		w.place += size
		w.size += size
		if w.place > 65536 || w.size > 65536 {
			return asm.Listing{}, number, api.ErrOver
		}
	}
	l := asm.Listing{}
	laid := map[int]byte{}
	for number, m := range list {
		bytes, e := w.second(m, w.heres[number], w.chosen[number])
		if e != api.OK {
			return asm.Listing{}, number, e
		}
		for i, b := range bytes {
			if _, there := laid[w.heres[number]+i]; there {
				return asm.Listing{}, number, api.ErrOver
			}
			laid[w.heres[number]+i] = b
		}
		if len(bytes) > 0 {
			l.Rows = append(l.Rows, asm.Row{Line: number, At: w.heres[number], Bytes: bytes})
		}
	}
	for place := range 65536 {
		b, there := laid[place]
		_, ahead := laid[place-1]
		if there && !ahead {
			l.Segments = append(l.Segments, api.Segment{At: place})
		}
		if there {
			last := &l.Segments[len(l.Segments)-1]
			last.Bytes = append(last.Bytes, b)
		}
	}
	for name, value := range w.names {
		l.Names = append(l.Names, asm.Name{Name: name, Value: value})
	}
	slices.SortFunc(l.Names, func(a, b asm.Name) int { return strings.Compare(a.Name, b.Name) })
	return l, 0, api.OK
}

// P1902 to P1904: lines that were made up, against a second working-out of what they mean.
func TestMadeUpSources(t *testing.T) {
	chance := rand.New(rand.NewSource(1902))
	ends := map[api.Errno]int{}
	for range 1500 {
		k := &maker{chance: chance, names: strings.Fields("k1 k2 K1 lda_ _ q.r nop9 b")[:1+chance.Intn(8)]}
		var list []made
		var text []string
		for range chance.Intn(14) {
			m := k.line()
			list, text = append(list, m), append(text, m.text(chance))
		}
		for k.given < len(k.names) && chance.Intn(4) > 0 { // most names have a value in the end
			m := made{label: k.names[k.given]}
			list, text = append(list, m), append(text, m.text(chance))
			k.given++
		}
		source := strings.Join(text, "\n")
		want, line, e := workedOut(list)
		got, gotLine, gotE := asm.Assemble(source)
		if !reflect.DeepEqual(got, want) || gotLine != line || gotE != e {
			t.Fatalf("Assemble(%q) = %v, %d, %v, not %v, %d, %v", source, got, gotLine, gotE, want, line, e)
		}
		ends[e]++
	}
	for _, e := range []api.Errno{api.OK, api.ErrTwice, api.ErrUndefined, api.ErrRange, api.ErrMode, api.ErrBranch, api.ErrOver} {
		if ends[e] < 5 {
			t.Errorf("but %d of the sources end with %v: %v", ends[e], e, ends)
		}
	}
}

// Rule 1: whatever it is given, each call ends; an error has a place in the line or a line of the source, and nothing else with it.
func TestAnyText(t *testing.T) {
	chance := rand.New(rand.NewSource(1901))
	pieces := strings.Split("lda|sta|bne|jmp|asl|nop|.byte|.word|.res|.align|.org|.end|.foo|l1|l2|a|x|Y|:|=|*|#|(|)|,|+|-|/|<<|<|0|1|255|65536|$ffffffff|'c'|\"t\"|;|?|\n|\n|\n|\r|\xff|é|\x00", "|")
	for range 4000 {
		var b strings.Builder
		for range chance.Intn(40) {
			b.WriteString(pieces[chance.Intn(len(pieces))])
			if chance.Intn(4) > 0 {
				b.WriteByte(' ')
			}
		}
		source := b.String()
		l, line, e := asm.Assemble(source)
		if e != api.OK && !isNothing(l) || e == api.OK && line != 0 || line < 0 || line > strings.Count(source, "\n") {
			t.Errorf("Assemble(%q) = %v, %d, %v", source, l, line, e)
		}
		asm.Text(source, l)
		split, at, e := asm.Split(source)
		if e != api.OK && !reflect.DeepEqual(split, asm.Line{}) || e == api.OK && at != 0 || at < 0 || at > len(source) {
			t.Errorf("Split(%q) = %v, %d, %v", source, split, at, e)
		}
	}
}
