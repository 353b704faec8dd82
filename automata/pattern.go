package automata

import "orrery/api"

// byteSet: is each byte in it?
type byteSet [byteCount]bool

// piece: an atom, and what the marks behind it let it be. In any order and number they come to the same two things.
type piece struct {
	inner    [][]piece // the alternatives of parentheses; none of a place
	place    int
	optional bool
	repeated bool
}

// tree: a pattern that was read. Its places go on from those of the patterns ahead of it.
type tree struct {
	alternatives [][]piece
	places       []byteSet
}

// reader: goes through a pattern, and stays at its first fault.
type reader struct {
	text   string
	at     int
	ahead  int // places of other patterns
	within int // parentheses that are open
	places []byteSet
	fault  api.Errno
}

// Check: F12.2.
func Check(pattern string) (int, api.Errno) {
	_, at, e := read(pattern, 0)
	return at, e
}

func read(pattern string, ahead int) (t tree, at int, e api.Errno) {
	if len(pattern) > api.MaxPattern {
		return tree{}, 0, api.ErrBig
	}
	r := &reader{text: pattern, ahead: ahead}
	alternatives, ok := r.alternatives()
	if ok && r.at < len(pattern) { // nothing but a parenthesis that closes none is left over
		ok = r.refuse(r.at, api.ErrPattern)
	}
	if !ok {
		return tree{}, r.at, r.fault
	}
	return tree{alternatives: alternatives, places: r.places}, 0, api.OK
}

// refuse: what its caller answers, too.
func (r *reader) refuse(at int, e api.Errno) bool {
	r.at, r.fault = at, e
	return false
}

// look: the byte that comes, if one is left.
func (r *reader) look() (b byte, left bool) {
	if r.at == len(r.text) {
		return 0, false
	}
	return r.text[r.at], true
}

// takes: passes over the byte that comes, if it is b.
func (r *reader) takes(b byte) bool {
	next, left := r.look()
	if !left || next != b {
		return false
	}
	r.at++
	return true
}

// alternatives: up to the end, or to a closing parenthesis.
func (r *reader) alternatives() ([][]piece, bool) {
	var list [][]piece
	for {
		row, ok := r.row()
		if !ok {
			return nil, false
		}
		list = append(list, row)
		if !r.takes('|') {
			return list, true
		}
	}
}

func (r *reader) row() ([]piece, bool) {
	var list []piece
	for {
		b, left := r.look()
		if !left || b == '|' || b == ')' {
			return list, true
		}
		p, ok := r.piece(b)
		if !ok {
			return nil, false
		}
		list = append(list, p)
	}
}

func (r *reader) piece(begin byte) (piece, bool) {
	p, ok := r.atom(begin)
	if !ok {
		return piece{}, false
	}
	for {
		switch {
		case r.takes('*'):
			p.optional, p.repeated = true, true
		case r.takes('+'):
			p.repeated = true
		case r.takes('?'):
			p.optional = true
		default:
			return p, true
		}
	}
}

func (r *reader) atom(begin byte) (piece, bool) {
	if begin == '(' {
		return r.parentheses()
	}
	set, ok := r.bytes(begin)
	if !ok {
		return piece{}, false
	}
	r.places = append(r.places, set)
	return piece{place: r.ahead + len(r.places) - 1}, true
}

func (r *reader) parentheses() (piece, bool) {
	if r.within > api.MaxDepth {
		return piece{}, r.refuse(r.at, api.ErrBig)
	}
	r.at++
	r.within++
	inner, ok := r.alternatives()
	if !ok {
		return piece{}, false
	}
	if !r.takes(')') {
		return piece{}, r.refuse(r.at, api.ErrPattern)
	}
	r.within--
	return piece{inner: inner}, true
}

// bytes: an atom that is a set of bytes.
func (r *reader) bytes(begin byte) (byteSet, bool) {
	switch {
	case r.takes('.'):
		return inverted(only('\n')), true
	case r.takes('['):
		return r.items()
	case r.takes('\\'):
		return r.escape()
	case kindOf(begin)&isMark != 0:
		return byteSet{}, r.refuse(r.at, api.ErrPattern)
	}
	r.at++
	return only(begin), true
}

// items: those between brackets, and the closing one.
func (r *reader) items() (byteSet, bool) {
	var all byteSet
	barred := r.takes('^')
	for first := true; first || !r.takes(']'); first = false {
		set, ok := r.item()
		if !ok {
			return byteSet{}, false
		}
		for b, in := range set {
			all[b] = all[b] || in
		}
	}
	if barred {
		return inverted(all), true
	}
	return all, true
}

// item: a `-` behind an escape of several bytes is left to the next item, which refuses it.
func (r *reader) item() (byteSet, bool) {
	set, ok := r.member()
	if !ok {
		return byteSet{}, false
	}
	low, one := single(set)
	if !one || !r.takes('-') {
		return set, true
	}
	begins := r.at
	end, ok := r.member()
	if !ok {
		return byteSet{}, false
	}
	high, one := single(end)
	if !one || high < low {
		return byteSet{}, r.refuse(begins, api.ErrPattern)
	}
	for b := int(low); b <= int(high); b++ {
		set[b] = true
	}
	return set, true
}

// member: a byte or an escape within brackets.
func (r *reader) member() (byteSet, bool) {
	if r.takes('\\') {
		return r.escape()
	}
	b, left := r.look()
	if !left || b == ']' || b == '-' {
		return byteSet{}, r.refuse(r.at, api.ErrPattern)
	}
	r.at++
	return only(b), true
}

// escape: what stands behind a `\`.
func (r *reader) escape() (byteSet, bool) {
	b, left := r.look()
	if !left || !isEscape(b) {
		return byteSet{}, r.refuse(r.at, api.ErrPattern)
	}
	r.at++
	switch b {
	case 'n':
		return only('\n'), true
	case 't':
		return only('\t'), true
	case 'r':
		return only('\r'), true
	case 'd':
		return ofKind(isDigit), true
	case 'w':
		return ofKind(isWord), true
	case 's':
		return ofKind(isBlank), true
	case 'x':
		return r.hexadecimal()
	}
	return only(b), true
}

// isEscape: can it stand behind a `\`? No digit and no letter can but for seven.
func isEscape(b byte) bool {
	switch b {
	case 'n', 't', 'r', 'd', 'w', 's', 'x', '_':
		return true
	}
	return kindOf(b)&isWord == 0
}

// hexadecimal: the byte of two digits.
func (r *reader) hexadecimal() (byteSet, bool) {
	value := byte(0)
	for range 2 {
		b, _ := r.look() // at the end a 0, which is no digit
		digit, ok := digitOf(b)
		if !ok {
			return byteSet{}, r.refuse(r.at, api.ErrPattern)
		}
		r.at++
		value = value<<4 | digit
	}
	return only(value), true
}

func digitOf(b byte) (digit byte, ok bool) {
	switch {
	case b >= '0' && b <= '9':
		return b - '0', true
	case b >= 'A' && b <= 'F':
		return b - 'A' + 10, true
	case b >= 'a' && b <= 'f':
		return b - 'a' + 10, true
	}
	return 0, false
}

func only(b byte) byteSet {
	var set byteSet
	set[b] = true
	return set
}

func ofKind(kind uint32) byteSet {
	var set byteSet
	for b := range set {
		set[b] = kindOf(byte(b))&kind != 0
	}
	return set
}

func inverted(set byteSet) byteSet {
	for b := range set {
		set[b] = !set[b]
	}
	return set
}

// single: the byte of a set of just one.
func single(set byteSet) (byte, bool) {
	count, found := 0, byte(0)
	for b, in := range set {
		if in {
			count++
			found = byte(b)
		}
	}
	return found, count == 1
}
