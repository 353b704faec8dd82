package lexer

// What a walk along a line can stand in beside the tokens.
const (
	between = 0
	remark  = Mark + 1
)

// What a walk is told of where there is no character.
const (
	broken  = -1 // a byte that belongs to none
	lineEnd = -2
)

// What a token that is open must have yet.
const (
	nothing = iota // though a Name, a Number and a Mark may go on
	aDigit
	anItem // or, in a Text, its end
	anEscape
	twoDigits
	oneDigit
	itsEnd
)

// state: where a walk along a line stands.
type state struct {
	kind  int  // of the token that is open; else between or remark
	first rune // of a Number and a Mark the character that it began with; none of a Mark of two
	needs int
}

func (s state) isToken() bool { return s.kind != between && s.kind != remark && s.needs == nothing }

// after: the state behind one more character; false, if it can not stand there.
func (s state) after(c rune) (state, bool) {
	switch s.kind {
	case between:
		if kindOf(c)&isLetter == 0 {
			return begun(c)
		}
		s = state{kind: Name}
		fallthrough // what begins a name may stand in its tail, too
	case Name:
		return s, kindOf(c)&(isLetter|isDecimal) != 0
	case Number:
		return state{kind: Number, first: s.first}, kindOf(c)&digitsOf(s.first) != 0
	case Mark:
		return state{kind: Mark}, c == s.first && (c == '<' || c == '>')
	case remark:
		return s, true
	}
	return s.afterQuoted(c)
}

// begun: the state behind a character with which no Name begins, ahead of which no token was open.
func begun(c rune) (state, bool) {
	kind := kindOf(c)
	switch {
	case kind&isBlank != 0, c == lineEnd:
		return state{}, true
	case kind&isDecimal != 0:
		return state{kind: Number, first: c}, true
	case kind&isMark != 0:
		return state{kind: Mark, first: c}, true
	}
	switch c {
	case ';':
		return state{kind: remark}, true
	case '$', '%', '@':
		return state{kind: Number, first: c, needs: aDigit}, true
	case '\'':
		return state{kind: Char, needs: anItem}, true
	case '"':
		return state{kind: Text, needs: anItem}, true
	}
	return state{}, false
}

// digitsOf: the kind of the digits of a Number, by its first character.
func digitsOf(first rune) uint8 {
	switch first {
	case '$':
		return isHex
	case '%':
		return isBinary
	case '@':
		return isOctal
	}
	return isDecimal
}

// afterQuoted: after, in a Char or a Text.
func (s state) afterQuoted(c rune) (state, bool) {
	switch s.needs {
	case anItem:
		return s.afterItem(c)
	case anEscape:
		if c == 'x' {
			return state{kind: s.kind, needs: twoDigits}, true
		}
		return s.behindItem(), isEscape(c)
	case twoDigits:
		return state{kind: s.kind, needs: oneDigit}, kindOf(c)&isHex != 0
	case oneDigit:
		return s.behindItem(), kindOf(c)&isHex != 0
	case itsEnd:
		return state{kind: s.kind}, c == '\''
	}
	return state{}, false
}

// afterItem: after, where an item can begin.
func (s state) afterItem(c rune) (state, bool) {
	switch {
	case c == '\\':
		return state{kind: s.kind, needs: anEscape}, true
	case s.kind == Char:
		return s.behindItem(), kindOf(c)&isPlain != 0
	case c == '"':
		return state{kind: s.kind}, true
	}
	return s, !isBarred(c)
}

// behindItem: a Char has but one, a Text any number.
func (s state) behindItem() state {
	if s.kind == Char {
		return state{kind: Char, needs: itsEnd}
	}
	return state{kind: Text, needs: anItem}
}

// isEscape: can it stand behind a `\`, and nothing else with it?
func isEscape(c rune) bool {
	switch c {
	case 'n', 'r', 't', '0', '\\', '\'', '"':
		return true
	}
	return false
}
