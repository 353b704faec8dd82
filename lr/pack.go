package lr

import "orrery/api"

const headWords = 4 // how many states, actions, places of Goto, and rules there are

// Pack: F14.6. A Size that does not fit is above MaxText, so that such a table is none.
func Pack(t Table) ([]uint32, api.Errno) {
	if !Valid(t) {
		return nil, api.ErrArg
	}
	states, actions, places, rules := len(t.Action), len(t.Action[0]), len(t.Goto[0]), len(t.Left)
	size := headWords + states*(actions+places) + 2*rules
	if size > api.MaxWords {
		return nil, api.ErrBig
	}
	words := make([]uint32, 0, size)
	words = appendNumbers(words, states, actions, places, rules)
	for state := range states {
		words = appendNumbers(words, t.Action[state]...)
		words = appendNumbers(words, t.Goto[state]...)
	}
	for rule := range rules {
		words = appendNumbers(words, t.Left[rule], t.Size[rule])
	}
	return words, api.OK
}

func appendNumbers(words []uint32, numbers ...int) []uint32 {
	for _, n := range numbers {
		words = append(words, uint32(int32(n)))
	}
	return words
}

// Unpack: F14.6.
func Unpack(words []uint32) (Table, api.Errno) {
	if len(words) < headWords || len(words) > api.MaxWords {
		return Table{}, api.ErrTable
	}
	head := numbersOf(words[:headWords])
	states, actions, places, rules := head[0], head[1], head[2], head[3]
	if !isWidth(actions) || !isWidth(places) || states < 1 || rules < 0 {
		return Table{}, api.ErrTable
	}
	if headWords+states*(actions+places)+2*rules != len(words) {
		return Table{}, api.ErrTable
	}
	var t Table
	rest := words[headWords:]
	for range states {
		t.Action = append(t.Action, numbersOf(rest[:actions]))
		t.Goto = append(t.Goto, numbersOf(rest[actions:actions+places]))
		rest = rest[actions+places:]
	}
	for i := 0; i < len(rest); i += 2 {
		t.Left = append(t.Left, int(int32(rest[i])))
		t.Size = append(t.Size, int(int32(rest[i+1])))
	}
	if !Valid(t) {
		return Table{}, api.ErrTable
	}
	return t, api.OK
}

func numbersOf(words []uint32) []int {
	list := make([]int, len(words))
	for i, word := range words {
		list[i] = int(int32(word))
	}
	return list
}
