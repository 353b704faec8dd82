package automata

import (
	"math"

	"orrery/api"
)

const headWords = 2 + byteCount // how many classes and states there are, and the classes

// Pack: F12.7.
func Pack(a Automaton) ([]uint32, api.Errno) {
	if !Valid(a) {
		return nil, api.ErrArg
	}
	k, states := len(a.Next[0]), len(a.Next)
	if headWords+states*(k+1) > api.MaxWords {
		return nil, api.ErrBig
	}
	words := make([]uint32, 0, headWords+states*(k+1))
	words = append(words, uint32(k), uint32(states))
	words = appendNumbers(words, a.Class)
	for state, row := range a.Next {
		if a.Accept[state] > math.MaxInt32 {
			return nil, api.ErrBig
		}
		words = appendNumbers(words, row)
		words = appendNumbers(words, a.Accept[state:state+1])
	}
	return words, api.OK
}

func appendNumbers(words []uint32, list []int) []uint32 {
	for _, n := range list {
		words = append(words, uint32(int32(n)))
	}
	return words
}

// Unpack: F12.7.
func Unpack(words []uint32) (Automaton, api.Errno) {
	if len(words) < headWords || len(words) > api.MaxWords {
		return Automaton{}, api.ErrTable
	}
	k, states := int64(words[0]), int64(words[1])
	if k > byteCount || states > api.MaxStates || headWords+states*(k+1) != int64(len(words)) {
		return Automaton{}, api.ErrTable
	}
	a := Automaton{Class: numbers(words[2:headWords])}
	for at := headWords; at < len(words); at += int(k) + 1 {
		a.Next = append(a.Next, numbers(words[at:at+int(k)]))
		a.Accept = append(a.Accept, int(int32(words[at+int(k)])))
	}
	if !Valid(a) {
		return Automaton{}, api.ErrTable
	}
	return a, api.OK
}

func numbers(words []uint32) []int {
	list := make([]int, len(words))
	for i, word := range words {
		list[i] = int(int32(word))
	}
	return list
}
