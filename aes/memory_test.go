package aes_test

import (
	"bytes"
	"fmt"
	"testing"

	"orrery/aes"
)

// wantStays: neither the list nor its spare room is changed by what the call does.
func wantStays(t *testing.T, what string, list []byte, call func(b []byte)) {
	t.Helper()
	given := roomy(list)
	kept := bytes.Clone(given[:cap(given)])
	call(given)
	wantBytes(t, what+" changes what is handed in", given[:cap(given)], kept)
}

func TestWhatIsHandedInStays(t *testing.T) {
	for _, n := range keyLengths {
		key, first := letters(1, n), letters(2, 16)
		c := newCipher(t, key)
		wantStays(t, "New", key, func(b []byte) { newCipher(t, b).Encrypt(first) })
		wantStays(t, "Encrypt", first, func(b []byte) { c.Encrypt(b) })
		wantStays(t, "Decrypt", first, func(b []byte) { c.Decrypt(b) })
		wantStays(t, "Steps", first, func(b []byte) { c.Steps(b) })
		for _, length := range []int{0, 1, 15, 16, 17, 32, 48} {
			data := letters(3, length)
			wantStays(t, "the start of Counter", first, func(b []byte) { c.Counter(b, data) })
			wantStays(t, "the data of Counter", data, func(b []byte) { c.Counter(first, b) })
			wantStays(t, "the first of Chain", first, func(b []byte) { c.Chain(b, data) })
			wantStays(t, "the data of Chain", data, func(b []byte) { c.Chain(first, b) })
			wantStays(t, "the first of Unchain", first, func(b []byte) { c.Unchain(b, data) })
			wantStays(t, "the data of Unchain", data, func(b []byte) { c.Unchain(first, b) })
			wantStays(t, "Mac", data, func(b []byte) { c.Mac(b) })
			wantStays(t, "Pad", data, func(b []byte) { spoil(aes.Pad(b)) })
			wantStays(t, "Unpad", aes.Pad(data), func(b []byte) { list, _ := aes.Unpad(b); spoil(list) })
			wantStays(t, "Equal", data, func(b []byte) { aes.Equal(b, b) })
		}
	}
}

// spoil: writes into a list and into its spare room.
func spoil(b []byte) {
	b = b[:cap(b)]
	for i := range b {
		b[i] ^= 0x5a
	}
}

func TestTheKeyIsNotKept(t *testing.T) {
	for _, n := range keyLengths {
		key, text := letters(4, n), letters(5, 16)
		given := roomy(key)
		c := newCipher(t, given)
		spoil(given)
		want := make([]byte, 16)
		libraryCipher(t, key).Encrypt(want, text)
		wantBytes(t, "Encrypt under a key that was spoiled since", must(t)(c.Encrypt(text)), want)
		wantBytes(t, "Key(0)", must(t)(c.Key(0)), key[:16])
	}
}

// wantNew: what a caller writes into an answer, and into its spare room, is not seen in the next one.
func wantNew(t *testing.T, what string, call func() []byte) {
	t.Helper()
	first := call()
	kept := bytes.Clone(first)
	spoil(first)
	wantBytes(t, what+" anew", call(), kept)
}

func TestWhatIsHandedOutIsTheCallers(t *testing.T) {
	m := must(t)
	for _, n := range keyLengths {
		c, first, data := newCipher(t, letters(6, n)), letters(7, 16), letters(8, 48)
		for round := range c.Rounds() + 1 {
			wantNew(t, fmt.Sprintf("Key(%d)", round), func() []byte { return m(c.Key(round)) })
		}
		wantNew(t, "Encrypt", func() []byte { return m(c.Encrypt(first)) })
		wantNew(t, "Decrypt", func() []byte { return m(c.Decrypt(first)) })
		wantNew(t, "Counter", func() []byte { return m(c.Counter(first, data)) })
		wantNew(t, "Chain", func() []byte { return m(c.Chain(first, data)) })
		wantNew(t, "Unchain", func() []byte { return m(c.Unchain(first, data)) })
		wantNew(t, "Mac", func() []byte { return m(c.Mac(data)) })
		wantNew(t, "Pad", func() []byte { return aes.Pad(data) })
		wantNew(t, "Unpad", func() []byte { return m(aes.Unpad(aes.Pad(data))) })
	}
}

// No step shares memory with another one, in its spare room neither.
func TestStepsShareNothing(t *testing.T) {
	for _, n := range keyLengths {
		c, text := newCipher(t, letters(9, n)), letters(10, 16)
		kept := steps(t, c, text)
		for spoiled := range kept {
			list := steps(t, c, text)
			spoil(list[spoiled])
			for i := range list {
				if i != spoiled {
					wantBytes(t, fmt.Sprintf("step %d beside %d", i, spoiled), list[i], kept[i])
				}
			}
			for i, b := range steps(t, c, text) {
				wantBytes(t, fmt.Sprintf("step %d anew", i), b, kept[i])
			}
		}
	}
}

// An answer's spare room tells nothing that the answer does not, as the bytes of Pad.
func TestSpareRoomTellsNothing(t *testing.T) {
	c, first := newCipher(t, letters(11, 16)), letters(12, 16)
	for n := range 40 {
		data := letters(13, n)
		for what, b := range map[string][]byte{
			"Counter": must(t)(c.Counter(first, data)),
			"Mac":     must(t)(c.Mac(data)),
			"Unpad":   must(t)(aes.Unpad(aes.Pad(data))),
		} {
			room := b[len(b):cap(b)]
			wantBytes(t, fmt.Sprintf("%s of %d bytes: the spare room", what, n), room, make([]byte, len(room)))
		}
	}
}

// Two ciphers under one key, and two under unlike ones, go by themselves; the same calls answer the same.
func TestCiphersShareNothing(t *testing.T) {
	text := letters(14, 16)
	ciphers(t, func(c *aes.Cipher, key []byte) {
		before := must(t)(c.Encrypt(text))
		other := newCipher(t, letters(15, 16))
		other.Encrypt(text)
		same := newCipher(t, key)
		wantBytes(t, "the same key", must(t)(same.Encrypt(text)), before)
		wantBytes(t, "once more", must(t)(c.Encrypt(text)), before)
	})
}
