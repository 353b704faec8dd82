package aes_test

import (
	"encoding/binary"
	"fmt"
	"math/bits"
	"slices"
	"testing"

	"orrery/aes"
	"orrery/gf"
	"orrery/sbox"
)

// keyWords: a round's key, four bytes a word.
func keyWords(t *testing.T, c *aes.Cipher, round int) [4]uint32 {
	t.Helper()
	key := must(t)(c.Key(round))
	var words [4]uint32
	for i := range words {
		words[i] = binary.BigEndian.Uint32(key[4*i:])
	}
	return words
}

// byColumns: a block through the columns alone: four of them, turned, are a column that is substituted and mixed. What a column tells without the mixing, its second byte, makes the last round.
func byColumns(t *testing.T, c *aes.Cipher, b []byte) []byte {
	t.Helper()
	state := keyWords(t, c, 0)
	for i := range state {
		state[i] ^= binary.BigEndian.Uint32(b[4*i:])
	}
	for round := 1; round <= c.Rounds(); round++ {
		next := keyWords(t, c, round)
		for i := range next {
			for row := range 4 {
				column := sbox.Column(byte(state[(i+row)%4] >> (24 - 8*row)))
				if round < c.Rounds() {
					next[i] ^= bits.RotateLeft32(column, -8*row)
				} else {
					next[i] ^= column >> 16 & 0xff << (24 - 8*row)
				}
			}
		}
		state = next
	}
	list := make([]byte, 16)
	for i, w := range state {
		binary.BigEndian.PutUint32(list[4*i:], w)
	}
	return list
}

func TestColumnsAreTheCipher(t *testing.T) {
	ciphers(t, func(c *aes.Cipher, key []byte) {
		for _, b := range blocks(int64(key[5])) {
			wantBytes(t, fmt.Sprintf("%x under %x through the columns", b, key), byColumns(t, c, b), must(t)(c.Encrypt(b)))
		}
	})
}

// tables: the words of sbox as they stand, as the rule makes them, and as the powers and logarithms of gf's table make them.
func tables() map[string][]uint32 {
	return map[string][]uint32{"Words": sbox.Words(), "Rule": sbox.Rule(), "the powers": byPowers(gf.Words())}
}

// byPowers: the table of sbox out of the inverses of a field, whose powers and logarithms stand in these words.
func byPowers(field []uint32) []uint32 {
	power := func(n int) byte { return byte(field[n%255]) }
	log := func(b byte) int { return int(field[b] >> 8) }
	words := make([]uint32, 256)
	for b := range 256 {
		inverse, twice, round := byte(0), byte(0), byte(0)
		if b > 0 {
			inverse, twice, round = power(255-log(byte(b))), power(log(byte(b))+log(2)), power(log(2)*(b-1))
		}
		sub := sbox.Affine(inverse)
		words[b] |= uint32(sub) | uint32(twice)<<16 | uint32(round)<<24
		words[sub] |= uint32(b) << 8
	}
	return words
}

// byTable: the block through each round by the table's words alone, the round keys too; and all steps of it.
func byTable(table []uint32, key, b []byte) [][]byte {
	var box [256]byte
	for i := range box {
		box[i] = byte(table[i])
	}
	twice := func(b byte) byte { return byte(table[b] >> 16) }
	keys := tableKeys(table, key)
	state := slices.Clone(b)
	for i := range state {
		state[i] ^= keys[0][i]
	}
	list := [][]byte{state}
	for round := 1; round < len(keys); round++ {
		next := slices.Clone(keys[round])
		for i := range next {
			at := func(n int) byte { j := i/4*4 + (i+n)%4; return box[state[(j+j%4*4)%16]] }
			if round == len(keys)-1 {
				next[i] ^= at(0)
			} else {
				next[i] ^= twice(at(0)) ^ twice(at(1)) ^ at(1) ^ at(2) ^ at(3)
			}
		}
		state = next
		list = append(list, state)
	}
	return list
}

// tableKeys: the round keys by the table's substitution and its round constants.
func tableKeys(table []uint32, key []byte) [][]byte {
	n := len(key) / 4
	all := slices.Clone(key)
	for i := n; i < 4*(n+7); i++ {
		w := [4]byte(all[4*i-4:])
		if i%n == 0 {
			w = [4]byte{w[1], w[2], w[3], w[0]}
		}
		for j := range w {
			if i%n == 0 || n == 8 && i%8 == 4 {
				w[j] = byte(table[w[j]])
			}
		}
		if i%n == 0 {
			w[0] ^= byte(table[i/n] >> 24)
		}
		for j := range w {
			all = append(all, all[4*(i-n)+j]^w[j])
		}
	}
	return slices.Collect(slices.Chunk(all, 16))
}

// The cipher is its tables, and they are their rules: the substitution is the inverses of a field.
func TestTheCipherIsItsTables(t *testing.T) {
	for what, table := range tables() {
		if !slices.Equal(table, sbox.Words()) {
			t.Errorf("the table that comes of %s is not the one that stands", what)
		}
		ciphers(t, func(c *aes.Cipher, key []byte) {
			b := letters(int64(key[7]), 16)
			list := byTable(table, key, b)
			for i, got := range steps(t, c, b) {
				wantBytes(t, fmt.Sprintf("step %d by %s under %x", i, what, key), got, list[i])
			}
			wantBytes(t, "Decrypt of what the table tells", must(t)(c.Decrypt(list[len(list)-1])), b)
		})
	}
}
