package aes_test

import (
	"bytes"
	library "crypto/aes"
	"crypto/cipher"
	"encoding/hex"
	"fmt"
	"math"
	"math/rand"
	"testing"

	"orrery/aes"
	"orrery/api"
)

// keyLengths: the right ones.
var keyLengths = []int{16, 24, 32}

// wrongBlocks: how long what should be a block may be, if it is none.
var wrongBlocks = []int{0, 1, 8, 15, 17, 31, 32, 33, 48, 256}

// The keys by which the standards tell their examples.
const (
	key128   = "2b7e151628aed2a6abf7158809cf4f3c"
	key192   = "8e73b0f7da0e6452c810f32b809079e562f8ead2522c6b7b"
	key256   = "603deb1015ca71be2b73aef0857d77811f352c073b6108d72d9810a30914dff4"
	rising   = "000102030405060708090a0b0c0d0e0f101112131415161718191a1b1c1d1e1f"
	elevens  = "00112233445566778899aabbccddeeff"
	fourText = "6bc1bee22e409f96e93d7e117393172aae2d8a571e03ac9c9eb76fac45af8e5130c81c46a35ce411e5fbc1191a0a52eff69f2445df4f9b17ad2b417be66c3710"
)

// letters: n bytes that hardly come again.
func letters(seed int64, n int) []byte {
	b := make([]byte, n)
	rand.New(rand.NewSource(seed)).Read(b)
	return b
}

func unhex(t *testing.T, s string) []byte {
	t.Helper()
	b, err := hex.DecodeString(s)
	if err != nil {
		t.Fatal(err)
	}
	return b
}

// must: what a call answers that has no error.
func must(t *testing.T) func(b []byte, e api.Errno) []byte {
	return func(b []byte, e api.Errno) []byte {
		t.Helper()
		if e != api.OK {
			t.Fatalf("the error %v", e)
		}
		return b
	}
}

func newCipher(t *testing.T, key []byte) *aes.Cipher {
	t.Helper()
	c, e := aes.New(key)
	if c == nil || e != api.OK {
		t.Fatalf("New of %d bytes: %v, %v", len(key), c, e)
	}
	return c
}

func libraryCipher(t *testing.T, key []byte) cipher.Block {
	t.Helper()
	c, err := library.NewCipher(key)
	if err != nil {
		t.Fatal(err)
	}
	return c
}

// ciphers: under keys of each length, of zeros, of bytes 255, and some of chance.
func ciphers(t *testing.T, each func(c *aes.Cipher, key []byte)) {
	t.Helper()
	for _, n := range keyLengths {
		keys := [][]byte{make([]byte, n), bytes.Repeat([]byte{255}, n), unhex(t, rising)[:n]}
		for seed := range 12 {
			keys = append(keys, letters(int64(100*n+seed), n))
		}
		for _, key := range keys {
			each(newCipher(t, key), key)
		}
	}
}

func wantBytes(t *testing.T, what string, got, want []byte) {
	t.Helper()
	if !bytes.Equal(got, want) {
		t.Errorf("%s: %x, not %x", what, got, want)
	}
}

func wantHex(t *testing.T, what string, got []byte, want string) {
	t.Helper()
	wantBytes(t, what, got, unhex(t, want))
}

func wantError(t *testing.T, what string, got []byte, e, want api.Errno) {
	t.Helper()
	if e != want || len(got) != 0 {
		t.Errorf("%s: %x, %v, not the error %v alone", what, got, e, want)
	}
}

// roomy: the bytes, and behind them spare room that is not 0.
func roomy(b []byte) []byte {
	list := bytes.Join([][]byte{b, bytes.Repeat([]byte{0xa5}, 64)}, nil)
	return list[:len(b)]
}

func TestNew(t *testing.T) {
	for n, rounds := range map[int]int{16: 10, 24: 12, 32: 14} {
		c := newCipher(t, letters(1, n))
		if got := c.Rounds(); got != rounds {
			t.Errorf("Rounds of %d bytes: %d, not %d", n, got, rounds)
		}
	}
}

func TestNewOfWrongKeys(t *testing.T) {
	for n := range 70 {
		if n == 16 || n == 24 || n == 32 {
			continue
		}
		for _, key := range [][]byte{letters(2, n), roomy(letters(2, n))} {
			if c, e := aes.New(key); c != nil || e != api.ErrKey {
				t.Errorf("New of %d bytes: %v, %v", n, c, e)
			}
		}
	}
	for _, key := range [][]byte{nil, {}, make([]byte, 128), make([]byte, 256), make([]byte, 256+16), make([]byte, 1<<16+32)} {
		if c, e := aes.New(key); c != nil || e != api.ErrKey {
			t.Errorf("New of %d bytes: %v, %v", len(key), c, e)
		}
	}
}

func TestKeyExamples(t *testing.T) {
	for _, c := range []struct {
		key   string
		round int
		want  string
	}{
		{key128, 0, key128},
		{key128, 1, "a0fafe1788542cb123a339392a6c7605"},
		{key128, 2, "f2c295f27a96b9435935807a7359f67f"},
		{key128, 10, "d014f9a8c9ee2589e13f0cc8b6630ca6"},
		{key192, 0, key192[:32]},
		{key192, 1, "62f8ead2522c6b7bfe0c91f72402f5a5"},
		{key192, 12, "e98ba06f448c773c8ecc720401002202"},
		{key256, 0, key256[:32]},
		{key256, 1, key256[32:]},
		{key256, 2, "9ba354118e6925afa51a8b5f2067fcde"},
		{key256, 3, "a8b09c1a93d194cdbe49846eb75d5b9a"},
		{key256, 14, "fe4890d1e6188d0b046df344706c631e"},
	} {
		got := must(t)(newCipher(t, unhex(t, c.key)).Key(c.round))
		wantHex(t, fmt.Sprintf("Key(%d) of %s", c.round, c.key), got, c.want)
	}
}

// times: in the field of 0x11b, by the whole product and a long division.
func times(a, b byte) byte {
	p := 0
	for i := range 8 {
		p ^= int(a) << i * int(b>>i&1)
	}
	for i := 14; i >= 8; i-- {
		p ^= 0x11b << (i - 8) * (p >> i & 1)
	}
	return byte(p)
}

// box: the substitution as FIPS 197 tells it bit by bit, its inverses found by trying.
func box() [256]byte {
	var table [256]byte
	for a := range table {
		inverse := byte(0)
		for b := range 256 {
			if times(byte(a), byte(b)) == 1 {
				inverse = byte(b)
			}
		}
		for i := range 8 {
			bit := byte(0x63) >> i & 1
			for _, turn := range []int{0, 4, 5, 6, 7} {
				bit ^= inverse >> ((i + turn) % 8) & 1
			}
			table[a] |= bit << i
		}
	}
	return table
}

// roundKeys: as P901 tells them, without the packages below.
func roundKeys(key []byte, box [256]byte) [][]byte {
	n, round := len(key)/4, byte(1)
	all := bytes.Clone(key)
	for i := n; i < 4*(n+7); i++ {
		w := bytes.Clone(all[4*i-4:])
		if i%n == 0 {
			w = append(w[1:], w[0])
		}
		if i%n == 0 || n == 8 && i%8 == 4 {
			for j := range w {
				w[j] = box[w[j]]
			}
		}
		if i%n == 0 {
			w[0] ^= round
			round = times(round, 2)
		}
		for j := range w {
			all = append(all, all[4*(i-n)+j]^w[j])
		}
	}
	var keys [][]byte
	for at := 0; at < len(all); at += 16 {
		keys = append(keys, all[at:at+16])
	}
	return keys
}

func TestKeys(t *testing.T) {
	box := box()
	ciphers(t, func(c *aes.Cipher, key []byte) {
		keys := roundKeys(key, box)
		if len(keys) != c.Rounds()+1 {
			t.Fatalf("%d round keys of %d bytes, %d rounds", len(keys), len(key), c.Rounds())
		}
		for round, want := range keys {
			wantBytes(t, fmt.Sprintf("Key(%d) of %x", round, key), must(t)(c.Key(round)), want)
		}
	})
}

func TestKeyOfNoSuchRound(t *testing.T) {
	for _, n := range keyLengths {
		c := newCipher(t, letters(3, n))
		for _, round := range []int{-1, -2, c.Rounds() + 1, c.Rounds() + 2, 15, 16, 59, 60, 256, -256, 1 << 32, -1 << 32, math.MinInt, math.MinInt + 1, math.MaxInt} {
			b, e := c.Key(round)
			wantError(t, fmt.Sprintf("Key(%d) of %d bytes", round, n), b, e, api.ErrArg)
		}
		for _, round := range []int{0, c.Rounds()} {
			if b := must(t)(c.Key(round)); len(b) != 16 {
				t.Errorf("Key(%d) of %d bytes: %x", round, n, b)
			}
		}
	}
}

// A nil cipher is told ahead of whatever else is wrong.
func TestNilCipher(t *testing.T) {
	var c *aes.Cipher
	if got := c.Rounds(); got != 0 {
		t.Errorf("Rounds of nil: %d", got)
	}
	for _, round := range []int{0, 1, 10, -1, 11, math.MinInt, math.MaxInt} {
		b, e := c.Key(round)
		wantError(t, fmt.Sprintf("Key(%d) of nil", round), b, e, api.ErrNil)
	}
	for _, n := range append(wrongBlocks, 16) {
		given := letters(4, n)
		for what, call := range map[string]func(b []byte) ([]byte, api.Errno){"Encrypt": c.Encrypt, "Decrypt": c.Decrypt, "Mac": c.Mac} {
			b, e := call(given)
			wantError(t, fmt.Sprintf("%s of %d bytes by nil", what, n), b, e, api.ErrNil)
		}
		if steps, e := c.Steps(given); len(steps) != 0 || e != api.ErrNil {
			t.Errorf("Steps of %d bytes by nil: %v, %v", n, steps, e)
		}
		for what, call := range map[string]func(first, data []byte) ([]byte, api.Errno){"Counter": c.Counter, "Chain": c.Chain, "Unchain": c.Unchain} {
			for _, data := range []int{0, 15, 16, 17} {
				b, e := call(given, letters(5, data))
				wantError(t, fmt.Sprintf("%s of %d and %d bytes by nil", what, n, data), b, e, api.ErrNil)
			}
		}
	}
}

func TestShift(t *testing.T) {
	numbers := [16]byte{0, 1, 2, 3, 4, 5, 6, 7, 8, 9, 10, 11, 12, 13, 14, 15}
	if got, want := aes.Shift(numbers), [16]byte{0, 5, 10, 15, 4, 9, 14, 3, 8, 13, 2, 7, 12, 1, 6, 11}; got != want {
		t.Errorf("Shift: %v, not %v", got, want)
	}
	if got, want := aes.Unshift(numbers), [16]byte{0, 13, 10, 7, 4, 1, 14, 11, 8, 5, 2, 15, 12, 9, 6, 3}; got != want {
		t.Errorf("Unshift: %v, not %v", got, want)
	}
	for seed := range int64(50) {
		b := [16]byte(letters(seed, 16))
		var rows, turned [4][4]byte
		for i, c := range b {
			rows[i%4][i/4] = c
		}
		shifted := aes.Shift(b)
		for i, c := range shifted {
			turned[i%4][i/4] = c
		}
		for r, row := range rows {
			if want := [4]byte(append(row[r:4:4], row[:r]...)); turned[r] != want {
				t.Errorf("row %d of Shift(%x): %x, not %x", r, b, turned[r], want)
			}
		}
		if there, back := aes.Unshift(shifted), aes.Shift(aes.Unshift(b)); there != b || back != b {
			t.Errorf("%x: Unshift of Shift is %x, Shift of Unshift is %x", b, there, back)
		}
	}
}

func TestEncryptExamples(t *testing.T) {
	for _, c := range []struct{ key, text, want string }{
		{rising[:32], elevens, "69c4e0d86a7b0430d8cdb78070b4c55a"},
		{rising[:48], elevens, "dda97ca4864cdfe06eaf70a0ec0d7191"},
		{rising, elevens, "8ea2b7ca516745bfeafc49904b496089"},
		{key128, "3243f6a8885a308d313198a2e0370734", "3925841d02dc09fbdc118597196a0b32"},
		{key128, fourText[:32], "3ad77bb40d7a3660a89ecaf32466ef97"},
		{key192, fourText[:32], "bd334f1d6e45f25ff712a214571fa5cc"},
		{key256, fourText[:32], "f3eed1bdb5d2a03c064b5a7e3db181f8"},
	} {
		x := newCipher(t, unhex(t, c.key))
		wantHex(t, "Encrypt under "+c.key, must(t)(x.Encrypt(unhex(t, c.text))), c.want)
		wantHex(t, "Decrypt under "+c.key, must(t)(x.Decrypt(unhex(t, c.want))), c.text)
	}
}

// blocks: of zeros, of bytes 255, of one bit, and some of chance.
func blocks(seed int64) [][]byte {
	list := [][]byte{make([]byte, 16), bytes.Repeat([]byte{255}, 16)}
	for i := range 16 {
		one := make([]byte, 16)
		one[i] = 1 << (i % 8)
		list = append(list, one)
	}
	for i := range int64(10) {
		list = append(list, letters(seed+i, 16))
	}
	return list
}

func TestEncryptIsTheLibrarys(t *testing.T) {
	ciphers(t, func(c *aes.Cipher, key []byte) {
		want := libraryCipher(t, key)
		for _, b := range blocks(int64(key[1])) {
			forth, back := make([]byte, 16), make([]byte, 16)
			want.Encrypt(forth, b)
			want.Decrypt(back, b)
			wantBytes(t, fmt.Sprintf("Encrypt(%x) under %x", b, key), must(t)(c.Encrypt(b)), forth)
			wantBytes(t, fmt.Sprintf("Decrypt(%x) under %x", b, key), must(t)(c.Decrypt(b)), back)
		}
	})
}

func TestThereAndBack(t *testing.T) {
	ciphers(t, func(c *aes.Cipher, key []byte) {
		for _, b := range blocks(int64(key[0])) {
			wantBytes(t, "Decrypt of Encrypt", must(t)(c.Decrypt(must(t)(c.Encrypt(b)))), b)
			wantBytes(t, "Encrypt of Decrypt", must(t)(c.Encrypt(must(t)(c.Decrypt(b)))), b)
		}
	})
}

func TestWrongBlocks(t *testing.T) {
	for _, keyLength := range keyLengths {
		c := newCipher(t, letters(6, keyLength))
		for _, n := range wrongBlocks {
			for _, given := range [][]byte{letters(7, n), roomy(letters(7, n))} {
				b, e := c.Encrypt(given)
				wantError(t, fmt.Sprintf("Encrypt of %d bytes", n), b, e, api.ErrBlock)
				b, e = c.Decrypt(given)
				wantError(t, fmt.Sprintf("Decrypt of %d bytes", n), b, e, api.ErrBlock)
				if steps, e := c.Steps(given); len(steps) != 0 || e != api.ErrBlock {
					t.Errorf("Steps of %d bytes: %v, %v", n, steps, e)
				}
			}
		}
		if b, e := c.Encrypt(nil); len(b) != 0 || e != api.ErrBlock {
			t.Errorf("Encrypt(nil): %x, %v", b, e)
		}
	}
}

func steps(t *testing.T, c *aes.Cipher, b []byte) [][]byte {
	t.Helper()
	list, e := c.Steps(b)
	if e != api.OK || len(list) != c.Rounds()+1 {
		t.Fatalf("Steps: %d blocks, %v, of %d rounds", len(list), e, c.Rounds())
	}
	return list
}

// The starts of the rounds are the ones that FIPS 197 tells in its appendix C.1.
func TestStepsExample(t *testing.T) {
	list := steps(t, newCipher(t, unhex(t, rising[:32])), unhex(t, elevens))
	for i, want := range []string{
		"00102030405060708090a0b0c0d0e0f0",
		"89d810e8855ace682d1843d8cb128fe4",
		"4915598f55e5d7a0daca94fa1f0a63f7",
		"fa636a2825b339c940668a3157244d17",
		"247240236966b3fa6ed2753288425b6c",
		"c81677bc9b7ac93b25027992b0261996",
		"c62fe109f75eedc3cc79395d84f9cf5d",
		"d1876c0f79c4300ab45594add66ff41f",
		"fde3bad205e5d0d73547964ef1fe37f1",
		"bd6e7c3df2b5779e0b61216e8b10b689",
		"69c4e0d86a7b0430d8cdb78070b4c55a",
	} {
		wantHex(t, fmt.Sprintf("step %d", i), list[i], want)
	}
}

// after: a round as P903 tells it, without the packages below.
func after(b, key []byte, box [256]byte, isLast bool) []byte {
	shifted := make([]byte, 16)
	for i := range shifted {
		shifted[i] = box[b[(i+i%4*4)%16]]
	}
	list := make([]byte, 16)
	for i, c := range shifted {
		at, next := i/4*4, func(n int) byte { return shifted[i/4*4+(i+n)%4] }
		list[at+i%4] = times(2, c) ^ times(3, next(1)) ^ next(2) ^ next(3) ^ key[i]
		if isLast {
			list[i] = c ^ key[i]
		}
	}
	return list
}

func TestSteps(t *testing.T) {
	box := box()
	ciphers(t, func(c *aes.Cipher, key []byte) {
		keys, b := roundKeys(key, box), letters(int64(key[2]), 16)
		list := steps(t, c, b)
		want := bytes.Clone(b)
		for i := range want {
			want[i] ^= keys[0][i]
		}
		for round, got := range list {
			if round > 0 {
				want = after(want, keys[round], box, round == c.Rounds())
			}
			wantBytes(t, fmt.Sprintf("step %d of %x under %x", round, b, key), got, want)
		}
		wantBytes(t, "the last step", list[len(list)-1], must(t)(c.Encrypt(b)))
	})
}
