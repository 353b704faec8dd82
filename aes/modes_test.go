package aes_test

import (
	"bytes"
	"crypto/cipher"
	"fmt"
	"math/big"
	"testing"

	"orrery/aes"
	"orrery/api"
)

// lengths: of data, about the edges of blocks.
var lengths = []int{0, 1, 2, 15, 16, 17, 31, 32, 33, 47, 48, 49, 64, 100, 255, 256, 257}

func TestCounterExample(t *testing.T) {
	start, text := unhex(t, "f0f1f2f3f4f5f6f7f8f9fafbfcfdfeff"), unhex(t, fourText)
	for key, want := range map[string]string{
		key128: "874d6191b620e3261bef6864990db6ce9806f66b7970fdff8617187bb9fffdff5ae4df3edbd5d35e5b4f09020db03eab1e031dda2fbe03d1792170a0f3009cee",
		key192: "1abc932417521ca24f2b0459fe7e6e0b090339ec0aa6faefd5ccc2c6f4ce8e941e36b26bd1ebc670d1bd1d665620abf74f78a7f6d29809585a97daec58c6b050",
		key256: "601ec313775789a5b7a7f504bbf3d228f443e3ca4d62b59aca84e990cacaf5c52b0930daa23de94ce87017ba2d84988ddfc9c58db67aada613c2dd08457941a6",
	} {
		c := newCipher(t, unhex(t, key))
		wantHex(t, "Counter under "+key, must(t)(c.Counter(start, text)), want)
		wantBytes(t, "Counter of Counter", must(t)(c.Counter(start, unhex(t, want))), text)
	}
}

// starts: of zeros, some of chance, and those whose low bytes are all 255, up to all sixteen.
func starts() [][]byte {
	list := [][]byte{make([]byte, 16), letters(20, 16), letters(21, 16)}
	for low := range 17 {
		start := letters(int64(30+low), 16)
		start[max(15-low, 0)] &= 0x7f
		copy(start[16-low:], bytes.Repeat([]byte{255}, low))
		list = append(list, start)
	}
	return list
}

func TestCounterIsTheLibrarys(t *testing.T) {
	for _, n := range keyLengths {
		key := letters(int64(n), n)
		c := newCipher(t, key)
		for _, start := range starts() {
			for _, length := range lengths {
				data, want := letters(22, length), make([]byte, length)
				cipher.NewCTR(libraryCipher(t, key), start).XORKeyStream(want, data)
				got := must(t)(c.Counter(start, data))
				wantBytes(t, fmt.Sprintf("Counter(%x) of %d bytes", start, length), got, want)
				wantBytes(t, "Counter of Counter", must(t)(c.Counter(start, got)), data)
			}
		}
	}
}

// The counter of sixteen bytes 255 goes on with zeros, and counts in all 128 bits.
func TestCounterGoesRound(t *testing.T) {
	for _, n := range keyLengths {
		c := newCipher(t, letters(int64(n+1), n))
		for _, start := range starts() {
			var want []byte
			number := new(big.Int).SetBytes(start)
			for range 4 {
				block := make([]byte, 16)
				want = append(want, must(t)(c.Encrypt(number.FillBytes(block)))...)
				number.Add(number, big.NewInt(1))
				number.Mod(number, new(big.Int).Lsh(big.NewInt(1), 128))
			}
			wantBytes(t, fmt.Sprintf("Counter(%x) of zeros", start), must(t)(c.Counter(start, make([]byte, 64))), want)
		}
	}
}

func TestCounterOfTheFirstBytes(t *testing.T) {
	c, start, data := newCipher(t, letters(40, 24)), bytes.Repeat([]byte{255}, 16), letters(41, 100)
	whole := must(t)(c.Counter(start, data))
	for n := range len(data) + 1 {
		got := must(t)(c.Counter(start, data[:n]))
		wantBytes(t, fmt.Sprintf("Counter of the first %d bytes", n), got, whole[:n])
	}
	if b := must(t)(c.Counter(start, nil)); len(b) != 0 {
		t.Errorf("Counter of nothing: %x", b)
	}
}

func TestChainExample(t *testing.T) {
	first, text := unhex(t, rising[:32]), unhex(t, fourText)
	for key, want := range map[string]string{
		key128: "7649abac8119b246cee98e9b12e9197d5086cb9b507219ee95db113a917678b273bed6b8e3c1743b7116e69e222295163ff1caa1681fac09120eca307586e1a7",
		key192: "4f021db243bc633d7178183a9fa071e8b4d9ada9ad7dedf4e5e738763f69145a571b242012fb7ae07fa9baac3df102e008b0e27988598881d920a9e64f5615cd",
		key256: "f58c4c04d6e5f1ba779eabfb5f7bfbd69cfc4e967edb808d679f777bc6702c7d39f23369a9d9bacfa530e26304231461b2eb05e2c39be9fcda6c19078c6a9d1b",
	} {
		c := newCipher(t, unhex(t, key))
		wantHex(t, "Chain under "+key, must(t)(c.Chain(first, text)), want)
		wantBytes(t, "Unchain under "+key, must(t)(c.Unchain(first, unhex(t, want))), text)
	}
}

func TestChainIsTheLibrarys(t *testing.T) {
	ciphers(t, func(c *aes.Cipher, key []byte) {
		first := letters(int64(key[3]), 16)
		for _, blocks := range []int{0, 1, 2, 3, 7} {
			data := letters(int64(50+blocks), 16*blocks)
			forth, back := make([]byte, len(data)), make([]byte, len(data))
			cipher.NewCBCEncrypter(libraryCipher(t, key), first).CryptBlocks(forth, data)
			cipher.NewCBCDecrypter(libraryCipher(t, key), first).CryptBlocks(back, data)
			what := fmt.Sprintf("of %d blocks under %x", blocks, key)
			chained, unchained := must(t)(c.Chain(first, data)), must(t)(c.Unchain(first, data))
			wantBytes(t, "Chain "+what, chained, forth)
			wantBytes(t, "Unchain "+what, unchained, back)
			wantBytes(t, "Unchain of Chain "+what, must(t)(c.Unchain(first, chained)), data)
			wantBytes(t, "Chain of Unchain "+what, must(t)(c.Chain(first, unchained)), data)
		}
	})
}

func TestChainOfOneBlock(t *testing.T) {
	c, data := newCipher(t, letters(60, 32)), letters(61, 16)
	wantBytes(t, "Chain with a first of zeros", must(t)(c.Chain(make([]byte, 16), data)), must(t)(c.Encrypt(data)))
	wantBytes(t, "Chain of its first", must(t)(c.Chain(data, data)), must(t)(c.Encrypt(make([]byte, 16))))
	for _, none := range [][]byte{nil, {}} {
		if b := must(t)(c.Chain(data, none)); len(b) != 0 {
			t.Errorf("Chain of nothing: %x", b)
		}
		if b := must(t)(c.Unchain(data, none)); len(b) != 0 {
			t.Errorf("Unchain of nothing: %x", b)
		}
	}
}

// Where data differ in one block alone, the blocks ahead of it are chained alike, and none from there on is.
func TestChainsDifferFromThereOn(t *testing.T) {
	for _, n := range keyLengths {
		c, first, data := newCipher(t, letters(70, n)), letters(71, 16), letters(72, 16*6)
		chained := must(t)(c.Chain(first, data))
		for bit := range 8 * len(data) {
			turned := bytes.Clone(data)
			turned[bit/8] ^= 1 << (bit % 8)
			got := must(t)(c.Chain(first, turned))
			for at := 0; at < len(data); at += 16 {
				same := bytes.Equal(got[at:at+16], chained[at:at+16])
				if want := at+16 <= bit/8; same != want {
					t.Errorf("bit %d is turned, the block at %d is the same: %t", bit, at, same)
				}
			}
		}
	}
}

func TestWrongStarts(t *testing.T) {
	for _, keyLength := range keyLengths {
		c := newCipher(t, letters(80, keyLength))
		for what, call := range map[string]func(first, data []byte) ([]byte, api.Errno){"Counter": c.Counter, "Chain": c.Chain, "Unchain": c.Unchain} {
			for _, n := range wrongBlocks {
				for _, data := range []int{0, 1, 16, 17, 32} {
					b, e := call(roomy(letters(81, n)), letters(82, data))
					wantError(t, fmt.Sprintf("%s of %d and %d bytes", what, n, data), b, e, api.ErrBlock)
				}
			}
		}
		for n := range 70 {
			for what, call := range map[string]func(first, data []byte) ([]byte, api.Errno){"Chain": c.Chain, "Unchain": c.Unchain} {
				b, e := call(letters(83, 16), roomy(letters(84, n)))
				if n%16 != 0 {
					wantError(t, fmt.Sprintf("%s of %d bytes", what, n), b, e, api.ErrBlock)
				} else if e != api.OK || len(b) != n {
					t.Errorf("%s of %d bytes: %x, %v", what, n, b, e)
				}
			}
		}
	}
}

// The codes of RFC 4493, and of SP 800-38B for the longer keys.
func TestMacExamples(t *testing.T) {
	for _, c := range []struct {
		key   string
		codes map[int]string
	}{
		{key128, map[int]string{0: "bb1d6929e95937287fa37d129b756746", 16: "070a16b46b4d4144f79bdd9dd04a287c", 40: "dfa66747de9ae63030ca32611497c827", 64: "51f0bebf7e3b9d92fc49741779363cfe"}},
		{key192, map[int]string{0: "d17ddf46adaacde531cac483de7a9367", 16: "9e99a7bf31e710900662f65e617c5184", 40: "8a1de5be2eb31aad089a82e6ee908b0e", 64: "a1d5df0eed790f794d77589659f39a11"}},
		{key256, map[int]string{0: "028962f61b7bf89efc6b551f4667d983", 16: "28a7023f452e8f82bd4bf28d8c37c35c", 40: "aaf3d8f1de5640c232f5b169b9c911e6", 64: "e1992190549f6ed5696a2c056c315410"}},
	} {
		x := newCipher(t, unhex(t, c.key))
		for n, want := range c.codes {
			got := must(t)(x.Mac(unhex(t, fourText)[:n]))
			wantHex(t, fmt.Sprintf("Mac of %d bytes under %s", n, c.key), got, want)
		}
	}
}

// doubled: in the field of two to the power of 128 elements, and whether a bit went out.
func doubled(b []byte) ([]byte, bool) {
	x := new(big.Int).Lsh(new(big.Int).SetBytes(b), 1)
	out := x.Bit(128) == 1
	if out {
		x.SetBit(x, 128, 0)
		x.Xor(x, big.NewInt(0x87))
	}
	return x.FillBytes(make([]byte, 16)), out
}

// libraryMac: CMAC over the library's cipher; and whether a bit went out for each of the two keys.
func libraryMac(t *testing.T, key, data []byte) (code []byte, outs [2]bool) {
	t.Helper()
	c := libraryCipher(t, key)
	zero := make([]byte, 16)
	c.Encrypt(zero, zero)
	k1, out1 := doubled(zero)
	k2, out2 := doubled(k1)
	message, last := bytes.Clone(data), k1
	if len(data)%16 != 0 || len(data) == 0 {
		message, last = append(message, 0x80), k2
		for len(message)%16 != 0 {
			message = append(message, 0)
		}
	}
	for i, b := range last {
		message[len(message)-16+i] ^= b
	}
	cipher.NewCBCEncrypter(c, make([]byte, 16)).CryptBlocks(message, message)
	return message[len(message)-16:], [2]bool{out1, out2}
}

func TestMac(t *testing.T) {
	seen := map[[2]bool]int{}
	ciphers(t, func(c *aes.Cipher, key []byte) {
		for _, n := range lengths {
			data := letters(int64(90+n), n)
			want, outs := libraryMac(t, key, data)
			seen[outs]++
			wantBytes(t, fmt.Sprintf("Mac of %d bytes under %x", n, key), must(t)(c.Mac(data)), want)
		}
		want, _ := libraryMac(t, key, nil)
		wantBytes(t, "Mac of nil", must(t)(c.Mac(nil)), want)
	})
	if len(seen) != 4 {
		t.Errorf("bits went out for the two keys in these ways alone: %v", seen)
	}
}

// What is filled up is told apart from the same bytes in the data.
func TestMacTellsFillingFromData(t *testing.T) {
	c := newCipher(t, letters(95, 16))
	for n := range 16 {
		data := letters(96, n)
		filled := append(bytes.Clone(data), 0x80)
		filled = append(filled, make([]byte, 15-n)...)
		if bytes.Equal(must(t)(c.Mac(data)), must(t)(c.Mac(filled))) {
			t.Errorf("Mac of %x and of %x are the same", data, filled)
		}
	}
}

func TestPad(t *testing.T) {
	for n := range 70 {
		data := letters(int64(n), n)
		want := bytes.Clone(data)
		for range 16 - n%16 {
			want = append(want, byte(16-n%16))
		}
		got := aes.Pad(data)
		wantBytes(t, fmt.Sprintf("Pad of %d bytes", n), got, want)
		wantBytes(t, "Unpad of it", must(t)(aes.Unpad(got)), data)
	}
	wantBytes(t, "Pad of nil", aes.Pad(nil), bytes.Repeat([]byte{16}, 16))
	wantBytes(t, "Pad of padded data", aes.Pad(aes.Pad(nil)), bytes.Repeat([]byte{16}, 32))
}

func TestUnpadOfNoBlocks(t *testing.T) {
	for n := range 70 {
		if n > 0 && n%16 == 0 {
			continue
		}
		for _, last := range []byte{0, 1, byte(n), 15, 16, 17} {
			data := roomy(bytes.Repeat([]byte{last}, n))
			b, e := aes.Unpad(data)
			wantError(t, fmt.Sprintf("Unpad of %d bytes %d", n, last), b, e, api.ErrBlock)
		}
	}
	b, e := aes.Unpad(nil)
	wantError(t, "Unpad(nil)", b, e, api.ErrBlock)
}

// ending: two blocks of bytes 200, whose last ones are so many of this value.
func ending(value byte, n int) []byte {
	data := bytes.Repeat([]byte{200}, 32)
	copy(data[32-n:], bytes.Repeat([]byte{value}, n))
	return data
}

func TestUnpadOfWrongEnds(t *testing.T) {
	for value := range 256 {
		for n := 1; n <= 16; n++ {
			b, e := aes.Unpad(ending(byte(value), n))
			if value < 1 || value > 16 || n < value {
				wantError(t, fmt.Sprintf("Unpad with %d bytes %d at its end", n, value), b, e, api.ErrArg)
				continue
			}
			want := ending(byte(value), n)[:32-value]
			if e != api.OK || !bytes.Equal(b, want) {
				t.Errorf("Unpad with %d bytes %d at its end: %x, %v", n, value, b, e)
			}
		}
	}
	for n := 2; n <= 16; n++ {
		for wrong := range n - 1 {
			data := ending(byte(n), n)
			data[32-n+wrong] ^= 1
			b, e := aes.Unpad(data)
			wantError(t, fmt.Sprintf("Unpad of %d bytes of which number %d is another one", n, wrong), b, e, api.ErrArg)
		}
	}
	b, e := aes.Unpad(make([]byte, 16))
	wantError(t, "Unpad of 16 zeros", b, e, api.ErrArg)
	b, e = aes.Unpad(bytes.Repeat([]byte{32}, 32))
	wantError(t, "Unpad of 32 bytes 32", b, e, api.ErrArg)
}

func TestEqual(t *testing.T) {
	long := letters(97, 100)
	for _, c := range []struct {
		a, b []byte
		want bool
	}{
		{nil, nil, true}, {nil, []byte{}, true}, {[]byte{}, nil, true}, {[]byte{}, []byte{}, true},
		{nil, []byte{0}, false}, {[]byte{0}, nil, false}, {[]byte{}, []byte{0}, false},
		{[]byte{0}, []byte{0}, true}, {[]byte{0}, []byte{1}, false}, {[]byte{0}, []byte{128}, false}, {[]byte{0}, []byte{0, 0}, false},
		{[]byte{1, 2, 3}, []byte{1, 2}, false}, {[]byte{1, 2}, []byte{1, 2, 3}, false}, {[]byte{1, 2, 3}, []byte{1, 2, 4}, false},
		{[]byte{1, 2}, []byte{2, 1}, false}, {[]byte{5, 5}, []byte{9, 9}, false},
		{long, bytes.Clone(long), true}, {long, long[:99], false}, {long[:50], roomy(long[:50]), true},
	} {
		if got := aes.Equal(c.a, c.b); got != c.want {
			t.Errorf("Equal(%x, %x): %t", c.a, c.b, got)
		}
	}
	for i := range 8 * len(long) {
		other := bytes.Clone(long)
		other[i/8] ^= 1 << (i % 8)
		if aes.Equal(long, other) || aes.Equal(other, long) {
			t.Errorf("Equal of lists that part in bit %d", i)
		}
	}
}

// Long data go through the same walk: many blocks, and part of one.
func TestLongData(t *testing.T) {
	key, start, data := letters(98, 32), bytes.Repeat([]byte{255}, 16), letters(99, 16*300+5)
	c, want := newCipher(t, key), make([]byte, len(data))
	cipher.NewCTR(libraryCipher(t, key), start).XORKeyStream(want, data)
	wantBytes(t, "Counter", must(t)(c.Counter(start, data)), want)
	code, _ := libraryMac(t, key, data)
	wantBytes(t, "Mac", must(t)(c.Mac(data)), code)
	padded := aes.Pad(data)
	chained := make([]byte, len(padded))
	cipher.NewCBCEncrypter(libraryCipher(t, key), start).CryptBlocks(chained, padded)
	wantBytes(t, "Chain", must(t)(c.Chain(start, padded)), chained)
	wantBytes(t, "Unpad of Unchain", must(t)(aes.Unpad(must(t)(c.Unchain(start, chained)))), data)
}
