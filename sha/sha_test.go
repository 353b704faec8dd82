package sha_test

import (
	"bytes"
	"crypto/hkdf"
	"crypto/hmac"
	"crypto/pbkdf2"
	"crypto/sha256"
	"crypto/sha512"
	"encoding"
	"encoding/binary"
	"encoding/hex"
	"fmt"
	"hash"
	"math"
	"math/big"
	"math/rand"
	"slices"
	"strings"
	"testing"

	"orrery/api"
	"orrery/sha"
)

// kinds: with the library's hash of each, and what the chapter says of its sizes.
var kinds = []struct {
	kind, size, block, field int
	library                  func() hash.Hash
}{
	{224, 28, 64, 8, sha256.New224},
	{256, 32, 64, 8, sha256.New},
	{384, 48, 128, 16, sha512.New384},
	{512, 64, 128, 16, sha512.New},
}

var wrongKinds = []int{0, 1, -1, -256, 7, 28, 32, 64, 128, 160, 223, 225, 255, 257, 383, 385, 511, 513, 1024, 256 + 1<<16, 256 + 1<<32, math.MaxInt, math.MinInt}

// letters: n bytes that hardly come again.
func letters(seed int64, n int) []byte {
	b := make([]byte, n)
	rand.New(rand.NewSource(seed)).Read(b)
	return b
}

// joint: all of them one behind the other, in memory of its own.
func joint(parts ...[]byte) []byte { return bytes.Join(parts, nil) }

func libraryKind(t *testing.T, kind int) func() hash.Hash {
	t.Helper()
	for _, k := range kinds {
		if k.kind == kind {
			return k.library
		}
	}
	t.Fatalf("no kind %d", kind)
	return nil
}

func librarySum(t *testing.T, kind int, b []byte) []byte {
	t.Helper()
	h := libraryKind(t, kind)()
	h.Write(b)
	return h.Sum(nil)
}

func libraryMac(t *testing.T, kind int, key, b []byte) []byte {
	t.Helper()
	h := hmac.New(libraryKind(t, kind), key)
	h.Write(b)
	return h.Sum(nil)
}

// must: what a call answers that has no error.
func must[T any](t *testing.T) func(x T, e api.Errno) T {
	return func(x T, e api.Errno) T {
		t.Helper()
		if e != api.OK {
			t.Fatalf("the error %v", e)
		}
		return x
	}
}

func wantBytes(t *testing.T, what string, got, want []byte) {
	t.Helper()
	if !bytes.Equal(got, want) {
		t.Errorf("%s: %X, not %X", what, got, want)
	}
}

func wantHex(t *testing.T, what string, got []byte, want string) {
	t.Helper()
	if s := strings.ToUpper(hex.EncodeToString(got)); s != want {
		t.Errorf("%s: %s, not %s", what, s, want)
	}
}

func wantError(t *testing.T, what string, got []byte, e, want api.Errno) {
	t.Helper()
	if e != want || len(got) != 0 {
		t.Errorf("%s: %X, %v, not the error %v alone", what, got, e, want)
	}
}

func wantNoState(t *testing.T, what string, s *sha.State, e, want api.Errno) {
	t.Helper()
	if e != want || s != nil {
		t.Errorf("%s: %v, %v, not the error %v alone", what, s, e, want)
	}
}

func TestWordsAreTheRule(t *testing.T) {
	words, rule := sha.Words(), sha.Rule()
	if len(words) != 64 || !slices.Equal(words, rule) {
		t.Errorf("Words are %x, Rule %x", words, rule)
	}
	for i, want := range map[int]uint32{0: 0x428a2f98, 1: 0x71374491, 31: 0x14292967, 32: 0x27b70a85, 62: 0xbef9a3f7, 63: 0xc67178f2} {
		if words[i] != want {
			t.Errorf("word %d is %x, not %x", i, words[i], want)
		}
	}
}

// The words are below the cube roots of the primes, as many 2^32ths of them as there are whole ones.
func TestWordsAreCubeRoots(t *testing.T) {
	prime := int64(1)
	for i, word := range sha.Words() {
		for prime++; !big.NewInt(prime).ProbablyPrime(0); prime++ {
		}
		whole := int64(1)
		for (whole+1)*(whole+1)*(whole+1) < prime {
			whole++
		}
		root := new(big.Int).Lsh(big.NewInt(whole), 32)
		root.Add(root, big.NewInt(int64(word)))
		cube := new(big.Int).Lsh(big.NewInt(prime), 96)
		below := new(big.Int).Exp(root, big.NewInt(3), nil)
		above := new(big.Int).Exp(root.Add(root, big.NewInt(1)), big.NewInt(3), nil)
		if below.Cmp(cube) > 0 || above.Cmp(cube) <= 0 {
			t.Errorf("word %d, of the prime %d, is %x", i, prime, word)
		}
	}
}

func TestTheTableIsTheCallers(t *testing.T) {
	digest := librarySum(t, 256, []byte("abc"))
	for what, table := range map[string]func() []uint32{"Words": sha.Words, "Rule": sha.Rule} {
		first := slices.Clone(table())
		mine := table()
		mine = mine[:cap(mine)]
		for i := range mine {
			mine[i] = ^mine[i]
		}
		if !slices.Equal(table(), first) {
			t.Errorf("%s: what a caller wrote is seen", what)
		}
		wantBytes(t, "Sum behind "+what, must[[]byte](t)(sha.Sum(256, []byte("abc"))), digest)
	}
}

func TestSize(t *testing.T) {
	for _, k := range kinds {
		if size, block, e := sha.Size(k.kind); size != k.size || block != k.block || e != api.OK {
			t.Errorf("Size(%d): %d, %d, %v", k.kind, size, block, e)
		}
	}
	for _, kind := range wrongKinds {
		if size, block, e := sha.Size(kind); size != 0 || block != 0 || e != api.ErrArg {
			t.Errorf("Size(%d): %d, %d, %v", kind, size, block, e)
		}
	}
}

func TestSumExamples(t *testing.T) {
	sum := func(kind int, b string) []byte { return must[[]byte](t)(sha.Sum(kind, []byte(b))) }
	wantHex(t, "Sum(256, nothing)", sum(256, ""), "E3B0C44298FC1C149AFBF4C8996FB92427AE41E4649B934CA495991B7852B855")
	wantHex(t, "Sum(224, abc)", sum(224, "abc"), "23097D223405D8228642A477BDA255B32AADBCE4BDA0B3F7E36C9DA7")
	wantHex(t, "Sum(256, abc)", sum(256, "abc"), "BA7816BF8F01CFEA414140DE5DAE2223B00361A396177A9CB410FF61F20015AD")
	wantHex(t, "Sum(384, abc)", sum(384, "abc"), "CB00753F45A35E8BB5A03D699AC65007272C32AB0EDED1631A8B605A43FF5BED8086072BA1E7CC2358BAECA134C825A7")
	wantHex(t, "Sum(512, abc)", sum(512, "abc")[:8], "DDAF35A193617ABA")
}

// Of each kind all lengths up to several blocks: among them those at which the length just has room in the last block, or just lacks it.
func TestSumOfEachLength(t *testing.T) {
	for _, k := range kinds {
		text := letters(8, 4*k.block+2)
		for n := range len(text) + 1 {
			what := fmt.Sprintf("Sum(%d, %d bytes)", k.kind, n)
			got := must[[]byte](t)(sha.Sum(k.kind, text[:n]))
			if len(got) != k.size {
				t.Fatalf("%s has %d bytes", what, len(got))
			}
			wantBytes(t, what, got, librarySum(t, k.kind, text[:n]))
		}
		wantBytes(t, "Sum of nil", must[[]byte](t)(sha.Sum(k.kind, nil)), librarySum(t, k.kind, nil))
	}
}

func TestSumOfALongText(t *testing.T) {
	for _, k := range kinds {
		text := letters(int64(k.kind), 1<<17+5)
		wantBytes(t, fmt.Sprint("a long text: ", k.kind), must[[]byte](t)(sha.Sum(k.kind, text)), librarySum(t, k.kind, text))
		zeros := make([]byte, 1000)
		wantBytes(t, fmt.Sprint("noughts: ", k.kind), must[[]byte](t)(sha.Sum(k.kind, zeros)), librarySum(t, k.kind, zeros))
		ones := bytes.Repeat([]byte{255}, 1000)
		wantBytes(t, fmt.Sprint("bytes 255: ", k.kind), must[[]byte](t)(sha.Sum(k.kind, ones)), librarySum(t, k.kind, ones))
	}
}

// The kind is told first of all, whatever else is wrong.
func TestWrongKinds(t *testing.T) {
	text := []byte("abc")
	long := letters(1, 300)
	for _, kind := range wrongKinds {
		check := func(what string) func(b []byte, e api.Errno) {
			return func(b []byte, e api.Errno) {
				t.Helper()
				wantError(t, fmt.Sprintf("%s of the kind %d", what, kind), b, e, api.ErrArg)
			}
		}
		check("Sum")(sha.Sum(kind, text))
		check("Sum of nothing")(sha.Sum(kind, nil))
		check("Padding")(sha.Padding(kind, 3))
		check("Padding of too many")(sha.Padding(kind, math.MaxUint64))
		check("Mac")(sha.Mac(kind, text, text))
		check("Mac under a long key")(sha.Mac(kind, long, nil))
		check("Extract")(sha.Extract(kind, text, text))
		check("Extract under long salt")(sha.Extract(kind, long, text))
		check("Expand")(sha.Expand(kind, text, text, 9))
		check("Expand to nothing")(sha.Expand(kind, text, text, 0))
		check("Expand to less")(sha.Expand(kind, text, text, -1))
		check("Expand to too many")(sha.Expand(kind, text, text, math.MaxInt))
		check("Stretch")(sha.Stretch(kind, text, text, 2, 9))
		check("Stretch to nothing")(sha.Stretch(kind, text, text, 2, 0))
		check("Stretch by none")(sha.Stretch(kind, text, text, 0, 9))
		check("Stretch by too many")(sha.Stretch(kind, text, text, 1025, 9))
		check("Stretch to too many")(sha.Stretch(kind, text, text, 2, 1025))
		s, e := sha.Begin(kind)
		wantNoState(t, fmt.Sprint("Begin ", kind), s, e, api.ErrArg)
		for _, n := range []int{0, 28, 32, 48, 64} {
			s, e = sha.Resume(kind, make([]byte, n), 0)
			wantNoState(t, fmt.Sprint("Resume ", kind), s, e, api.ErrArg)
			s, e = sha.Resume(kind, make([]byte, n), 1)
			wantNoState(t, fmt.Sprint("Resume ", kind), s, e, api.ErrArg)
		}
	}
}

func TestStateOfNothing(t *testing.T) {
	for _, k := range kinds {
		s := must[*sha.State](t)(sha.Begin(k.kind))
		if s == nil || s.Len() != 0 {
			t.Fatalf("Begin(%d): %v", k.kind, s)
		}
		wantBytes(t, "nothing", s.Sum(), librarySum(t, k.kind, nil))
		if n := s.Write(nil); n != 0 || s.Len() != 0 {
			t.Errorf("of nothing %d bytes went in, and the state has %d", n, s.Len())
		}
		wantBytes(t, "nothing, and nothing more", s.Sum(), librarySum(t, k.kind, nil))
	}
}

// Sum is asked behind each byte, twice, and changes nothing.
func TestStateGrows(t *testing.T) {
	for _, k := range kinds {
		text := letters(5, 2*k.block+3)
		s := must[*sha.State](t)(sha.Begin(k.kind))
		for i, c := range text {
			if n := s.Write([]byte{c}); n != 1 {
				t.Fatalf("Write of one byte: %d", n)
			}
			want := librarySum(t, k.kind, text[:i+1])
			what := fmt.Sprintf("%d, %d bytes", k.kind, i+1)
			wantBytes(t, what, s.Sum(), want)
			wantBytes(t, what+", again", s.Sum(), want)
			if s.Len() != uint64(i+1) {
				t.Fatalf("%s: Len %d", what, s.Len())
			}
		}
	}
}

func TestPieces(t *testing.T) {
	chance := rand.New(rand.NewSource(802))
	for range 300 {
		k := kinds[chance.Intn(len(kinds))]
		text := letters(chance.Int63(), chance.Intn(6*k.block))
		s := must[*sha.State](t)(sha.Begin(k.kind))
		for left := text; len(left) > 0; {
			n := chance.Intn(min(len(left), 2*k.block+2) + 1)
			if got := s.Write(left[:n]); got != n {
				t.Fatalf("Write of %d bytes: %d", n, got)
			}
			left = left[n:]
			if chance.Intn(3) == 0 {
				wantBytes(t, "on the way", s.Sum(), librarySum(t, k.kind, text[:len(text)-len(left)]))
			}
		}
		wantBytes(t, "at the end", s.Sum(), librarySum(t, k.kind, text))
		if s.Len() != uint64(len(text)) {
			t.Fatalf("Len %d, not %d", s.Len(), len(text))
		}
	}
}

// Each cut in two, and in three around the end of a block.
func TestPiecesAtEachCut(t *testing.T) {
	for _, k := range kinds {
		text := letters(11, 2*k.block+1)
		want := librarySum(t, k.kind, text)
		for cut := range len(text) + 1 {
			for _, second := range []int{cut, min(cut+1, len(text)), max(cut, min(k.block, len(text)))} {
				s := must[*sha.State](t)(sha.Begin(k.kind))
				s.Write(text[:cut])
				s.Write(text[cut:second])
				s.Write(text[second:])
				wantBytes(t, fmt.Sprintf("%d, cut at %d and %d", k.kind, cut, second), s.Sum(), want)
			}
		}
	}
}

func TestCloneGoesApart(t *testing.T) {
	for _, k := range kinds {
		for _, n := range []int{0, 1, k.block - 1, k.block, k.block + 1, 3*k.block + 7} {
			head, left, right := letters(1, n), letters(2, k.block+9), letters(3, 2*k.block+4)
			s := must[*sha.State](t)(sha.Begin(k.kind))
			s.Write(head)
			clone := s.Clone()
			if clone == nil || clone == s || clone.Len() != uint64(n) {
				t.Fatalf("%d: the clone is %p of %p", k.kind, clone, s)
			}
			wantBytes(t, "the clone", clone.Sum(), librarySum(t, k.kind, head))
			s.Write(left)
			wantBytes(t, "the clone when its state went on", clone.Sum(), librarySum(t, k.kind, head))
			clone.Write(right)
			wantBytes(t, "the state", s.Sum(), librarySum(t, k.kind, joint(head, left)))
			wantBytes(t, "the clone, on its own", clone.Sum(), librarySum(t, k.kind, joint(head, right)))
			if s.Len() != uint64(n+len(left)) || clone.Len() != uint64(n+len(right)) {
				t.Errorf("%d: Len %d and %d", k.kind, s.Len(), clone.Len())
			}
		}
	}
}

func TestStatesShareNothing(t *testing.T) {
	a := must[*sha.State](t)(sha.Begin(512))
	b := must[*sha.State](t)(sha.Begin(512))
	c := must[*sha.State](t)(sha.Begin(224))
	for i := range 300 {
		a.Write([]byte{byte(i)})
		b.Write([]byte{byte(i), 1})
		c.Write([]byte{byte(i), 2, 3})
	}
	var x, y, z []byte
	for i := range 300 {
		x, y, z = append(x, byte(i)), append(y, byte(i), 1), append(z, byte(i), 2, 3)
	}
	wantBytes(t, "a", a.Sum(), librarySum(t, 512, x))
	wantBytes(t, "b", b.Sum(), librarySum(t, 512, y))
	wantBytes(t, "c", c.Sum(), librarySum(t, 224, z))
}

func TestNilState(t *testing.T) {
	var s *sha.State
	if n := s.Write([]byte("abc")); n != 0 {
		t.Errorf("a nil state took %d bytes", n)
	}
	if n := s.Write(nil); n != 0 {
		t.Errorf("a nil state took %d bytes of none", n)
	}
	if b := s.Sum(); b != nil {
		t.Errorf("a nil state has the digest %X", b)
	}
	if n := s.Len(); n != 0 {
		t.Errorf("a nil state has %d bytes", n)
	}
	if c := s.Clone(); c != nil {
		t.Errorf("a nil state has the clone %v", c)
	}
}

// paddingOf: by whole numbers. The length goes round in as many bytes as its field has.
func paddingOf(block, field int, n *big.Int) []byte {
	length := new(big.Int).Lsh(n, 3)
	length.Mod(length, new(big.Int).Lsh(big.NewInt(1), uint(8*field)))
	filled := new(big.Int).Add(n, big.NewInt(int64(1+field)))
	over := int(filled.Mod(filled, big.NewInt(int64(block))).Int64())
	noughts := (block - over) % block
	return joint([]byte{128}, make([]byte, noughts), length.FillBytes(make([]byte, field)))
}

func whole(n uint64) *big.Int { return new(big.Int).SetUint64(n) }

const greatest = 1<<61 - 1 // whose bits a word can count

func TestPadding(t *testing.T) {
	p := must[[]byte](t)(sha.Padding(256, 3))
	if len(p) != 61 || p[60] != 24 || p[0] != 128 {
		t.Errorf("Padding(256, 3): %X", p)
	}
	if q := must[[]byte](t)(sha.Padding(512, 111)); len(q) != 17 {
		t.Errorf("Padding(512, 111): %X", q)
	}
	for _, k := range kinds {
		list := []uint64{greatest, greatest - 1, greatest - 63, greatest - 127, greatest - 128, 1 << 60, 1<<32 - 1, 1 << 32, 1 << 29, 1<<29 - 1, 1 << 56}
		for n := range uint64(3*k.block + 1) {
			list = append(list, n, greatest-n, n<<40)
		}
		for _, n := range list {
			got := must[[]byte](t)(sha.Padding(k.kind, n))
			wantBytes(t, fmt.Sprintf("Padding(%d, %d)", k.kind, n), got, paddingOf(k.block, k.field, whole(n)))
		}
	}
}

func TestPaddingMakesWholeBlocks(t *testing.T) {
	for _, k := range kinds {
		for n := range uint64(2 * k.block) {
			p := must[[]byte](t)(sha.Padding(k.kind, n))
			if (int(n)+len(p))%k.block != 0 || len(p) < 1+k.field || len(p) > k.block+k.field {
				t.Errorf("Padding(%d, %d) has %d bytes", k.kind, n, len(p))
			}
		}
	}
}

func TestPaddingOfTooMany(t *testing.T) {
	for _, k := range kinds {
		for _, n := range []uint64{greatest + 1, greatest + 2, greatest + 64, 1 << 62, 1 << 63, 1<<63 + 1, math.MaxUint64 - 1, math.MaxUint64} {
			p, e := sha.Padding(k.kind, n)
			wantError(t, fmt.Sprintf("Padding(%d, %d)", k.kind, n), p, e, api.ErrBig)
		}
	}
}

// Behind a message of each length up to several blocks its digest and length are enough to go on.
func TestLengthExtension(t *testing.T) {
	for _, k := range kinds {
		if k.kind == 224 || k.kind == 384 {
			continue
		}
		text := letters(803, 4*k.block)
		for n := range len(text) + 1 {
			m := text[:n]
			p := must[[]byte](t)(sha.Padding(k.kind, uint64(n)))
			digest := must[[]byte](t)(sha.Sum(k.kind, m))
			for _, x := range [][]byte{nil, []byte("x"), letters(3, k.block-17), letters(4, k.block), letters(5, 2*k.block+3)} {
				s := must[*sha.State](t)(sha.Resume(k.kind, digest, uint64(n+len(p))))
				if s.Len() != uint64(n+len(p)) || s.Write(x) != len(x) {
					t.Fatalf("Resume(%d) behind %d bytes: Len %d", k.kind, n+len(p), s.Len())
				}
				all := joint(m, p, x)
				what := fmt.Sprintf("%d: %d bytes, %d behind the padding", k.kind, n, len(x))
				wantBytes(t, what, s.Sum(), librarySum(t, k.kind, all))
				wantBytes(t, what, s.Sum(), must[[]byte](t)(sha.Sum(k.kind, all)))
				if s.Len() != uint64(len(all)) {
					t.Fatalf("%s: Len %d", what, s.Len())
				}
			}
		}
	}
}

// libraryBehind: H of the library behind these whole blocks, if it was the digest ahead of them.
func libraryBehind(t *testing.T, kind int, digest, blocks []byte) []byte {
	t.Helper()
	h := libraryKind(t, kind)()
	kept, err := h.(encoding.BinaryMarshaler).MarshalBinary()
	if err != nil {
		t.Fatal(err)
	}
	copy(kept[4:], digest)
	if err = h.(encoding.BinaryUnmarshaler).UnmarshalBinary(kept); err != nil {
		t.Fatal(err)
	}
	h.Write(blocks)
	if kept, err = h.(encoding.BinaryMarshaler).MarshalBinary(); err != nil {
		t.Fatal(err)
	}
	if n := binary.BigEndian.Uint64(kept[len(kept)-8:]); n != uint64(len(blocks)) {
		t.Fatalf("the library kept the length %d", n)
	}
	return kept[4 : 4+len(digest)]
}

// Behind any digest and so many bytes that their bits need more than a word, or that Len goes round.
func TestResumeBehindManyBytes(t *testing.T) {
	for _, k := range kinds {
		if k.kind == 224 || k.kind == 384 {
			continue
		}
		block := uint64(k.block)
		for _, n := range []uint64{0, block, 7 * block, greatest + 1 - block, greatest + 1, 1 << 62, 5<<61 + block, 1 << 63, math.MaxUint64 - 2*block + 1, math.MaxUint64 - block + 1} {
			digest := letters(int64(n>>3), k.size)
			for _, more := range []int{0, 1, k.block - 1, k.block, k.block + 1, 2*k.block + 5} {
				x := letters(int64(more), more)
				s := must[*sha.State](t)(sha.Resume(k.kind, digest, n))
				s.Write(x)
				length := n + uint64(more)
				what := fmt.Sprintf("Resume(%d, .., %d), %d bytes", k.kind, n, more)
				if s.Len() != length {
					t.Errorf("%s: Len %d", what, s.Len())
				}
				blocks := joint(x, paddingOf(k.block, k.field, whole(length)))
				wantBytes(t, what, s.Sum(), libraryBehind(t, k.kind, digest, blocks))
				wantBytes(t, what+", the clone", s.Clone().Sum(), s.Sum())
			}
		}
	}
}

func TestWrongResume(t *testing.T) {
	for _, k := range kinds {
		for _, n := range []int{0, 1, 27, 28, 29, 31, 32, 33, 47, 48, 49, 63, 64, 65, 128} {
			for _, length := range []uint64{0, 1, 32, 63, 64, 65, 96, 127, 128, 129, 192, 1 << 61, math.MaxUint64, math.MaxUint64 - 63, math.MaxUint64 - 127} {
				right := (k.kind == 256 || k.kind == 512) && n == k.size && length%uint64(k.block) == 0
				s, e := sha.Resume(k.kind, make([]byte, n), length)
				what := fmt.Sprintf("Resume(%d, %d bytes, %d)", k.kind, n, length)
				if !right {
					wantNoState(t, what, s, e, api.ErrArg)
				} else if s == nil || e != api.OK {
					t.Errorf("%s: %v, %v", what, s, e)
				}
			}
		}
		s, e := sha.Resume(k.kind, nil, 0)
		wantNoState(t, "Resume of nil", s, e, api.ErrArg)
	}
}

func TestMac(t *testing.T) {
	got := must[[]byte](t)(sha.Mac(256, []byte("key"), []byte("The quick brown fox jumps over the lazy dog")))
	wantHex(t, "Mac", got, "F7BC83F430538424B13298E6AA6FB143EF4D59A14946175997479DBC2D1A3CD8")
	for _, k := range kinds {
		key, text := letters(1, 2*k.block+3), letters(2, k.block+5)
		for n := range len(key) + 1 {
			what := fmt.Sprintf("Mac(%d, a key of %d bytes)", k.kind, n)
			wantBytes(t, what, must[[]byte](t)(sha.Mac(k.kind, key[:n], text)), libraryMac(t, k.kind, key[:n], text))
			short := text[:n%len(text)]
			wantBytes(t, what, must[[]byte](t)(sha.Mac(k.kind, key[:n], short)), libraryMac(t, k.kind, key[:n], short))
		}
		wantBytes(t, "Mac of nothing", must[[]byte](t)(sha.Mac(k.kind, nil, nil)), libraryMac(t, k.kind, nil, nil))
	}
}

// P804: noughts behind a key up to the block are nothing, one more is; a long key is its digest.
func TestKeysThatAreTheSame(t *testing.T) {
	text := []byte("a text")
	for _, k := range kinds {
		mac := func(key []byte) []byte { return must[[]byte](t)(sha.Mac(k.kind, key, text)) }
		for _, n := range []int{0, 1, k.size, k.block - 1, k.block} {
			key := letters(804, n)
			for noughts := range k.block - n + 1 {
				wantBytes(t, fmt.Sprintf("%d: %d bytes and %d noughts", k.kind, n, noughts), mac(joint(key, make([]byte, noughts))), mac(key))
			}
			if bytes.Equal(mac(joint(key, make([]byte, k.block+1-n))), mac(key)) {
				t.Errorf("%d: a key and one that is longer than the block have the same Mac", k.kind)
			}
		}
		for _, n := range []int{k.block + 1, k.block + 2, 2 * k.block, 5*k.block + 1} {
			key := letters(805, n)
			wantBytes(t, fmt.Sprintf("%d: %d bytes", k.kind, n), mac(key), mac(must[[]byte](t)(sha.Sum(k.kind, key))))
		}
		if key := letters(806, k.block); bytes.Equal(mac(key), mac(must[[]byte](t)(sha.Sum(k.kind, key)))) {
			t.Errorf("%d: a key of just the block's length is taken as its digest", k.kind)
		}
	}
}

func TestExtract(t *testing.T) {
	for _, k := range kinds {
		for _, n := range []int{0, 1, k.size, k.block - 1, k.block, k.block + 1, 300} {
			salt, key := letters(1, n), letters(2, 301-n)
			want, err := hkdf.Extract(k.library, key, salt)
			if err != nil {
				t.Fatal(err)
			}
			got := must[[]byte](t)(sha.Extract(k.kind, salt, key))
			wantBytes(t, fmt.Sprintf("Extract(%d, %d bytes of salt)", k.kind, n), got, want)
			wantBytes(t, "Mac", must[[]byte](t)(sha.Mac(k.kind, salt, key)), want)
		}
	}
}

// The first of the cases that RFC 5869 has.
func TestKeysOfTheStandard(t *testing.T) {
	salt, info := make([]byte, 13), make([]byte, 10)
	for i := range salt {
		salt[i] = byte(i)
	}
	for i := range info {
		info[i] = byte(0xf0 + i)
	}
	key := must[[]byte](t)(sha.Extract(256, salt, bytes.Repeat([]byte{0x0b}, 22)))
	wantHex(t, "Extract", key, "077709362C2E32DF0DDC3F0DC47BBA6390B6C73BB50F9C3122EC844AD7C2B3E5")
	wantHex(t, "Expand", must[[]byte](t)(sha.Expand(256, key, info, 42)),
		"3CB25F25FAACD57A90434F64D0362F2A2D2D0A90CF1A5A4C5DB02D56ECC4C5BF34007208D5B887185865")
}

func TestExpand(t *testing.T) {
	for _, k := range kinds {
		key, info := letters(1, k.size), letters(2, 100)
		most := 255 * k.size
		all := must[[]byte](t)(sha.Expand(k.kind, key, info, most))
		if len(all) != most {
			t.Fatalf("Expand(%d, .., %d) has %d bytes", k.kind, most, len(all))
		}
		for _, n := range []int{0, 1, k.size - 1, k.size, k.size + 1, 2*k.size - 1, 2 * k.size, 2*k.size + 1, 1000, most - k.size, most - 1, most} {
			got := must[[]byte](t)(sha.Expand(k.kind, key, info, n))
			what := fmt.Sprintf("Expand(%d, .., %d)", k.kind, n)
			want, err := hkdf.Expand(k.library, key, string(info), n)
			if err != nil {
				t.Fatal(err)
			}
			wantBytes(t, what, got, want)
			wantBytes(t, what+" as the beginning of more", got, all[:n])
		}
	}
}

func TestExpandOfAnyKeys(t *testing.T) {
	for _, k := range kinds {
		for _, n := range []int{0, 1, k.block - 1, k.block, k.block + 1, 3 * k.block} {
			key, info := letters(int64(n), n), letters(9, n/2)
			want, err := hkdf.Expand(k.library, key, string(info), 3*k.size+1)
			if err != nil {
				t.Fatal(err)
			}
			wantBytes(t, fmt.Sprintf("Expand(%d, a key of %d bytes)", k.kind, n), must[[]byte](t)(sha.Expand(k.kind, key, info, 3*k.size+1)), want)
		}
	}
}

func TestWrongExpand(t *testing.T) {
	for _, k := range kinds {
		for _, n := range []int{-1, -2, -k.size, math.MinInt} {
			b, e := sha.Expand(k.kind, []byte("k"), nil, n)
			wantError(t, fmt.Sprintf("Expand(%d, .., %d)", k.kind, n), b, e, api.ErrArg)
		}
		for _, n := range []int{255*k.size + 1, 256 * k.size, math.MaxInt} {
			b, e := sha.Expand(k.kind, []byte("k"), nil, n)
			wantError(t, fmt.Sprintf("Expand(%d, .., %d)", k.kind, n), b, e, api.ErrBig)
		}
	}
}

func libraryStretch(t *testing.T, library func() hash.Hash, password, salt []byte, rounds, n int) []byte {
	t.Helper()
	b, err := pbkdf2.Key(library, string(password), salt, rounds, n)
	if err != nil {
		t.Fatal(err)
	}
	return b
}

func TestStretchExamples(t *testing.T) {
	wantHex(t, "one round", must[[]byte](t)(sha.Stretch(256, []byte("password"), []byte("salt"), 1, 4)), "120FB6CF")
	wantHex(t, "two rounds", must[[]byte](t)(sha.Stretch(256, []byte("password"), []byte("salt"), 2, 4)), "AE4D0C95")
}

func TestStretch(t *testing.T) {
	for _, k := range kinds {
		password, salt := letters(1, 20), letters(2, 17)
		for _, rounds := range []int{1, 2, 3, 10} {
			all := must[[]byte](t)(sha.Stretch(k.kind, password, salt, rounds, 1024))
			wantBytes(t, fmt.Sprintf("Stretch(%d, .., %d, 1024)", k.kind, rounds), all, libraryStretch(t, k.library, password, salt, rounds, 1024))
			for _, n := range []int{0, 1, k.size - 1, k.size, k.size + 1, 3 * k.size, 3*k.size + 5, 1000, 1023} {
				got := must[[]byte](t)(sha.Stretch(k.kind, password, salt, rounds, n))
				wantBytes(t, fmt.Sprintf("Stretch(%d, .., %d, %d)", k.kind, rounds, n), got, all[:n])
			}
		}
		got := must[[]byte](t)(sha.Stretch(k.kind, password, salt, 1024, k.size+1))
		wantBytes(t, fmt.Sprintf("Stretch(%d) of 1024 rounds", k.kind), got, libraryStretch(t, k.library, password, salt, 1024, k.size+1))
	}
	most := must[[]byte](t)(sha.Stretch(256, nil, nil, 1024, 1024))
	wantBytes(t, "the most", most, libraryStretch(t, sha256.New, nil, nil, 1024, 1024))
}

func TestStretchOfAnyPasswords(t *testing.T) {
	for _, k := range kinds {
		for _, n := range []int{0, 1, k.block - 1, k.block, k.block + 1, 3 * k.block} {
			password, salt := letters(int64(n), n), letters(7, 2*n)
			got := must[[]byte](t)(sha.Stretch(k.kind, password, salt, 3, 2*k.size+1))
			wantBytes(t, fmt.Sprintf("Stretch(%d, a password of %d bytes)", k.kind, n), got, libraryStretch(t, k.library, password, salt, 3, 2*k.size+1))
		}
	}
}

func TestWrongStretch(t *testing.T) {
	cases := []struct {
		rounds, n int
		want      api.Errno
	}{
		{0, 4, api.ErrArg}, {-1, 4, api.ErrArg}, {math.MinInt, 4, api.ErrArg}, {0, 0, api.ErrArg},
		{1, -1, api.ErrArg}, {1, math.MinInt, api.ErrArg}, {1024, -1, api.ErrArg},
		{1025, 4, api.ErrBig}, {math.MaxInt, 4, api.ErrBig}, {1025, 0, api.ErrBig},
		{1, 1025, api.ErrBig}, {1, math.MaxInt, api.ErrBig}, {1025, 1025, api.ErrBig},
		{0, 1025, api.ErrArg}, {1025, -1, api.ErrArg}, {math.MaxInt, math.MinInt, api.ErrArg},
	}
	for _, k := range kinds {
		for _, c := range cases {
			b, e := sha.Stretch(k.kind, []byte("p"), []byte("s"), c.rounds, c.n)
			wantError(t, fmt.Sprintf("Stretch(%d, .., %d, %d)", k.kind, c.rounds, c.n), b, e, c.want)
		}
	}
}

// roomy: the bytes, and behind them spare room that is not 0.
func roomy(b []byte) []byte {
	list := joint(b, bytes.Repeat([]byte{0xa5}, 200))
	return list[:len(b)]
}

// wantStays: neither the list nor its spare room is changed by what the call does.
func wantStays(t *testing.T, what string, list []byte, call func(b []byte)) {
	t.Helper()
	given := roomy(list)
	kept := bytes.Clone(given[:cap(given)])
	call(given)
	wantBytes(t, what+" changes what is handed in", given[:cap(given)], kept)
}

func TestWhatIsHandedInStays(t *testing.T) {
	for _, k := range kinds {
		for _, n := range []int{0, 3, k.block - 1, k.block, k.block + 1, 3 * k.block} {
			list := letters(4, n)
			wantStays(t, "Sum", list, func(b []byte) { sha.Sum(k.kind, b) })
			wantStays(t, "Write", list, func(b []byte) {
				s := must[*sha.State](t)(sha.Begin(k.kind))
				s.Write(b)
				s.Sum()
				s.Write(b)
			})
			wantStays(t, "the key of Mac", list, func(b []byte) { sha.Mac(k.kind, b, []byte("text")) })
			wantStays(t, "the text of Mac", list, func(b []byte) { sha.Mac(k.kind, []byte("key"), b) })
			wantStays(t, "the salt of Extract", list, func(b []byte) { sha.Extract(k.kind, b, []byte("key")) })
			wantStays(t, "the key of Extract", list, func(b []byte) { sha.Extract(k.kind, []byte("salt"), b) })
			wantStays(t, "the key of Expand", list, func(b []byte) { sha.Expand(k.kind, b, []byte("info"), 100) })
			wantStays(t, "the info of Expand", list, func(b []byte) { sha.Expand(k.kind, []byte("key"), b, 100) })
			wantStays(t, "the password of Stretch", list, func(b []byte) { sha.Stretch(k.kind, b, []byte("salt"), 2, 100) })
			wantStays(t, "the salt of Stretch", list, func(b []byte) { sha.Stretch(k.kind, []byte("password"), b, 2, 100) })
		}
		wantStays(t, "Resume", letters(5, k.size), func(b []byte) {
			s, _ := sha.Resume(k.kind, b, 0)
			s.Write([]byte("more"))
			s.Sum()
		})
	}
}

func spoil(b []byte) {
	b = b[:cap(b)]
	for i := range b {
		b[i] ^= 0x5a
	}
}

func TestWhatIsHandedInIsNotKept(t *testing.T) {
	for _, k := range kinds {
		text := letters(6, k.block+9)
		s := must[*sha.State](t)(sha.Begin(k.kind))
		given := roomy(text)
		s.Write(given)
		spoil(given)
		wantBytes(t, "what was written", s.Sum(), librarySum(t, k.kind, text))
		if k.kind == 256 || k.kind == 512 {
			digest := letters(7, k.size)
			given = roomy(digest)
			s = must[*sha.State](t)(sha.Resume(k.kind, given, 0))
			spoil(given)
			want := libraryBehind(t, k.kind, digest, paddingOf(k.block, k.field, whole(0)))
			wantBytes(t, "what was gone on from", s.Sum(), want)
		}
	}
}

// wantNew: what a caller writes into an answer, and into its spare room, is not seen in the next one.
func wantNew(t *testing.T, what string, call func() []byte) {
	t.Helper()
	first := call()
	kept := bytes.Clone(first)
	spoil(first)
	wantBytes(t, what+" anew", call(), kept)
}

func TestWhatIsHandedOutIsTheCallers(t *testing.T) {
	m := must[[]byte](t)
	key, long := letters(1, 40), letters(2, 300)
	for _, k := range kinds {
		s := must[*sha.State](t)(sha.Begin(k.kind))
		s.Write(long)
		wantNew(t, "the state's Sum", s.Sum)
		wantNew(t, "Sum", func() []byte { return m(sha.Sum(k.kind, long)) })
		wantNew(t, "Padding", func() []byte { return m(sha.Padding(k.kind, 5)) })
		wantNew(t, "Mac", func() []byte { return m(sha.Mac(k.kind, key, long)) })
		wantNew(t, "Mac under a long key", func() []byte { return m(sha.Mac(k.kind, long, key)) })
		wantNew(t, "Extract", func() []byte { return m(sha.Extract(k.kind, key, long)) })
		wantNew(t, "Expand", func() []byte { return m(sha.Expand(k.kind, key, long, 100)) })
		wantNew(t, "Stretch", func() []byte { return m(sha.Stretch(k.kind, key, long, 2, 100)) })
	}
}

// An answer's spare room tells nothing that the answer does not: no word that a shorter digest lacks, no byte of a longer key.
func TestSpareRoomTellsNothing(t *testing.T) {
	m := must[[]byte](t)
	for _, k := range kinds {
		for what, b := range map[string][]byte{
			"Sum":     m(sha.Sum(k.kind, []byte("abc"))),
			"Mac":     m(sha.Mac(k.kind, []byte("key"), []byte("abc"))),
			"Expand":  m(sha.Expand(k.kind, []byte("key"), []byte("abc"), 5)),
			"Stretch": m(sha.Stretch(k.kind, []byte("key"), []byte("abc"), 2, 5)),
		} {
			room := b[len(b):cap(b)]
			wantBytes(t, fmt.Sprintf("%s of %d: the spare room", what, k.kind), room, make([]byte, len(room)))
		}
	}
}
