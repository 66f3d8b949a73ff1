package sha_test

import (
	"bytes"
	"crypto/sha256"
	"encoding/binary"
	"encoding/hex"
	"math"
	"math/big"
	"math/rand"
	"slices"
	"strings"
	"testing"

	"repertory/sha"
)

// noRoots are indices that no round constant has.
var noRoots = []int{-1, -2, -63, -64, 64, 65, 127, 128, 256, 1 << 32, math.MinInt, math.MinInt + 1, math.MaxInt}

// primes are the first n primes.
func primes(n int) []int64 {
	var list []int64
	for p := int64(2); len(list) < n; p++ {
		if !slices.ContainsFunc(list, func(q int64) bool { return p%q == 0 }) {
			list = append(list, p)
		}
	}
	return list
}

// fraction is the first 32 bits of the fractional part of the root of p with that degree.
func fraction(p int64, degree uint) uint32 {
	scaled := new(big.Int).Lsh(big.NewInt(p), 32*degree)
	root := new(big.Int)
	for i := 40; i >= 0; i-- { // bit by bit, the greatest number whose power does not exceed scaled
		root.SetBit(root, i, 1)
		if new(big.Int).Exp(root, big.NewInt(int64(degree)), nil).Cmp(scaled) > 0 {
			root.SetBit(root, i, 0)
		}
	}
	return uint32(root.Uint64())
}

// rotated is v with its bits moved right by n positions, one by one.
func rotated(v uint32, n int) uint32 {
	for range n {
		v = v>>1 + v%2*(1<<31)
	}
	return v
}

// combined makes a number bit by bit from the bits of others.
func combined(f func(a, b, c bool) bool, a, b, c uint32) uint32 {
	var v uint32
	for i := range 32 {
		if f(a>>i&1 == 1, b>>i&1 == 1, c>>i&1 == 1) {
			v |= 1 << i
		}
	}
	return v
}

func chosen(e, f, g bool) bool {
	if e {
		return f
	}
	return g
}

func most(a, b, c bool) bool { return a && b || a && c || b && c }

// processed is the state after a block by its definition.
func processed(s [8]uint32, b []byte) [8]uint32 {
	var w []uint32
	for i := range 16 {
		w = append(w, binary.BigEndian.Uint32(b[4*i:]))
	}
	for i := 16; i < 64; i++ {
		s := rotated(w[i-15], 7) ^ rotated(w[i-15], 18) ^ w[i-15]/8
		t := rotated(w[i-2], 17) ^ rotated(w[i-2], 19) ^ w[i-2]/1024
		w = append(w, w[i-16]+w[i-7]+s+t)
	}
	r := s
	for i, p := range primes(64) {
		x := r[7] + (rotated(r[4], 6) ^ rotated(r[4], 11) ^ rotated(r[4], 25)) + combined(chosen, r[4], r[5], r[6]) + fraction(p, 3) + w[i]
		y := (rotated(r[0], 2) ^ rotated(r[0], 13) ^ rotated(r[0], 22)) + combined(most, r[0], r[1], r[2])
		r = [8]uint32{x + y, r[0], r[1], r[2], r[3] + x, r[4], r[5], r[6]}
	}
	for i := range s {
		s[i] += r[i]
	}
	return s
}

// padding is that of a message of n bytes, by its definition.
func padding(n int) []byte {
	b := []byte{128}
	for (n+len(b))%64 != 56 {
		b = append(b, 0)
	}
	return binary.BigEndian.AppendUint64(b, 8*uint64(n))
}

// states are those with equal numbers, the initial one, and some others.
func states() [][8]uint32 {
	random := rand.New(rand.NewSource(41))
	list := [][8]uint32{{}, sha.Begin(), {1, 2, 3, 4, 5, 6, 7, 8}}
	var ones [8]uint32
	for i := range ones {
		ones[i] = math.MaxUint32
	}
	list = append(list, ones)
	for range 6 {
		var s [8]uint32
		for i := range s {
			s[i] = random.Uint32()
		}
		list = append(list, s)
	}
	return list
}

// blocks are some of 64 bytes.
func blocks() [][]byte {
	random := rand.New(rand.NewSource(42))
	list := [][]byte{make([]byte, 64), bytes.Repeat([]byte{255}, 64), bytes.Repeat([]byte("block of"), 8)}
	for _, i := range []int{0, 3, 4, 31, 32, 63} {
		b := make([]byte, 64)
		b[i] = 1
		list = append(list, b)
	}
	for range 4 {
		b := make([]byte, 64)
		random.Read(b)
		list = append(list, b)
	}
	return list
}

// message has n bytes, the same ones each time.
func message(n int) []byte {
	b := make([]byte, n)
	rand.New(rand.NewSource(int64(n))).Read(b)
	return b
}

// sums are hashes written out.
func sums() map[string]string {
	return map[string]string{
		"":    "e3b0c44298fc1c149afbf4c8996fb92427ae41e4649b934ca495991b7852b855",
		"a":   "ca978112ca1bbdcafac231b39a23dc4da786eff8147c4e72b9807785afee48bb",
		"abc": "ba7816bf8f01cfea414140de5dae2223b00361a396177a9cb410ff61f20015ad",
		"The quick brown fox jumps over the lazy dog":                                                                      "d7a8fbb307d7809469ca9abcb0082e4f8d5651e46d3cdb762d02d0bf37c9e592",
		"abcdbcdecdefdefgefghfghighijhijkijkljklmklmnlmnomnopnopq":                                                         "248d6a61d20638b8e5c026930c3e6039a33ce45964ff2167f6ecedd419db06c1",
		"abcdefghbcdefghicdefghijdefghijkefghijklfghijklmghijklmnhijklmnoijklmnopjklmnopqklmnopqrlmnopqrsmnopqrstnopqrstu": "cf5b16a778af8380036ce59e7b0492370b249b11e8f07a51afac45037afee9d1",
		strings.Repeat("a", 1000000):                                                                                       "cdc76e5c9914fb9281a1c7e284d73e67f1809a48a497200e046d39ccc7112cd0",
	}
}

func checkSum(t *testing.T, got [32]byte, want string) {
	t.Helper()
	if hex.EncodeToString(got[:]) != want {
		t.Fatalf("the hash is %x, not %s", got, want)
	}
}

// checkHash asks a hash of b for all that it tells.
func checkHash(t *testing.T, h *sha.Hash, b []byte) {
	t.Helper()
	if got, want := h.Sum(), sha256.Sum256(b); got != want {
		t.Fatalf("the hash of %d bytes is %x, not %x", len(b), got, want)
	}
	if h.Len() != len(b) {
		t.Fatalf("Len is %d, not %d", h.Len(), len(b))
	}
}

// Promise 4.1.

func TestRootsByDefinition(t *testing.T) {
	for i, p := range primes(64) {
		if got, want := sha.Root(i), fraction(p, 3); got != want {
			t.Errorf("round constant %d is %08x, not %08x", i, got, want)
		}
	}
}

func TestRootsWrittenOut(t *testing.T) {
	for i, want := range map[int]uint32{0: 0x428a2f98, 1: 0x71374491, 31: 0x14292967, 32: 0x27b70a85, 62: 0xbef9a3f7, 63: 0xc67178f2} {
		if got := sha.Root(i); got != want {
			t.Errorf("round constant %d is %08x, not %08x", i, got, want)
		}
	}
}

func TestRootOfOtherIndices(t *testing.T) {
	for _, i := range noRoots {
		if got := sha.Root(i); got != 0 {
			t.Errorf("Root(%d) is %08x", i, got)
		}
	}
}

func TestBeginByDefinition(t *testing.T) {
	begin := sha.Begin()
	for i, p := range primes(8) {
		if want := fraction(p, 2); begin[i] != want {
			t.Errorf("number %d of the initial state is %08x, not %08x", i, begin[i], want)
		}
	}
	if begin[0] != 0x6a09e667 || begin[7] != 0x5be0cd19 {
		t.Errorf("the initial state is %08x", begin)
	}
}

func TestBlockByDefinition(t *testing.T) {
	for _, s := range states() {
		for _, b := range blocks() {
			got, ok := sha.Block(s, b)
			if want := processed(s, b); !ok || got != want {
				t.Fatalf("the block %x in state %08x gives %08x, %v, not %08x", b, s, got, ok, want)
			}
		}
	}
}

func TestBlockWrittenOut(t *testing.T) {
	b := append([]byte("abc"), make([]byte, 61)...)
	b[3], b[63] = 128, 24
	got, ok := sha.Block(sha.Begin(), b)
	want := [8]uint32{0xba7816bf, 0x8f01cfea, 0x414140de, 0x5dae2223, 0xb00361a3, 0x96177a9c, 0xb410ff61, 0xf20015ad}
	if !ok || got != want {
		t.Fatalf("the block of abc gives %08x, %v", got, ok)
	}
}

func TestBlockOfOtherLengths(t *testing.T) {
	lengths := []int{0, 1, 8, 32, 62, 63, 65, 66, 72, 127, 128, 192, 4096}
	for _, s := range states() {
		for _, n := range lengths {
			if got, ok := sha.Block(s, make([]byte, n)); ok || got != [8]uint32{} {
				t.Fatalf("%d bytes give %08x, %v", n, got, ok)
			}
		}
		if got, ok := sha.Block(s, nil); ok || got != [8]uint32{} {
			t.Fatalf("no bytes give %08x, %v", got, ok)
		}
		if got, ok := sha.Block(s, make([]byte, 63, 64)); ok || got != [8]uint32{} {
			t.Fatalf("63 bytes with room for 64 give %08x, %v", got, ok)
		}
	}
}

func TestFillByDefinition(t *testing.T) {
	lengths := []int{1000, 1 << 16, 1<<20 - 1, 1 << 28, 1<<29 - 1, 1 << 29, 1<<29 + 1, 1<<31 - 1, 1 << 32, 1<<40 + 55, 1<<40 + 56, 1<<61 - 1}
	for n := range 300 {
		lengths = append(lengths, n)
	}
	for _, n := range lengths {
		if got, want := sha.Fill(n), padding(n); !bytes.Equal(got, want) {
			t.Fatalf("the padding of %d bytes is %v, not %v", n, got, want)
		}
	}
}

func TestFillWrittenOut(t *testing.T) {
	for n, want := range map[int][]byte{
		0:        append([]byte{128}, make([]byte, 63)...),
		55:       {128, 0, 0, 0, 0, 0, 0, 1, 184},
		56:       append(append([]byte{128}, make([]byte, 69)...), 1, 192),
		54:       {128, 0, 0, 0, 0, 0, 0, 0, 1, 176},
		64 + 55:  {128, 0, 0, 0, 0, 0, 0, 3, 184},
		256 + 55: {128, 0, 0, 0, 0, 0, 0, 9, 184},
	} {
		if got := sha.Fill(n); !bytes.Equal(got, want) {
			t.Errorf("the padding of %d bytes is %v, not %v", n, got, want)
		}
	}
}

func TestFillMakesWholeBlocks(t *testing.T) {
	for _, n := range []int{math.MaxInt, math.MaxInt - 1, math.MaxInt - 7, math.MaxInt - 8, math.MaxInt - 9, math.MaxInt - 63, math.MaxInt - 64} {
		fill := sha.Fill(n)
		if len(fill) < 9 || len(fill) > 72 || (n%64+len(fill))%64 != 0 || fill[0] != 128 {
			t.Errorf("the padding of %d bytes is %v", n, fill)
		}
	}
}

func TestFillOfNegative(t *testing.T) {
	for _, n := range []int{-1, -8, -9, -55, -56, -64, -128, math.MinInt, math.MinInt + 1} {
		if got := sha.Fill(n); got != nil {
			t.Errorf("the padding of %d bytes is %v", n, got)
		}
	}
}

// Promise 4.1 with rule R3.

func TestFillIsNew(t *testing.T) {
	for _, n := range []int{0, 3, 55, 56} {
		one, want := sha.Fill(n), padding(n)
		for i := range one {
			one[i]++
		}
		_ = append(one, 1)
		if two := sha.Fill(n); !bytes.Equal(two, want) {
			t.Fatalf("a changed padding changes later ones: %v", two)
		}
	}
	checkSum(t, sha.Of(), sums()[""])
}

func TestStatesAreCopies(t *testing.T) {
	begin := sha.Begin()
	b := bytes.Repeat([]byte("12345678"), 8)
	next, _ := sha.Block(begin, b)
	if begin != sha.Begin() || string(b) != strings.Repeat("12345678", 8) {
		t.Fatal("Block changed its arguments")
	}
	begin[0], next[0] = 0, 0
	if again, _ := sha.Block(sha.Begin(), b); again != processed(sha.Begin(), b) {
		t.Fatal("a changed state changes later ones")
	}
}

// Promise 4.2.

func TestSumsWrittenOut(t *testing.T) {
	for s, want := range sums() {
		checkSum(t, sha.Of([]byte(s)), want)
	}
}

func TestSumsOfAllLengths(t *testing.T) {
	for n := range 400 {
		if got, want := sha.Of(message(n)), sha256.Sum256(message(n)); got != want {
			t.Fatalf("the hash of %d bytes is %x, not %x", n, got, want)
		}
	}
}

func TestSumsByDefinition(t *testing.T) {
	for _, n := range []int{0, 1, 55, 56, 63, 64, 65, 119, 120, 128, 300} {
		padded := append(message(n), padding(n)...)
		s := sha.Begin()
		for ; len(padded) > 0; padded = padded[64:] {
			s = processed(s, padded[:64])
		}
		var want []byte
		for _, v := range s {
			want = binary.BigEndian.AppendUint32(want, v)
		}
		checkSum(t, sha.Of(message(n)), hex.EncodeToString(want))
	}
}

func TestSumOfNothing(t *testing.T) {
	for _, parts := range [][][]byte{nil, {}, {nil}, {{}}, {nil, {}, nil}} {
		checkSum(t, sha.Of(parts...), sums()[""])
	}
}

func TestSumOfParts(t *testing.T) {
	b := message(150)
	want := sha256.Sum256(b)
	for one := range len(b) + 1 {
		for two := one; two <= len(b); two++ {
			if got := sha.Of(b[:one], nil, b[one:two], []byte{}, b[two:]); got != want {
				t.Fatalf("parted at %d and %d, the hash is %x, not %x", one, two, got, want)
			}
		}
	}
	var single [][]byte
	for i := range b {
		single = append(single, b[i:i+1])
	}
	if got := sha.Of(single...); got != want {
		t.Fatalf("of parts with one byte each, the hash is %x, not %x", got, want)
	}
}

func TestSumOfPartsIsInOrder(t *testing.T) {
	one, two := []byte("one"), []byte("two")
	if sha.Of(one, two) != sha.Of([]byte("onetwo")) || sha.Of(two, one) != sha.Of([]byte("twoone")) {
		t.Fatal("the parts are not hashed in order")
	}
	if sha.Of(one, two) == sha.Of(two, one) {
		t.Fatal("the order of the parts makes no difference")
	}
}

func TestZerosCount(t *testing.T) {
	seen := map[[32]byte]int{}
	for n := range 200 {
		sum := sha.Of(make([]byte, n))
		if other, ok := seen[sum]; ok {
			t.Fatalf("%d and %d zeros have the same hash", n, other)
		}
		seen[sum] = n
	}
}

func TestPaddedMessageIsAnotherOne(t *testing.T) {
	for _, n := range []int{0, 3, 55, 56, 64} {
		if padded := append(message(n), sha.Fill(n)...); sha.Of(padded) == sha.Of(message(n)) {
			t.Fatalf("%d bytes have the same hash with and without their padding", n)
		}
	}
}

// Promise 4.2 with rules R3 and R4.

func TestArgumentsStay(t *testing.T) {
	whole := append(make([]byte, 0, 200), message(100)...)
	parts := [][]byte{whole[:70], nil, whole[70:]}
	want := sha256.Sum256(whole)
	for range 3 {
		if sha.Of(parts...) != want {
			t.Fatal("the hash changes from call to call")
		}
	}
	if !bytes.Equal(whole[:200], append(message(100), make([]byte, 100)...)) {
		t.Fatalf("the bytes became %v", whole[:200])
	}
	if len(parts[0]) != 70 || parts[1] != nil || len(parts[2]) != 30 {
		t.Fatalf("the parts became %v", parts)
	}
}

// Promise 4.3.

func TestNewIsEmpty(t *testing.T) {
	checkHash(t, sha.New(), nil)
	checkSum(t, sha.New().Sum(), sums()[""])
}

func TestWriteOfNothing(t *testing.T) {
	h := sha.New()
	h.Write()
	h.Write(nil...)
	h.Write([]byte{}...)
	checkHash(t, h, nil)
	h.Write(1)
	h.Write()
	checkHash(t, h, []byte{1})
}

func TestWriteByteByByte(t *testing.T) {
	b := message(400)
	h := sha.New()
	for i, next := range b {
		h.Write(next)
		checkHash(t, h, b[:i+1])
	}
}

func TestWritesOfEveryLength(t *testing.T) {
	b := message(600)
	for length := 1; length <= 200; length++ {
		h := sha.New()
		for at := 0; at < len(b); at += length {
			h.Write(b[at:min(at+length, len(b))]...)
		}
		checkHash(t, h, b)
	}
}

func TestWritesInTwo(t *testing.T) {
	b := message(200)
	for at := range len(b) + 1 {
		h := sha.New()
		h.Write(b[:at]...)
		checkHash(t, h, b[:at])
		h.Write(b[at:]...)
		checkHash(t, h, b)
	}
}

func TestWriteOfManyBytes(t *testing.T) {
	b := bytes.Repeat([]byte("a"), 1000000)
	h := sha.New()
	h.Write(b...)
	checkSum(t, h.Sum(), sums()[string(b)])
	if h.Len() != 1000000 {
		t.Fatalf("Len is %d", h.Len())
	}
	h.Write(b...)
	checkHash(t, h, append(b, b...))
}

func TestSumChangesNothing(t *testing.T) {
	h := sha.New()
	h.Write(message(70)...)
	for range 3 {
		checkHash(t, h, message(70))
	}
	sum := h.Sum()
	clear(sum[:])
	h.Write(7)
	checkHash(t, h, append(message(70), 7))
}

func TestHashesAreApart(t *testing.T) {
	one, two := sha.New(), sha.New()
	one.Write(message(70)...)
	two.Write(message(9)...)
	one.Write(1)
	checkHash(t, two, message(9))
	checkHash(t, one, append(message(70), 1))
	checkHash(t, sha.New(), nil)
}

func TestNilHash(t *testing.T) {
	var h *sha.Hash
	for _, b := range [][]byte{nil, {1}, message(64), message(200)} {
		h.Write(b...)
		checkHash(t, h, nil)
	}
}

// Promise 4.3 with rule R3.

func TestWriteKeepsAndChangesNoArgument(t *testing.T) {
	b := append(make([]byte, 0, 300), message(150)...)
	h := sha.New()
	h.Write(b...)
	h.Write(5)
	h.Sum()
	if !bytes.Equal(b[:300], append(message(150), make([]byte, 150)...)) {
		t.Fatalf("the argument became %v", b[:300])
	}
	clear(b)
	checkHash(t, h, append(message(150), 5))
}
