package crc_test

import (
	"bytes"
	"encoding/binary"
	"hash/crc32"
	"math/rand"
	"strings"
	"testing"

	"repertory/crc"
)

// processed is the register behind bytes by its definition, bit by bit.
func processed(reg uint32, b []byte) uint32 {
	for _, next := range b {
		for i := range 8 {
			differs := uint32(next)>>i&1 != reg&1
			reg >>= 1
			if differs {
				reg ^= 0xedb88320
			}
		}
	}
	return reg
}

// registers are those with one bit, without one, and some others.
func registers() []uint32 {
	list := []uint32{0, 0xffffffff, 0xedb88320, 0x12345678, 0xdeadbeef, 0xaaaaaaaa, 0x55555555, 255, 0xffffff00}
	for i := range 32 {
		list = append(list, 1<<i, ^(uint32(1) << i))
	}
	return list
}

// samples are byte sequences of many lengths, the same ones each time.
func samples() [][]byte {
	random := rand.New(rand.NewSource(3))
	list := [][]byte{nil, {}, {0}, {255}, make([]byte, 40), bytes.Repeat([]byte{255}, 40)}
	for n := range 70 {
		b := make([]byte, n)
		random.Read(b)
		list = append(list, b)
	}
	all := make([]byte, 256)
	for i := range all {
		all[i] = byte(i)
	}
	return append(list, all, bytes.Repeat(all, 300))
}

// sums are checksums written out.
func sums() map[string]uint32 {
	return map[string]uint32{
		"":                         0,
		"\x00":                     0xd202ef8d,
		"\x00\x00\x00\x00":         0x2144df1c,
		"\x01":                     0xa505df1b,
		"\x80":                     0x3fba6cad,
		"\xff":                     0xff000000,
		"\xff\xff\xff\xff":         0xffffffff,
		"a":                        0xe8b7be43,
		"abc":                      0x352441c2,
		"123456789":                0xcbf43926,
		"message digest":           0x20159d7f,
		strings.Repeat("\x00", 32): 0x190a55ad,
		strings.Repeat("\xff", 32): 0xff6cab0b,
		"The quick brown fox jumps over the lazy dog": 0x414fa339,
	}
}

// invert inverts the bits of b at which pattern has ones, from the bit at on.
func invert(b []byte, at int, pattern uint64) {
	for i := range 64 {
		if pattern>>i&1 != 0 {
			b[(at+i)/8] ^= 1 << ((at + i) % 8)
		}
	}
}

// Promise 3.1.

func TestSumsWrittenOut(t *testing.T) {
	for s, want := range sums() {
		if got := crc.Of([]byte(s)); got != want {
			t.Errorf("the checksum of %q is %08x, not %08x", s, got, want)
		}
	}
}

func TestSumsByDefinition(t *testing.T) {
	for _, b := range samples() {
		want := ^processed(0xffffffff, b)
		if got := crc.Of(b); got != want {
			t.Errorf("the checksum of %d bytes is %08x, not %08x", len(b), got, want)
		}
		if want != crc32.ChecksumIEEE(b) {
			t.Errorf("the definition of %d bytes gives %08x", len(b), want)
		}
	}
}

func TestSumOfNothing(t *testing.T) {
	if crc.Of() != 0 || crc.Of(nil) != 0 || crc.Of([]byte{}) != 0 || crc.Of(nil, []byte{}, nil) != 0 || crc.Of([][]byte{}...) != 0 {
		t.Fatal("no bytes have a checksum other than 0")
	}
}

func TestSumOfParts(t *testing.T) {
	b := []byte("The quick brown fox jumps over the lazy dog")
	for one := range len(b) + 1 {
		for two := one; two <= len(b); two++ {
			if got := crc.Of(b[:one], b[one:two], b[two:]); got != 0x414fa339 {
				t.Fatalf("parted at %d and %d, the checksum is %08x", one, two, got)
			}
			if got := crc.Of(nil, b[:one], nil, []byte{}, b[one:two], b[two:], nil); got != 0x414fa339 {
				t.Fatalf("parted at %d and %d, with empty parts, the checksum is %08x", one, two, got)
			}
		}
	}
	var single [][]byte
	for i := range b {
		single = append(single, b[i:i+1])
	}
	if got := crc.Of(single...); got != 0x414fa339 {
		t.Fatalf("of parts with one byte each, the checksum is %08x", got)
	}
}

func TestSumOfPartsIsInOrder(t *testing.T) {
	if crc.Of([]byte("6789"), []byte("12345")) != crc.Of([]byte("678912345")) {
		t.Fatal("the parts are not processed in order")
	}
	if crc.Of([]byte("6789"), []byte("12345")) == crc.Of([]byte("12345"), []byte("6789")) {
		t.Fatal("the order of the parts makes no difference")
	}
}

func TestBegin(t *testing.T) {
	if crc.Begin() != 0xffffffff {
		t.Fatalf("the initial register is %08x", crc.Begin())
	}
}

func TestEnd(t *testing.T) {
	for _, reg := range registers() {
		if got := crc.End(reg); got != 0xffffffff-reg {
			t.Errorf("End(%08x) is %08x", reg, got)
		}
	}
	if crc.End(crc.Begin()) != 0 {
		t.Error("the initial register has a checksum other than 0")
	}
}

func TestStepByDefinition(t *testing.T) {
	for _, reg := range registers() {
		for _, b := range samples()[:40] {
			if got, want := crc.Step(reg, b...), processed(reg, b); got != want {
				t.Fatalf("Step(%08x, %v) is %08x, not %08x", reg, b, got, want)
			}
		}
	}
}

func TestStepOfEveryByte(t *testing.T) {
	for _, reg := range registers() {
		for i := range 256 {
			if got, want := crc.Step(reg, byte(i)), processed(reg, []byte{byte(i)}); got != want {
				t.Fatalf("Step(%08x, %d) is %08x, not %08x", reg, i, got, want)
			}
		}
	}
}

func TestStepOfNothing(t *testing.T) {
	for _, reg := range registers() {
		if crc.Step(reg) != reg || crc.Step(reg, nil...) != reg || crc.Step(reg, []byte{}...) != reg {
			t.Fatalf("the register %08x becomes %08x without a byte", reg, crc.Step(reg))
		}
	}
}

func TestStepsMakeTheSum(t *testing.T) {
	for s, want := range sums() {
		reg := crc.Begin()
		for i := range len(s) {
			reg = crc.Step(reg, s[i])
		}
		if got := crc.End(reg); got != want {
			t.Errorf("the checksum of %q is %08x byte by byte", s, got)
		}
		for i := range len(s) {
			reg := crc.Step(crc.Begin(), []byte(s[:i])...)
			if got := crc.End(crc.Step(reg, []byte(s[i:])...)); got != want {
				t.Errorf("the checksum of %q is %08x, parted at %d", s, got, i)
			}
		}
	}
}

// Promise 3.1 with rules R3 and R4.

func TestArgumentsStay(t *testing.T) {
	whole := append(make([]byte, 0, 20), "123456789"...)
	parts := [][]byte{whole[:5], nil, whole[5:]}
	for range 3 {
		if crc.Of(parts...) != 0xcbf43926 || crc.End(crc.Step(crc.Begin(), whole...)) != 0xcbf43926 {
			t.Fatal("the checksum changes from call to call")
		}
	}
	if string(whole[:10]) != "123456789\x00" || string(parts[0]) != "12345" || parts[1] != nil || string(parts[2]) != "6789" {
		t.Fatalf("the arguments became %q of %q", parts, whole[:20])
	}
}

// Promise 3.2.

func TestTableByDefinition(t *testing.T) {
	table := crc.Table()
	for i, got := range table {
		if want := processed(uint32(i), []byte{0}); got != want {
			t.Errorf("entry %d is %08x, not %08x", i, got, want)
		}
		if got != crc32.IEEETable[i] || got != crc.Step(uint32(i), 0) {
			t.Errorf("entry %d is %08x, and Step gives %08x", i, got, crc.Step(uint32(i), 0))
		}
	}
}

func TestTableWrittenOut(t *testing.T) {
	table := crc.Table()
	for i, want := range map[int]uint32{0: 0, 1: 0x77073096, 2: 0xee0e612c, 3: 0x990951ba, 127: 0xc0ba6cad, 128: 0xedb88320, 254: 0x5a05df1b, 255: 0x2d02ef8d} {
		if table[i] != want {
			t.Errorf("entry %d is %08x, not %08x", i, table[i], want)
		}
	}
}

// Promise 3.2 with rule R3.

func TestTableIsNew(t *testing.T) {
	table := crc.Table()
	clear(table[:])
	if again := crc.Table(); again[1] != 0x77073096 || crc.Of([]byte("123456789")) != 0xcbf43926 {
		t.Fatal("a changed table changes later results")
	}
}

// Promise 3.3.

func TestPairsOfBitsAreDetected(t *testing.T) {
	b := []byte("twelve bytes")
	sum := crc.Of(b)
	for at := range 8 * len(b) {
		for distance := range min(32, 8*len(b)-at) {
			pattern := 1 | uint64(1)<<distance
			invert(b, at, pattern)
			if crc.Of(b) == sum {
				t.Fatalf("inverted bits %d and %d are not detected", at, at+distance)
			}
			invert(b, at, pattern)
		}
	}
	if crc.Of(b) != sum || string(b) != "twelve bytes" {
		t.Fatal("the bytes do not stand")
	}
}

func TestBurstsAreDetected(t *testing.T) {
	random := rand.New(rand.NewSource(33))
	for range 200 {
		b := make([]byte, 4+random.Intn(60))
		random.Read(b)
		sum := crc.Of(b)
		for range 200 {
			pattern := uint64(random.Uint32())>>random.Intn(32) | 1
			at := random.Intn(8*len(b) - 31)
			invert(b, at, pattern)
			if crc.Of(b) == sum {
				t.Fatalf("inverted bits %x from %d on are not detected", pattern, at)
			}
			invert(b, at, pattern)
		}
	}
}

func TestShortSequencesHaveDifferentSums(t *testing.T) {
	seen := map[uint32]bool{}
	for i := range 1 << 16 { // All differ within 16 bits.
		sum := crc.Of([]byte{7, byte(i), byte(i >> 8), 7})
		if seen[sum] {
			t.Fatalf("the checksum %08x occurs twice", sum)
		}
		seen[sum] = true
	}
}

func TestFirstUndetectedDifferenceHas33Bits(t *testing.T) {
	// The polynomial, with the bit that its form in the register leaves out: the shortest difference that the definition cannot detect.
	const pattern = uint64(0xedb88320)<<1 | 1
	b := []byte("some bytes that stand")
	sum := crc.Of(b)
	for at := range 8*len(b) - 32 {
		invert(b, at, pattern)
		if crc.Of(b) != sum {
			t.Fatalf("from %d on the checksum is not that of the definition", at)
		}
		invert(b, at, pattern)
		invert(b, at, pattern&^1)
		if crc.Of(b) == sum {
			t.Fatalf("32 bits from %d on are not detected", at+1)
		}
		invert(b, at, pattern&^1)
	}
}

// Promise 3.4.

func TestSequenceWithItsSum(t *testing.T) {
	for _, b := range samples() {
		sum := crc.Of(b)
		tail := []byte{byte(sum), byte(sum >> 8), byte(sum >> 16), byte(sum >> 24)}
		if got := crc.Of(b, tail); got != 0x2144df1c {
			t.Fatalf("%d bytes and their checksum have the checksum %08x", len(b), got)
		}
		whole := binary.LittleEndian.AppendUint32(bytes.Clone(b), sum)
		if got := crc.Of(whole); got != 0x2144df1c {
			t.Fatalf("%d bytes followed by their checksum have the checksum %08x", len(b), got)
		}
		for i := range tail {
			tail[i]++
			if crc.Of(b, tail) == 0x2144df1c {
				t.Fatalf("%d bytes with another checksum pass", len(b))
			}
			tail[i]--
		}
	}
}
