package seven_test

import (
	"bytes"
	"math"
	"math/rand"
	"testing"

	"repertory/api"
	"repertory/seven"
)

// pairs are bytes with their packed forms written out.
func pairs() map[string]string {
	return map[string]string{
		"":                 "",
		"\x00":             "\x80\x80",
		"\x01":             "\x81\x80",
		"\x40":             "\xc0\x80",
		"\x7f":             "\xff\x80",
		"\x80":             "\x80\x81",
		"\xff":             "\xff\x81",
		"\x00\x00":         "\x80\x80\x80",
		"\x01\x02":         "\x81\x84\x80",
		"\xff\xff":         "\xff\xff\x83",
		"\x80\x80":         "\x80\x81\x82",
		"123456":           "\xb1\xe4\xcc\xa1\xd3\xc6\x8d",
		"1234567":          "\xb1\xe4\xcc\xa1\xd3\xc6\xcd\x9b",
		"12345678":         "\xb1\xe4\xcc\xa1\xd3\xc6\xcd\x9b\xb8\x80",
		"\n\n":             "\x8a\x94\x80",
		"\x00\x00\x00\xff": "\x80\x80\x80\xf8\x8f",
	}
}

// bitsOf are the lowest width bits of each byte in order, from the lowest one on.
func bitsOf(b []byte, width int) []bool {
	var list []bool
	for _, v := range b {
		for i := 0; i < width; i++ {
			list = append(list, v%2 == 1)
			v /= 2
		}
	}
	return list
}

// joined are the bytes with these bits, width in each; zeros fill the last one.
func joined(bits []bool, width int) []byte {
	var list []byte
	for at := 0; at < len(bits); at += width {
		var v byte
		for i, bit := range bits[at:min(at+width, len(bits))] {
			if bit {
				v += byte(1 << i)
			}
		}
		list = append(list, v)
	}
	return list
}

// packed is the packed form of b by its definition.
func packed(b []byte) []byte {
	list := joined(bitsOf(b, 8), 7)
	for i := range list {
		list[i] += 128
	}
	return list
}

// samples are byte sequences of many lengths, the same ones each time.
func samples() [][]byte {
	random := rand.New(rand.NewSource(6))
	list := [][]byte{nil, {}, make([]byte, 40), bytes.Repeat([]byte{255}, 40), bytes.Repeat([]byte{128}, 21), bytes.Repeat([]byte{1}, 22)}
	for n := range 70 {
		b := make([]byte, n)
		random.Read(b)
		list = append(list, b)
	}
	return append(list, allBytes())
}

// allBytes are the 256 bytes in order.
func allBytes() []byte {
	all := make([]byte, 256)
	for i := range all {
		all[i] = byte(i)
	}
	return all
}

// checkPair expects form to be the packed form of b, and of nothing else.
func checkPair(t *testing.T, b, form []byte) {
	t.Helper()
	if got := seven.Pack(b); !bytes.Equal(got, form) {
		t.Fatalf("the packed form of %x is %x, not %x", b, got, form)
	}
	if got := seven.Len(len(b)); got != len(form) {
		t.Fatalf("the length of the packed form of %d bytes is %d, not %d", len(b), got, len(form))
	}
	if got, ok := seven.Unpack(form); !ok || !bytes.Equal(got, b) {
		t.Fatalf("the bytes with the packed form %x are %x, %v, not %x", form, got, ok, b)
	}
	if !seven.Whole(form) {
		t.Fatalf("the packed form %x is not whole", form)
	}
}

// checkNone expects b to be the packed form of no bytes.
func checkNone(t *testing.T, b []byte) {
	t.Helper()
	if got, ok := seven.Unpack(b); ok || got != nil {
		t.Fatalf("the bytes with the packed form %x are %x, %v", b, got, ok)
	}
}

// Promises 6.1 and 6.2.

func TestPairsWrittenOut(t *testing.T) {
	for b, form := range pairs() {
		checkPair(t, []byte(b), []byte(form))
	}
}

func TestSamplesByDefinition(t *testing.T) {
	for _, b := range samples() {
		checkPair(t, b, packed(b))
	}
}

func TestEveryByte(t *testing.T) {
	for _, v := range allBytes() {
		checkPair(t, []byte{v}, packed([]byte{v}))
		for _, at := range []int{0, 3, 6, 7, 8} {
			b := []byte("some bytes")
			b[at] = v
			checkPair(t, b, packed(b))
		}
	}
}

func TestEveryBit(t *testing.T) {
	for n := 1; n <= 16; n++ {
		for at := range 8 * n {
			b := make([]byte, n)
			b[at/8] = 1 << (at % 8)
			checkPair(t, b, packed(b))
			if form := seven.Pack(b); form[at/7] != 128|1<<(at%7) {
				t.Fatalf("bit %d of %d bytes is packed as %x", at, n, form)
			}
		}
	}
}

func TestNothing(t *testing.T) {
	checkPair(t, nil, nil)
	checkPair(t, []byte{}, []byte{})
}

func TestManyBytes(t *testing.T) {
	b := make([]byte, api.MaxFile+1)
	rand.New(rand.NewSource(61)).Read(b)
	for _, n := range []int{api.MaxFile - 1, api.MaxFile, api.MaxFile + 1} {
		form := packed(b[:n])
		if got := seven.Pack(b[:n]); !bytes.Equal(got, form) {
			t.Fatalf("the packed form of %d bytes is another one", n)
		}
		if got, ok := seven.Unpack(form); !ok || !bytes.Equal(got, b[:n]) {
			t.Fatalf("a packed form of %d bytes gives %d bytes, %v", n, len(got), ok)
		}
		if !seven.Whole(form) {
			t.Fatalf("the packed form of %d bytes is not whole", n)
		}
		form[len(form)-1] = 0
		if got, ok := seven.Unpack(form); ok || got != nil || seven.Whole(form) {
			t.Fatalf("without its last byte, a packed form of %d bytes gives %d bytes, %v", n, len(got), ok)
		}
	}
}

// Promise 6.1.

func TestPackOfNoParts(t *testing.T) {
	for _, parts := range [][][]byte{nil, {}, {nil}, {{}}, {nil, {}, nil}} {
		if got := seven.Pack(parts...); len(got) != 0 {
			t.Fatalf("the packed form of the parts %v is %x", parts, got)
		}
	}
}

func TestPackOfParts(t *testing.T) {
	b := []byte("The quick brown fox")
	want := packed(b)
	for one := range len(b) + 1 {
		for two := one; two <= len(b); two++ {
			if got := seven.Pack(b[:one], nil, b[one:two], []byte{}, b[two:]); !bytes.Equal(got, want) {
				t.Fatalf("parted at %d and %d, the packed form is %x, not %x", one, two, got, want)
			}
		}
	}
	var single [][]byte
	for i := range b {
		single = append(single, b[i:i+1])
	}
	if got := seven.Pack(single...); !bytes.Equal(got, want) {
		t.Fatalf("of parts with one byte each, the packed form is %x, not %x", got, want)
	}
}

func TestPackOfPartsIsInOrder(t *testing.T) {
	one, two := []byte("one"), []byte("two")
	if !bytes.Equal(seven.Pack(one, two), packed([]byte("onetwo"))) || !bytes.Equal(seven.Pack(two, one), packed([]byte("twoone"))) {
		t.Fatal("the parts are not packed in order")
	}
}

func TestPackOfPartsHasNoGaps(t *testing.T) {
	if got := seven.Pack([]byte{255}, []byte{255}); string(got) != "\xff\xff\x83" {
		t.Fatalf("the packed form of two parts is %x", got)
	}
}

func TestLenByDefinition(t *testing.T) {
	for n := 0; n <= api.MaxFile; n++ {
		groups := 8 * n / 7
		if 8*n%7 > 0 {
			groups++
		}
		if got := seven.Len(n); got != groups {
			t.Fatalf("the length of the packed form of %d bytes is %d, not %d", n, got, groups)
		}
	}
}

func TestLenWrittenOut(t *testing.T) {
	for n, want := range map[int]int{0: 0, 1: 2, 2: 3, 6: 7, 7: 8, 8: 10, 13: 15, 14: 16, 15: 18, 1048575: 1198372, 1048576: 1198373} {
		if got := seven.Len(n); got != want {
			t.Errorf("the length of the packed form of %d bytes is %d, not %d", n, got, want)
		}
	}
}

func TestLenIsThatOfPack(t *testing.T) {
	for n := range 1000 {
		if got, want := seven.Len(n), len(seven.Pack(make([]byte, n))); got != want {
			t.Fatalf("the packed form of %d bytes has %d bytes, not %d", n, want, got)
		}
	}
}

func TestLenBeyondTheLimits(t *testing.T) {
	for _, n := range []int{-1, -2, -6, -7, -8, -api.MaxFile, math.MinInt, math.MinInt + 1, api.MaxFile + 1, api.MaxFile + 2, 2 * api.MaxFile, math.MaxInt32, math.MaxInt - 1, math.MaxInt} {
		if got := seven.Len(n); got != 0 {
			t.Errorf("the length of the packed form of %d bytes is %d", n, got)
		}
	}
}

// Promise 6.2.

func TestUnpackOfEveryTwoBytes(t *testing.T) {
	valid := 0
	for one := range 256 {
		checkNone(t, []byte{byte(one)})
		for two := range 256 {
			form := []byte{byte(one), byte(two)}
			if one < 128 || two < 128 || two > 129 {
				checkNone(t, form)
				continue
			}
			valid++
			checkPair(t, []byte{byte(one - 128 + (two-128)*128)}, form)
		}
	}
	if valid != 256 {
		t.Fatalf("%d packed forms of two bytes are valid", valid)
	}
}

func TestUnpackByDefinition(t *testing.T) {
	random := rand.New(rand.NewSource(62))
	for length := range 60 {
		for range 200 {
			form := make([]byte, length)
			for i := range form {
				form[i] = byte(128 + random.Intn(128))
			}
			if length > 0 && random.Intn(2) == 0 {
				form[length-1] = 128
			}
			want := joined(bitsOf(form, 7)[:7*length/8*8], 8)
			if bytes.Equal(packed(want), form) {
				checkPair(t, want, form)
			} else {
				checkNone(t, form)
			}
		}
	}
}

func TestUnpackOfLengthsThatNoFormHas(t *testing.T) {
	lengths := map[int]bool{}
	for n := range 100 {
		lengths[len(packed(make([]byte, n)))] = true
	}
	for n := range 100 {
		form := bytes.Repeat([]byte{128}, n)
		got, ok := seven.Unpack(form)
		if ok != lengths[n] || ok == (n%8 == 1) {
			t.Fatalf("the %d bytes 128 give %x, %v", n, got, ok)
		}
		if !ok {
			checkNone(t, form)
		}
	}
}

func TestUnpackOfFormWithOneMoreByte(t *testing.T) {
	for _, b := range samples() {
		form := packed(b)
		for v := range 256 {
			longer := append(bytes.Clone(form), byte(v))
			if got, ok := seven.Unpack(longer); ok && (bytes.Equal(got, b) || !bytes.Equal(packed(got), longer)) {
				t.Fatalf("the bytes with the packed form %x are %x", longer, got)
			}
		}
	}
}

func TestUnpackOfWrongFill(t *testing.T) {
	for n := 1; n < 40; n++ {
		form := packed(bytes.Repeat([]byte{255}, n))
		last := len(form) - 1
		fill := 7*len(form) - 8*n
		for pattern := 1; pattern < 1<<fill; pattern++ {
			wrong := bytes.Clone(form)
			wrong[last] |= byte(pattern << (7 - fill))
			checkNone(t, wrong)
			wrong[last] &^= byte(1<<(7-fill) - 1)
			checkNone(t, wrong)
		}
	}
}

func TestUnpackWithoutAHighestBit(t *testing.T) {
	for _, b := range samples() {
		form := packed(b)
		for at := range form {
			form[at] -= 128
			checkNone(t, form)
			form[at] += 128
		}
		checkPair(t, b, form)
	}
}

func TestWholeOfEveryByte(t *testing.T) {
	for _, v := range allBytes() {
		if got := seven.Whole([]byte{v}); got != (v >= 128) {
			t.Errorf("Whole of the byte %d is %v", v, got)
		}
		for at := range 12 {
			b := bytes.Repeat([]byte{128}, 12)
			b[at] = v
			if got := seven.Whole(b); got != (v >= 128) {
				t.Errorf("with the byte %d at %d, Whole is %v", v, at, got)
			}
		}
	}
}

func TestWholeOfNothing(t *testing.T) {
	if !seven.Whole(nil) || !seven.Whole([]byte{}) {
		t.Fatal("no bytes are not whole")
	}
}

func TestWholeBytesNeedNotBeAPackedForm(t *testing.T) {
	for _, b := range []string{"\x80", "\xff\x82", "\xff\xff", "\x80\x80\xff", "\x80\x80\x80\x80\x80\x80\x80\x80\x80"} {
		if !seven.Whole([]byte(b)) {
			t.Errorf("%x is not whole", b)
		}
		checkNone(t, []byte(b))
	}
}

// Promises 6.1 and 6.2 with rules R3 and R4.

func TestArgumentsStay(t *testing.T) {
	whole := append(make([]byte, 0, 40), "1234567890"...)
	form := append(make([]byte, 0, 40), packed(whole)...)
	parts := [][]byte{whole[:3], nil, whole[3:]}
	for range 3 {
		if got := seven.Pack(parts...); !bytes.Equal(got, form) {
			t.Fatalf("the packed form is %x", got)
		}
		if got, ok := seven.Unpack(form); !ok || !bytes.Equal(got, whole) || !seven.Whole(form) {
			t.Fatalf("the bytes are %x, %v", got, ok)
		}
	}
	if !bytes.Equal(whole[:40], append([]byte("1234567890"), make([]byte, 30)...)) || !bytes.Equal(form[:40], append(packed([]byte("1234567890")), make([]byte, 28)...)) {
		t.Fatalf("the arguments became %x and %x", whole[:40], form[:40])
	}
	if len(parts[0]) != 3 || parts[1] != nil || len(parts[2]) != 7 {
		t.Fatalf("the parts became %v", parts)
	}
}

func TestResultsAreNew(t *testing.T) {
	b := []byte("1234567")
	form := seven.Pack(b)
	got, _ := seven.Unpack(form)
	want := bytes.Clone(form)
	clear(b)
	if !bytes.Equal(form, want) || string(got) != "1234567" {
		t.Fatalf("the results became %x and %x", form, got)
	}
	clear(form)
	_ = append(form[:0], "other bytes"...)
	if string(got) != "1234567" || !bytes.Equal(seven.Pack(got), want) {
		t.Fatalf("the bytes became %x", got)
	}
	clear(got)
	_ = append(got[:0], "other bytes"...)
	if again, ok := seven.Unpack(want); !ok || string(again) != "1234567" {
		t.Fatalf("later bytes are %x, %v", again, ok)
	}
}

// Promise 6.3.

// checkLost expects a form with lost bytes not to be unpacked, wherever it is cut off, up to the first of them.
func checkLost(t *testing.T, form []byte, lost func(i int) bool) {
	t.Helper()
	damaged := bytes.Clone(form)
	for i := range damaged {
		if lost(i) {
			damaged[i] = 0
		}
	}
	for n := range len(damaged) + 1 {
		if bytes.IndexByte(damaged[:n], 0) >= 0 {
			checkNone(t, damaged[:n])
		}
	}
}

func TestLostBytesAreDetected(t *testing.T) {
	for _, b := range samples() {
		form := seven.Pack(b)
		for from := range form {
			checkLost(t, form, func(i int) bool { return i == from })
			checkLost(t, form, func(i int) bool { return i >= from })
			checkLost(t, form, func(i int) bool { return i <= from })
		}
	}
}

func TestEverySetOfLostBytesIsDetected(t *testing.T) {
	for _, s := range []string{"\x00", "\xff", "\x00\x00\x00", "abc", "\xff\xff\xff\xff", "1234567", "12345678"} {
		form := seven.Pack([]byte(s))
		for set := 1; set < 1<<len(form); set++ {
			checkLost(t, form, func(i int) bool { return set>>i&1 == 1 })
		}
	}
}

func TestPackedFormsHaveNoZeros(t *testing.T) {
	for _, b := range samples() {
		if form := seven.Pack(b); bytes.IndexByte(form, 0) >= 0 || bytes.IndexByte(form, '\n') >= 0 {
			t.Fatalf("the packed form of %x is %x", b, form)
		}
	}
}

func TestCutFormsGiveOtherBytes(t *testing.T) {
	for _, b := range samples() {
		form := seven.Pack(b)
		for n := range form {
			got, ok := seven.Unpack(form[:n])
			if ok && (len(got) >= len(b) || !bytes.Equal(got, b[:len(got)])) {
				t.Fatalf("cut off at %d, the packed form of %x gives %x", n, b, got)
			}
			if !ok {
				checkNone(t, form[:n])
			}
		}
	}
}

// Promise 6.4.

// burst inverts the bits of b at which pattern has ones, from the bit at on.
func burst(b []byte, at int, pattern uint32) {
	for i := range 32 {
		if pattern>>i&1 != 0 {
			b[(at+i)/8] ^= 1 << ((at + i) % 8)
		}
	}
}

// span is how many consecutive bits contain all in which two sequences of the same length differ.
func span(one, two []byte) int {
	first, last := -1, -1
	others := bitsOf(two, 8)
	for i, bit := range bitsOf(one, 8) {
		if bit == others[i] {
			continue
		}
		if first < 0 {
			first = i
		}
		last = i
	}
	if first < 0 {
		return 0
	}
	return last - first + 1
}

// checkBurst expects inverted bits to be detected, or to leave a difference within 32 bits. It reports which.
func checkBurst(t *testing.T, b []byte, at int, pattern uint32) bool {
	t.Helper()
	form := seven.Pack(b)
	burst(form, at, pattern)
	got, ok := seven.Unpack(form)
	if !ok {
		checkNone(t, form)
		return false
	}
	if len(got) != len(b) || bytes.Equal(got, b) || span(got, b) > 32 {
		t.Fatalf("with the bits %x from %d on inverted, the packed form of %x gives %x", pattern, at, b, got)
	}
	return true
}

func TestBurstsStayShort(t *testing.T) {
	const highest = 0x80808080
	random := rand.New(rand.NewSource(64))
	passed := 0
	for range 300 {
		b := make([]byte, 4+random.Intn(40))
		random.Read(b)
		for range 60 {
			at := random.Intn(8*len(b) - 31)
			pattern := random.Uint32()>>random.Intn(32) | 1
			checkBurst(t, b, at, pattern)
			// Without the highest bits of the packed bytes, most of them are not detected.
			pattern &^= highest >> (at % 8)
			if at%8 > 0 {
				pattern &^= highest << (8 - at%8)
			}
			if pattern != 0 && checkBurst(t, b, at, pattern) {
				passed++
			}
		}
	}
	if passed < 10000 {
		t.Fatalf("only %d bursts were not detected", passed)
	}
}

func TestSingleBits(t *testing.T) {
	for _, b := range samples() {
		form := seven.Pack(b)
		for at := range 8 * len(form) {
			data := at/8*7 + at%8
			want := at%8 < 7 && data < 8*len(b)
			if got := checkBurst(t, b, at, 1); got != want {
				t.Fatalf("with bit %d inverted, the packed form of %x is unpacked: %v", at, b, got)
			}
			if !want {
				continue
			}
			changed := bytes.Clone(b)
			changed[data/8] ^= 1 << (data % 8)
			burst(form, at, 1)
			checkPair(t, changed, form)
			burst(form, at, 1)
		}
	}
}
