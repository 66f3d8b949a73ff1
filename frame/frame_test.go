package frame_test

import (
	"bytes"
	"encoding/binary"
	"hash/crc32"
	"math"
	"math/rand"
	"testing"

	"repertory/api"
	"repertory/frame"
)

// sealed is a frame with its parts.
type sealed struct {
	kind byte
	load string
	form string
}

// writtenOut are frames written out.
func writtenOut() []sealed {
	return []sealed{
		{5, "a", "\x05\x01a\x76\x7b\x24\xda"},
		{0, "", "\x00\x00\xff\x12\xd9\x41"},
		{255, "", "\xff\x00\x8d\xef\xfd\xd2"},
		{66, "", "\x42\x00\x78\x3f\x96\x83"},
		{1, "one", "\x01\x03one\xa0\x2e\xda\x6c"},
		{2, "two", "\x02\x03two\xe7\x58\xdc\x40"},
		{69, "\x00\xff\n", "\x45\x03\x00\xff\n\xa6\x9b\x75\x37"},
		{7, repeated(127), "\x07\x7f" + repeated(127) + "\x96\xc7\x81\x20"},
		{7, repeated(128), "\x07\x80\x01" + repeated(128) + "\x6a\x10\xf8\xa8"},
		{7, repeated(300), "\x07\xac\x02" + repeated(300) + "\xe3\xad\x57\x91"},
		{7, repeated(16383), "\x07\xff\x7f" + repeated(16383) + "\xc6\xb9\x52\xe2"},
		{7, repeated(16384), "\x07\x80\x80\x01" + repeated(16384) + "\x6c\xad\xcb\x14"},
		{7, repeated(1048575), "\x07\xff\xff\x3f" + repeated(1048575) + "\x10\x56\x05\xf5"},
		{7, repeated(1048576), "\x07\x80\x80\x40" + repeated(1048576) + "\xf4\xbc\x1a\x09"},
	}
}

func repeated(n int) string { return string(bytes.Repeat([]byte("x"), n)) }

// summed is b with its checksum behind it.
func summed(b []byte) []byte {
	return binary.LittleEndian.AppendUint32(bytes.Clone(b), crc32.ChecksumIEEE(b))
}

// form is a frame by its definition, whatever the length of its payload.
func form(kind byte, load []byte) []byte {
	return summed(append(binary.AppendUvarint([]byte{kind}, uint64(len(load))), load...))
}

// formWith is what a frame would be if digits were its varint.
func formWith(kind byte, digits, load []byte) []byte {
	return summed(append(append([]byte{kind}, digits...), load...))
}

// sampleLengths are those around each length at which the varint gets longer, and others.
func sampleLengths() []int {
	return []int{0, 1, 2, 3, 4, 5, 9, 10, 11, 31, 126, 127, 128, 129, 255, 256, 300, 16382, 16383, 16384, 16385, 65536}
}

// sample is a payload, the same one for the same n each time.
func sample(n int) []byte {
	b := make([]byte, n)
	rand.New(rand.NewSource(int64(n))).Read(b)
	return b
}

// wanted is what Open and Next return for b by their definition: the kind and the payload of the frame at its beginning, its length, or an error.
func wanted(b []byte) (byte, []byte, int, api.Errno) {
	if len(b) == 0 {
		return 0, nil, 0, api.ErrShort
	}
	n, digits, errno := wantedLen(b[1:])
	if errno != api.OK {
		return 0, nil, 0, errno
	}
	end := 1 + digits + n
	if len(b) < end+4 {
		return 0, nil, 0, api.ErrShort
	}
	if binary.LittleEndian.Uint32(b[end:]) != crc32.ChecksumIEEE(b[:end]) {
		return 0, nil, 0, api.ErrSum
	}
	return b[0], b[1+digits : end], end + 4, api.OK
}

// wantedLen is the number whose varint b begins with, and how many digits that has.
func wantedLen(b []byte) (int, int, api.Errno) {
	n, digits := binary.Uvarint(b)
	switch {
	case digits == 0 && len(b) < 10:
		return 0, 0, api.ErrShort
	case digits <= 0, n > api.MaxFile, digits > 1 && b[digits-1] == 0:
		return 0, 0, api.ErrForm
	}
	return int(n), digits, api.OK
}

// brief are at most the first bytes of b, for messages.
func brief(b []byte) []byte { return b[:min(len(b), 40)] }

func checkOpen(t *testing.T, b []byte, kind byte, load []byte) {
	t.Helper()
	if k, l, errno := frame.Open(b); errno != api.OK || k != kind || !bytes.Equal(l, load) {
		t.Fatalf("Open(%x) is %d, %x, %d, not %d, %x", brief(b), k, brief(l), errno, kind, brief(load))
	}
}

// checkRefused expects Open to return an error and nothing else.
func checkRefused(t *testing.T, b []byte, want api.Errno) {
	t.Helper()
	if k, l, errno := frame.Open(b); errno != want || k != 0 || l != nil {
		t.Fatalf("Open(%x) is %d, %x, %d, not error %d", brief(b), k, brief(l), errno, want)
	}
}

// checkNext expects the next frame of a stream, with left bytes behind it.
func checkNext(t *testing.T, s *frame.Stream, kind byte, load []byte, left int) {
	t.Helper()
	if k, l, errno := s.Next(); errno != api.OK || k != kind || !bytes.Equal(l, load) {
		t.Fatalf("Next is %d, %x, %d, not %d, %x", k, brief(l), errno, kind, brief(load))
	}
	if s.Left() != left {
		t.Fatalf("Left is %d, not %d", s.Left(), left)
	}
}

// checkStuck expects a stream to return the same error again and again, and not to move.
func checkStuck(t *testing.T, s *frame.Stream, want api.Errno, left int) {
	t.Helper()
	for range 3 {
		if k, l, errno := s.Next(); errno != want || k != 0 || l != nil {
			t.Fatalf("Next is %d, %x, %d, not error %d", k, brief(l), errno, want)
		}
		if s.Left() != left {
			t.Fatalf("Left is %d, not %d", s.Left(), left)
		}
	}
}

// checkByDefinition opens b, and reads it as a stream, and compares with the definition.
func checkByDefinition(t *testing.T, b []byte) {
	t.Helper()
	kind, load, length, errno := wanted(b)
	s := frame.Read(b)
	switch {
	case len(b) == 0:
		checkRefused(t, b, api.ErrShort)
		checkStuck(t, s, api.ErrNone, 0)
	case errno != api.OK:
		checkRefused(t, b, errno)
		checkStuck(t, s, errno, len(b))
	case length < len(b):
		checkRefused(t, b, api.ErrLong)
		checkNext(t, s, kind, load, len(b)-length)
	default:
		checkOpen(t, b, kind, load)
		checkNext(t, s, kind, load, 0)
	}
}

// Promises 7.1, 7.2 and 7.3.

func TestFramesWrittenOut(t *testing.T) {
	for _, f := range writtenOut() {
		b, errno := frame.Seal(f.kind, []byte(f.load))
		if errno != api.OK || string(b) != f.form {
			t.Fatalf("the frame of %d bytes is %x, %d, not %x", len(f.load), brief(b), errno, brief([]byte(f.form)))
		}
		if got := frame.Len(len(f.load)); got != len(f.form) {
			t.Fatalf("the length of the frame of %d bytes is %d, not %d", len(f.load), got, len(f.form))
		}
		checkOpen(t, []byte(f.form), f.kind, []byte(f.load))
		s := frame.Read([]byte(f.form))
		checkNext(t, s, f.kind, []byte(f.load), 0)
		checkStuck(t, s, api.ErrNone, 0)
	}
}

func TestFramesByDefinition(t *testing.T) {
	for _, n := range sampleLengths() {
		for _, kind := range []byte{0, 1, 127, 128, 255} {
			load := sample(n)
			b, errno := frame.Seal(kind, load)
			if errno != api.OK || !bytes.Equal(b, form(kind, load)) {
				t.Fatalf("the frame of %d bytes is %x, %d", n, brief(b), errno)
			}
			checkByDefinition(t, b)
			checkByDefinition(t, append(b, 0))
		}
	}
}

func TestEveryKindAndByte(t *testing.T) {
	for kind := range 256 {
		for _, load := range [][]byte{nil, {0}, {byte(kind)}, {byte(kind), 255}, []byte("some bytes")} {
			b, errno := frame.Seal(byte(kind), load)
			if errno != api.OK || !bytes.Equal(b, form(byte(kind), load)) {
				t.Fatalf("the frame of kind %d with %x is %x, %d", kind, load, b, errno)
			}
			checkOpen(t, b, byte(kind), load)
			checkNext(t, frame.Read(b), byte(kind), load, 0)
		}
	}
}

// Promise 7.1.

func TestSealOfTooMuch(t *testing.T) {
	for _, n := range []int{api.MaxFile + 1, api.MaxFile + 2, 2*api.MaxFile - 1, 2 * api.MaxFile, 4*api.MaxFile + 5} {
		if b, errno := frame.Seal(3, make([]byte, n)); errno != api.ErrLong || b != nil {
			t.Fatalf("the frame of %d bytes is %x, %d", n, brief(b), errno)
		}
	}
}

func TestLenOfEveryLength(t *testing.T) {
	for n := 0; n <= api.MaxFile; n++ {
		want := n + 6
		for _, limit := range []int{1 << 7, 1 << 14} {
			if n >= limit {
				want++
			}
		}
		if got := frame.Len(n); got != want {
			t.Fatalf("the length of the frame of %d bytes is %d, not %d", n, got, want)
		}
	}
}

func TestLenOfNoFrame(t *testing.T) {
	for _, n := range []int{-1, -2, -4, -6, -128, math.MinInt, math.MinInt + 1, api.MaxFile + 1, api.MaxFile + 2, 2 * api.MaxFile, 1 << 31, math.MaxInt - 1, math.MaxInt} {
		if got := frame.Len(n); got != 0 {
			t.Errorf("the length of the frame of %d bytes is %d", n, got)
		}
	}
}

// Promise 7.2.

func TestCutOffFramesAreShort(t *testing.T) {
	for _, n := range []int{0, 1, 2, 127, 128, 300} {
		b := form(9, sample(n))
		for i := range b {
			checkRefused(t, b[:i], api.ErrShort)
		}
	}
	for _, n := range []int{16383, 16384, api.MaxFile - 1, api.MaxFile} {
		b := form(9, make([]byte, n))
		for _, i := range []int{0, 1, 2, 3, 4, 5, n / 2, n, len(b) - 5, len(b) - 4, len(b) - 3, len(b) - 2, len(b) - 1} {
			checkRefused(t, b[:i], api.ErrShort)
		}
		checkOpen(t, b, 9, make([]byte, n))
	}
}

func TestShortFramesHaveNoSumYet(t *testing.T) {
	// What is there ends with its checksum, but more was announced.
	for announced := 1; announced < 12; announced++ {
		for n := range announced {
			checkRefused(t, formWith(4, []byte{byte(announced)}, sample(n)), api.ErrShort)
		}
	}
}

func TestEndWithinTheVarintIsShort(t *testing.T) {
	for _, digit := range []byte{128, 129, 192, 254, 255} {
		for n := range 30 {
			want := api.ErrShort
			if n >= 10 { // No varint begins with ten digits none of which is the last.
				want = api.ErrForm
			}
			checkRefused(t, append([]byte{1}, bytes.Repeat([]byte{digit}, n)...), want)
		}
	}
}

// noVarints are digits with which no varint begins.
func noVarints() [][]byte {
	list := [][]byte{{128, 0}, {129, 0}, {255, 0}, {131, 0}, {128, 128, 0}, {131, 128, 0}, {255, 255, 0}}
	for n := 1; n <= 9; n++ {
		list = append(list, append(bytes.Repeat([]byte{128}, n), 0), append(bytes.Repeat([]byte{255}, n), 0))
	}
	for _, last := range []byte{2, 3, 64, 127, 128, 129, 255} { // more than 64 bits, or than ten digits
		list = append(list, append(bytes.Repeat([]byte{128}, 9), last), append(bytes.Repeat([]byte{255}, 9), last))
	}
	return append(list, append(bytes.Repeat([]byte{128}, 10), 1), append(bytes.Repeat([]byte{131}, 20), 1))
}

// tooGreat are the varints of numbers above MaxFile.
func tooGreat() [][]byte {
	var list [][]byte
	for _, n := range []uint64{api.MaxFile + 1, api.MaxFile + 2, 1<<21 - 1, 1 << 21, 1<<28 - 1, 1 << 31, 1<<31 + 3, 1 << 32, 1<<32 + 3, 1<<63 - 1, 1 << 63, 1<<63 + 3, math.MaxUint64 - 4, math.MaxUint64} {
		list = append(list, binary.AppendUvarint(nil, n))
	}
	return list
}

func TestNoLength(t *testing.T) {
	for _, digits := range append(noVarints(), tooGreat()...) {
		checkRefused(t, append([]byte{1}, digits...), api.ErrForm)
		for _, n := range []int{0, 1, 3, 127, 128, 200} {
			b := formWith(1, digits, make([]byte, n))
			checkRefused(t, b, api.ErrForm)
			checkStuck(t, frame.Read(b), api.ErrForm, len(b))
		}
	}
}

func TestLengthJustAboveTheLimit(t *testing.T) {
	b := form(1, make([]byte, api.MaxFile+1))
	checkRefused(t, b, api.ErrForm)
	checkRefused(t, b[:len(b)-1], api.ErrForm)
	checkRefused(t, b[:4], api.ErrForm)
	checkRefused(t, b[:3], api.ErrShort)
	checkStuck(t, frame.Read(b), api.ErrForm, len(b))
}

func TestWrongSums(t *testing.T) {
	for _, n := range []int{0, 1, 3, 127, 128, 300} {
		b := form(6, sample(n))
		for at := 1; at <= 4; at++ {
			for flip := 1; flip < 256; flip++ {
				b[len(b)-at] ^= byte(flip)
				checkRefused(t, b, api.ErrSum)
				b[len(b)-at] ^= byte(flip)
			}
		}
		checkOpen(t, b, 6, sample(n))
		turned := bytes.Clone(b)
		last := turned[len(b)-4:]
		last[0], last[1], last[2], last[3] = last[3], last[2], last[1], last[0]
		checkRefused(t, turned, api.ErrSum)
	}
}

func TestSumOfEveryPart(t *testing.T) {
	load := sample(200)
	b := form(6, load)
	for at := range b {
		if at == 1 || at == 2 { // With these, the length changes.
			continue
		}
		b[at]++
		checkRefused(t, b, api.ErrSum)
		b[at]--
	}
	for _, wrong := range [][]byte{load, b[1 : len(b)-4], b[:3]} { // sums of the payload alone, without the kind, without the payload
		other := binary.LittleEndian.AppendUint32(bytes.Clone(b[:len(b)-4]), crc32.ChecksumIEEE(wrong))
		checkRefused(t, other, api.ErrSum)
	}
}

func TestBytesBehindTheFrame(t *testing.T) {
	for _, n := range []int{0, 1, 127, 128, 300} {
		b := form(8, sample(n))
		for _, more := range [][]byte{{0}, {255}, []byte("some more bytes"), b, make([]byte, 70000)} {
			checkRefused(t, append(bytes.Clone(b), more...), api.ErrLong)
		}
	}
	full := form(8, make([]byte, api.MaxFile))
	checkRefused(t, append(full, 0), api.ErrLong)
}

func TestWrongSumIsReportedBeforeMoreBytes(t *testing.T) {
	b := append(form(8, []byte("load")), 0)
	b[len(b)-2] ^= 64
	checkRefused(t, b, api.ErrSum)
	checkRefused(t, summed(summed(b[:3])), api.ErrSum)
}

func TestEveryTwoBytes(t *testing.T) {
	checkByDefinition(t, nil)
	checkByDefinition(t, []byte{})
	for one := range 256 {
		checkByDefinition(t, []byte{byte(one)})
		for two := range 256 {
			checkByDefinition(t, []byte{byte(one), byte(two)})
			checkByDefinition(t, summed([]byte{byte(one), byte(two)}))
			checkByDefinition(t, append(summed([]byte{byte(one), byte(two)}), 0))
		}
	}
}

func TestManyBytesByDefinition(t *testing.T) {
	random := rand.New(rand.NewSource(72))
	digits := []byte{0, 1, 2, 3, 63, 64, 65, 127, 128, 129, 130, 192, 255}
	results := map[api.Errno]int{}
	for range 60000 {
		b := []byte{byte(random.Intn(256))}
		for range random.Intn(12) {
			b = append(b, digits[random.Intn(len(digits))])
		}
		if random.Intn(2) == 0 {
			b = summed(b)
		}
		b = append(b, make([]byte, random.Intn(2)*random.Intn(200))...)
		checkByDefinition(t, b)
		_, _, errno := frame.Open(b)
		results[errno]++
	}
	for _, errno := range []api.Errno{api.OK, api.ErrShort, api.ErrForm, api.ErrSum, api.ErrLong} {
		if results[errno] < 100 {
			t.Errorf("error %d was returned only %d times", errno, results[errno])
		}
	}
}

// Promise 7.3.

// joined are frames, one behind the other, with payloads of these lengths and kinds counted from 1 on.
func joined(lengths ...int) []byte {
	var b []byte
	for i, n := range lengths {
		b = append(b, form(byte(i+1), sample(n))...)
	}
	return b
}

func TestStreamOfFrames(t *testing.T) {
	lengths := append(sampleLengths(), 0, 0, 7)
	b := joined(lengths...)
	s := frame.Read(b)
	left := len(b)
	if s.Left() != left {
		t.Fatalf("Left is %d, not %d", s.Left(), left)
	}
	for i, n := range lengths {
		left -= frame.Len(n)
		checkNext(t, s, byte(i+1), sample(n), left)
	}
	checkStuck(t, s, api.ErrNone, 0)
}

func TestStreamOfGreatFrames(t *testing.T) {
	load := sample(api.MaxFile)
	b := append(form(1, load), form(2, load)...)
	s := frame.Read(b)
	checkNext(t, s, 1, load, len(b)/2)
	checkNext(t, s, 2, load, 0)
	checkStuck(t, s, api.ErrNone, 0)
}

func TestStreamOfNothing(t *testing.T) {
	checkStuck(t, frame.Read(nil), api.ErrNone, 0)
	checkStuck(t, frame.Read([]byte{}), api.ErrNone, 0)
}

func TestNilStream(t *testing.T) {
	var none *frame.Stream
	checkStuck(t, none, api.ErrNone, 0)
}

func TestStreamStopsAtTheFirstError(t *testing.T) {
	good := joined(3, 200)
	behind := form(9, []byte("behind"))
	wrong := bytes.Clone(behind)
	wrong[len(wrong)-1] ^= 1
	for _, c := range []struct {
		bad   []byte
		errno api.Errno
	}{
		{wrong, api.ErrSum},
		{append(bytes.Clone(wrong), behind...), api.ErrSum},
		{append([]byte{1, 128, 0}, behind...), api.ErrForm},
		{append([]byte{1, 255, 255, 127}, behind...), api.ErrForm},
		{[]byte{1}, api.ErrShort},
		{[]byte{1, 128, 128}, api.ErrShort},
		{append([]byte{1, 255, 1}, behind...), api.ErrShort},
		{behind[:len(behind)-1], api.ErrShort},
	} {
		s := frame.Read(append(bytes.Clone(good), c.bad...))
		checkNext(t, s, 1, sample(3), frame.Len(200)+len(c.bad))
		checkNext(t, s, 2, sample(200), len(c.bad))
		checkStuck(t, s, c.errno, len(c.bad))
		checkStuck(t, frame.Read(c.bad), c.errno, len(c.bad))
	}
}

func TestStreamCutOffAnywhere(t *testing.T) {
	b := joined(3, 0, 130)
	ends := []int{frame.Len(3), frame.Len(3) + frame.Len(0), len(b)}
	for cut := range len(b) + 1 {
		s := frame.Read(b[:cut])
		at := 0
		for i, end := range ends {
			if end <= cut {
				checkNext(t, s, byte(i+1), sample([]int{3, 0, 130}[i]), cut-end)
				at = end
			}
		}
		if at == cut {
			checkStuck(t, s, api.ErrNone, 0)
		} else {
			checkStuck(t, s, api.ErrShort, cut-at)
		}
	}
}

func TestStreamsAreApart(t *testing.T) {
	b := joined(2, 4)
	one, two := frame.Read(b), frame.Read(b)
	checkNext(t, one, 1, sample(2), frame.Len(4))
	checkNext(t, two, 1, sample(2), frame.Len(4))
	checkNext(t, one, 2, sample(4), 0)
	checkNext(t, two, 2, sample(4), 0)
}

// Promises 7.1 to 7.3 with rules R3 and R4.

func TestArgumentsStay(t *testing.T) {
	load := append(make([]byte, 0, 60), "some bytes"...)
	b := append(make([]byte, 0, 60), form(3, load)...)
	cut := append(make([]byte, 0, 60), 1, 128, 128)
	for range 3 {
		if got, errno := frame.Seal(3, load); errno != api.OK || !bytes.Equal(got, b) {
			t.Fatalf("Seal is %x, %d", got, errno)
		}
		checkOpen(t, b, 3, load)
		checkNext(t, frame.Read(b), 3, load, 0)
		checkRefused(t, cut, api.ErrShort)
		checkRefused(t, cut[:1], api.ErrShort)
		checkStuck(t, frame.Read(cut), api.ErrShort, 3)
	}
	for _, c := range []struct{ got, want []byte }{{load, []byte("some bytes")}, {b, form(3, load)}, {cut, []byte{1, 128, 128}}} {
		if !bytes.Equal(c.got[:60], append(bytes.Clone(c.want), make([]byte, 60-len(c.want))...)) {
			t.Fatalf("an argument became %x", c.got[:60])
		}
	}
}

func TestStreamKeepsNoArgument(t *testing.T) {
	b := joined(5, 6)
	s := frame.Read(b)
	clear(b)
	checkNext(t, s, 1, sample(5), frame.Len(6))
	copy(b, joined(6, 5))
	checkNext(t, s, 2, sample(6), 0)
}

func TestResultsAreNew(t *testing.T) {
	load := sample(20)
	b, _ := frame.Seal(1, load)
	_, opened, _ := frame.Open(b)
	clear(load)
	if !bytes.Equal(b, form(1, sample(20))) || !bytes.Equal(opened, sample(20)) {
		t.Fatalf("the results became %x and %x", b, opened)
	}
	clear(b)
	_ = append(b[:0], "other bytes"...)
	if !bytes.Equal(opened, sample(20)) {
		t.Fatalf("the payload became %x", opened)
	}
	b = form(1, sample(20))
	_, opened, _ = frame.Open(b)
	clear(opened)
	_ = append(opened, 255, 255, 255, 255)
	checkOpen(t, b, 1, sample(20))
}

func TestPayloadsOfAStreamAreNew(t *testing.T) {
	s := frame.Read(joined(5, 6, 7))
	_, one, _ := s.Next()
	clear(one)
	_ = append(one, bytes.Repeat([]byte{255}, 30)...)
	_, two, errno := s.Next()
	if errno != api.OK || !bytes.Equal(two, sample(6)) {
		t.Fatalf("behind bytes that were appended to a payload, Next is %x, %d", two, errno)
	}
	_ = append(two[:0], "abc"...)
	checkNext(t, s, 3, sample(7), 0)
	if !bytes.Equal(one, make([]byte, 5)) {
		t.Fatalf("the first payload became %x", one)
	}
}

// Promise 7.4.

// burst inverts the bits of b at which pattern has ones, from the bit at on. It reports whether b has all of them.
func burst(b []byte, at int, pattern uint32) bool {
	for i := range 32 {
		if pattern>>i&1 == 0 {
			continue
		}
		if at+i >= 8*len(b) {
			return false
		}
		b[(at+i)/8] ^= 1 << ((at + i) % 8)
	}
	return true
}

// checkBurst expects Open to fail with inverted bits. The error is that of the definition.
func checkBurst(t *testing.T, b []byte, at int, pattern uint32) {
	t.Helper()
	damaged := bytes.Clone(b)
	if pattern == 0 || !burst(damaged, at, pattern) {
		return
	}
	if k, l, errno := frame.Open(damaged); errno == api.OK || k != 0 || l != nil {
		t.Fatalf("with the bits %x from %d on inverted, Open(%x) is %d, %x, %d", pattern, at, brief(b), k, brief(l), errno)
	}
	checkByDefinition(t, damaged)
}

func TestSingleBitsAndAllPairs(t *testing.T) {
	for _, n := range []int{0, 1, 2, 10, 127, 128, 129, 300} {
		b := form(9, sample(n))
		for at := range 8 * len(b) {
			checkBurst(t, b, at, 1)
			for i := 1; i < 32; i++ {
				checkBurst(t, b, at, 1|1<<i)
			}
		}
	}
}

func TestShortBursts(t *testing.T) {
	for _, b := range [][]byte{form(0, nil), form(255, nil), form(7, []byte{0}), form(69, []byte("ab"))} {
		for at := range 8 * len(b) {
			for pattern := uint32(1); pattern < 1<<11; pattern += 2 {
				checkBurst(t, b, at, pattern)
			}
		}
	}
}

func TestRandomBursts(t *testing.T) {
	random := rand.New(rand.NewSource(74))
	for range 100 {
		for _, n := range []int{0, 1, random.Intn(60), 120 + random.Intn(20), random.Intn(400)} {
			b := form(byte(random.Intn(256)), sample(n))
			for range 100 {
				checkBurst(t, b, random.Intn(8*len(b)), random.Uint32()|1)
			}
			for range 20 { // at the ends of the frame
				checkBurst(t, b, random.Intn(32), random.Uint32()>>random.Intn(32))
				checkBurst(t, b, 8*len(b)-32, random.Uint32())
			}
		}
	}
}

func TestBurstsInTheLengthOfAGreatFrame(t *testing.T) {
	b := form(9, sample(api.MaxFile))
	for at := range 40 {
		checkBurst(t, b, at, 1)
		checkBurst(t, b, at, 1<<31|1)
	}
	checkBurst(t, b, 8*len(b)-1, 1)
	checkBurst(t, b, 8*len(b)/2, math.MaxUint32)
}

func TestFrameWithinAFrame(t *testing.T) {
	// With one bit of the length inverted, each of these begins with another frame.
	for n := range 64 {
		inner := form(5, sample(n))
		load := append(bytes.Clone(inner[2:]), make([]byte, 60)...)
		b := form(5, load[:n+64])
		b[1] ^= 64
		checkRefused(t, b, api.ErrLong)
		checkNext(t, frame.Read(b), 5, sample(n), len(b)-len(inner))
	}
}

func TestLengthsOfFramesDiffer(t *testing.T) {
	last := 0
	for n := 0; n <= api.MaxFile; n++ {
		length := frame.Len(n)
		if length <= last {
			t.Fatalf("the frames of %d and %d bytes have %d and %d bytes", n-1, n, last, length)
		}
		last = length
	}
	for n := range 300 {
		b, _ := frame.Seal(0, make([]byte, n))
		if longer, _ := frame.Seal(0, make([]byte, n+1)); len(longer) <= len(b) {
			t.Fatalf("the frames of %d and %d bytes have %d and %d bytes", n, n+1, len(b), len(longer))
		}
	}
}
