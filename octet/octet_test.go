package octet_test

import (
	"bytes"
	"math"
	"testing"

	"repertory/octet"
)

const (
	minInt = math.MinInt
	maxInt = math.MaxInt
)

// noWidths are counts of bytes that no number has.
var noWidths = []int{0, -1, 9, -8, 16, 64, 256, 257, minInt, minInt + 1, maxInt}

// greatest is the greatest number that fits into n bytes.
func greatest(n int) uint64 { return math.MaxUint64 >> (64 - 8*n) }

func checkBytes(t *testing.T, w *octet.Writer, want ...byte) {
	t.Helper()
	if got := w.Bytes(); !bytes.Equal(got, want) {
		t.Fatalf("Bytes is %v, not %v", got, want)
	}
	if w.Len() != len(want) {
		t.Fatalf("Len is %d, not %d", w.Len(), len(want))
	}
}

// checkOpen asks a reader that is not spent what remains of it.
func checkOpen(t *testing.T, r *octet.Reader, left int) {
	t.Helper()
	if r.Spent() || r.Left() != left || r.All() != (left == 0) {
		t.Fatalf("Spent %v, Left %d, All %v, where %d bytes remain", r.Spent(), r.Left(), r.All(), left)
	}
}

// checkSpent asks a spent reader for all that it could answer, so that it stays spent.
func checkSpent(t *testing.T, r *octet.Reader) {
	t.Helper()
	for _, n := range append([]int{1, 2, 3, 7, 8}, noWidths...) {
		if !r.Spent() || r.Left() != 0 || r.All() {
			t.Fatalf("Spent %v, Left %d, All %v of a spent reader", r.Spent(), r.Left(), r.All())
		}
		if v := r.Num(n); v != 0 {
			t.Fatalf("Num(%d) of a spent reader is %d", n, v)
		}
		if b := r.Take(n); len(b) != 0 {
			t.Fatalf("Take(%d) of a spent reader is %v", n, b)
		}
	}
}

// Promise 1.1.

func TestWriteHasNoBytes(t *testing.T) {
	checkBytes(t, octet.Write())
}

func TestWritersAreApart(t *testing.T) {
	one, two := octet.Write(), octet.Write()
	one.Num(1, 7)
	checkBytes(t, two)
	checkBytes(t, one, 7)
}

func TestWriterNumExample(t *testing.T) {
	w := octet.Write()
	if !w.Num(3, 515) {
		t.Fatal("515 does not fit into 3 bytes")
	}
	checkBytes(t, w, 0, 2, 3)
}

func TestWriterNumPutsEveryByteInPlace(t *testing.T) {
	const v = 0x0102030405060708
	for n := 1; n <= 8; n++ {
		w := octet.Write()
		if !w.Num(n, v>>(64-8*n)) {
			t.Fatalf("width %d refused", n)
		}
		checkBytes(t, w, []byte{1, 2, 3, 4, 5, 6, 7, 8}[:n]...)
	}
}

func TestWriterNumPadsInFront(t *testing.T) {
	for n := 1; n <= 8; n++ {
		for _, v := range []uint64{0, 1, 128, 255} {
			w := octet.Write()
			if !w.Num(n, v) {
				t.Fatalf("%d does not fit into %d bytes", v, n)
			}
			checkBytes(t, w, append(make([]byte, n-1), byte(v))...)
		}
	}
}

func TestWriterNumJustFits(t *testing.T) {
	for n := 1; n <= 8; n++ {
		w := octet.Write()
		if !w.Num(n, greatest(n)) {
			t.Fatalf("%d does not fit into %d bytes", greatest(n), n)
		}
		checkBytes(t, w, bytes.Repeat([]byte{255}, n)...)
	}
}

func TestWriterNumRefusesWhatDoesNotFit(t *testing.T) {
	for n := 1; n <= 7; n++ {
		for _, v := range []uint64{greatest(n) + 1, greatest(n) + 2, 2 * (greatest(n) + 1), 1 << 63, math.MaxUint64} {
			w := octet.Write()
			w.Raw([]byte{5})
			if w.Num(n, v) {
				t.Fatalf("%d fits into %d bytes", v, n)
			}
			checkBytes(t, w, 5)
		}
	}
}

func TestWriterNumRefusesOtherWidths(t *testing.T) {
	for _, n := range noWidths {
		for _, v := range []uint64{0, 1, 255, math.MaxUint64} {
			w := octet.Write()
			w.Raw([]byte{5})
			if w.Num(n, v) {
				t.Fatalf("Num(%d, %d) was taken", n, v)
			}
			checkBytes(t, w, 5)
		}
	}
}

func TestWriterGoesOnAfterRefusal(t *testing.T) {
	w := octet.Write()
	if !w.Num(1, 1) || w.Num(1, 256) || w.Num(9, 0) || !w.Num(2, 256) {
		t.Fatal("Num")
	}
	checkBytes(t, w, 1, 1, 0)
}

func TestWriterRawAppendsPartsInOrder(t *testing.T) {
	w := octet.Write()
	w.Raw()
	checkBytes(t, w)
	w.Raw(nil, []byte{})
	checkBytes(t, w)
	w.Raw([]byte{3, 1}, nil, []byte{2}, []byte{}, []byte{0, 255})
	checkBytes(t, w, 3, 1, 2, 0, 255)
	if !w.Num(2, 258) {
		t.Fatal("Num")
	}
	w.Raw([]byte{9})
	checkBytes(t, w, 3, 1, 2, 0, 255, 1, 2, 9)
}

func TestWriterGrows(t *testing.T) {
	w := octet.Write()
	var want []byte
	for i := range 5000 {
		w.Num(2, uint64(i))
		w.Raw([]byte{byte(i), 1}, make([]byte, i%7))
		want = append(want, byte(i>>8), byte(i), byte(i), 1)
		want = append(want, make([]byte, i%7)...)
		if w.Len() != len(want) {
			t.Fatalf("Len is %d, not %d", w.Len(), len(want))
		}
	}
	checkBytes(t, w, want...)
}

func TestWriterTakesItsOwnBytes(t *testing.T) {
	w := octet.Write()
	w.Raw([]byte{1, 2, 3})
	w.Raw(w.Bytes(), w.Bytes())
	checkBytes(t, w, 1, 2, 3, 1, 2, 3, 1, 2, 3)
}

// Promise 1.1 with rule R3.

func TestWriterKeepsAndChangesNoPart(t *testing.T) {
	w := octet.Write()
	part := append(make([]byte, 0, 10), 1, 2, 3)
	w.Raw(part)
	w.Num(1, 4)
	w.Raw([]byte{5})
	if !bytes.Equal(part[:5], []byte{1, 2, 3, 0, 0}) {
		t.Fatalf("the part became %v", part[:5])
	}
	part[0] = 9
	checkBytes(t, w, 1, 2, 3, 4, 5)
}

func TestWriterBytesAreNew(t *testing.T) {
	w := octet.Write()
	w.Raw(make([]byte, 1, 100))
	one, two := w.Bytes(), w.Bytes()
	one[0] = 9
	_ = append(one, 8)
	checkBytes(t, w, 0)
	w.Num(1, 7)
	checkBytes(t, w, 0, 7)
	if !bytes.Equal(one, []byte{9}) || !bytes.Equal(two, []byte{0}) {
		t.Fatalf("earlier results became %v and %v", one, two)
	}
}

// Promise 1.2.

func TestReadIsAtTheFirstByte(t *testing.T) {
	r := octet.Read([]byte{4, 5, 6})
	checkOpen(t, r, 3)
	if v := r.Num(1); v != 4 {
		t.Fatalf("the first byte is %d", v)
	}
	checkOpen(t, r, 2)
}

func TestReadersAreApart(t *testing.T) {
	b := []byte{1, 2}
	one, two := octet.Read(b), octet.Read(b)
	one.Take(3)
	checkSpent(t, one)
	checkOpen(t, two, 2)
}

func TestReaderNumReadsEveryWidth(t *testing.T) {
	b := []byte{1, 2, 3, 4, 5, 6, 7, 8, 9}
	for n := 1; n <= 8; n++ {
		r := octet.Read(b)
		if v := r.Num(n); v != 0x0102030405060708>>(64-8*n) {
			t.Fatalf("Num(%d) is %x", n, v)
		}
		checkOpen(t, r, 9-n)
		if next := r.Take(1); !bytes.Equal(next, b[n:n+1]) {
			t.Fatalf("behind Num(%d) stands %v", n, next)
		}
	}
}

func TestReaderNumReadsExtremes(t *testing.T) {
	for n := 1; n <= 8; n++ {
		r := octet.Read(bytes.Repeat([]byte{255}, n))
		if v := r.Num(n); v != greatest(n) {
			t.Fatalf("Num(%d) is %d, not %d", n, v, greatest(n))
		}
		checkOpen(t, r, 0)
		r = octet.Read(make([]byte, n))
		if v := r.Num(n); v != 0 {
			t.Fatalf("Num(%d) is %d, not 0", n, v)
		}
		checkOpen(t, r, 0)
	}
}

func TestReaderNumRequestsOneByteMore(t *testing.T) {
	for n := 1; n <= 8; n++ {
		r := octet.Read(bytes.Repeat([]byte{255}, n-1))
		checkOpen(t, r, n-1)
		if v := r.Num(n); v != 0 {
			t.Fatalf("Num(%d) of %d bytes is %d", n, n-1, v)
		}
		checkSpent(t, r)
	}
}

func TestReaderNumOfOtherWidthsSpends(t *testing.T) {
	for _, n := range noWidths {
		r := octet.Read(bytes.Repeat([]byte{255}, 300))
		if v := r.Num(n); v != 0 {
			t.Fatalf("Num(%d) is %d", n, v)
		}
		checkSpent(t, r)
	}
}

func TestReaderNumOfOtherWidthsSpendsAtTheEnd(t *testing.T) {
	for _, n := range noWidths {
		r := octet.Read(nil)
		r.Num(n)
		checkSpent(t, r)
	}
}

func TestReaderTakeReadsTheNextBytes(t *testing.T) {
	b := []byte{1, 2, 3, 4, 5, 6, 7, 8, 9, 10, 11, 12}
	for n := range len(b) + 1 {
		r := octet.Read(b)
		r.Take(0)
		if got := r.Take(n); !bytes.Equal(got, b[:n]) {
			t.Fatalf("Take(%d) is %v", n, got)
		}
		checkOpen(t, r, len(b)-n)
		if got := r.Take(len(b) - n); !bytes.Equal(got, b[n:]) {
			t.Fatalf("behind Take(%d) stands %v", n, got)
		}
		checkOpen(t, r, 0)
	}
}

func TestReaderTakeOfNothingSpendsNothing(t *testing.T) {
	for _, b := range [][]byte{nil, {}, {1}} {
		r := octet.Read(b)
		if got := r.Take(0); len(got) != 0 {
			t.Fatalf("Take(0) is %v", got)
		}
		checkOpen(t, r, len(b))
	}
}

func TestReaderTakeRequestsTooMuch(t *testing.T) {
	for left := range 12 {
		for _, n := range []int{left + 1, left + 2, 256 + left, maxInt} {
			r := octet.Read(append([]byte{7}, bytes.Repeat([]byte{255}, left)...))
			r.Take(1)
			checkOpen(t, r, left)
			if got := r.Take(n); got != nil {
				t.Fatalf("Take(%d) of %d bytes is %v", n, left, got)
			}
			checkSpent(t, r)
		}
	}
}

func TestReaderTakeOfNegativeSpends(t *testing.T) {
	for _, n := range []int{-1, -2, minInt + 1, minInt} {
		for _, b := range [][]byte{nil, {1}, {1, 2, 3}} {
			r := octet.Read(b)
			if got := r.Take(n); got != nil {
				t.Fatalf("Take(%d) is %v", n, got)
			}
			checkSpent(t, r)
		}
	}
}

func TestReaderExample(t *testing.T) {
	r := octet.Read([]byte{1, 2})
	if r.Num(1) != 1 || r.Num(2) != 0 {
		t.Fatal("Num")
	}
	checkSpent(t, r)
}

func TestReaderTakeOfSpentIsNil(t *testing.T) {
	r := octet.Read([]byte{1})
	r.Num(2)
	if r.Take(0) != nil || r.Take(1) != nil {
		t.Fatal("a spent reader has bytes")
	}
	checkSpent(t, r)
}

func TestReaderMixesNumAndTake(t *testing.T) {
	r := octet.Read([]byte{1, 0, 2, 3, 4, 0, 0, 5})
	if r.Num(1) != 1 || r.Num(2) != 2 || !bytes.Equal(r.Take(2), []byte{3, 4}) || r.Num(3) != 5 {
		t.Fatal("Num and Take")
	}
	checkOpen(t, r, 0)
}

// Promise 1.2 with rule R3.

func TestReaderKeepsAndChangesNoArgument(t *testing.T) {
	b := []byte{1, 2, 3, 4}
	r := octet.Read(b)
	r.Take(1)[0] = 9
	r.Num(1)
	if !bytes.Equal(b, []byte{1, 2, 3, 4}) {
		t.Fatalf("the argument became %v", b)
	}
	b[2], b[3] = 8, 8
	if r.Num(1) != 3 || !bytes.Equal(r.Take(1), []byte{4}) {
		t.Fatal("the reader keeps its argument")
	}
}

func TestReaderResultsAreNew(t *testing.T) {
	b := []byte{1, 2, 3, 4, 5}
	r := octet.Read(b)
	one := r.Take(2)
	_ = append(one, 9)
	two := r.Take(2)
	if !bytes.Equal(two, []byte{3, 4}) {
		t.Fatalf("what was appended to a result came back: %v", two)
	}
	two[0] = 8
	_ = append(two, 9)
	if !bytes.Equal(one, []byte{1, 2}) || r.Num(1) != 5 {
		t.Fatal("results share memory with one another or with the reader")
	}
	if !bytes.Equal(b, []byte{1, 2, 3, 4, 5}) {
		t.Fatalf("the argument became %v", b)
	}
}

// Promise 1.3.

func TestReaderLeftCountsDown(t *testing.T) {
	r := octet.Read(make([]byte, 300))
	for left := 300; left > 0; left-- {
		checkOpen(t, r, left)
		r.Take(1)
	}
	checkOpen(t, r, 0)
	r.Take(1)
	checkSpent(t, r)
}

func TestReaderOfNothing(t *testing.T) {
	checkOpen(t, octet.Read(nil), 0)
	checkOpen(t, octet.Read([]byte{}), 0)
}

func TestReaderAsksChangeNothing(t *testing.T) {
	r := octet.Read([]byte{1, 2})
	for range 3 {
		checkOpen(t, r, 2)
	}
	if r.Num(2) != 258 {
		t.Fatal("Num")
	}
	for range 3 {
		checkOpen(t, r, 0)
	}
}

// Promise 1.4.

func TestNilWriter(t *testing.T) {
	var w *octet.Writer
	checkBytes(t, w)
	w.Raw()
	w.Raw([]byte{1}, []byte{2, 3})
	for _, n := range append([]int{1, 2, 8}, noWidths...) {
		for _, v := range []uint64{0, 1, math.MaxUint64} {
			if w.Num(n, v) {
				t.Fatalf("Num(%d, %d) was taken", n, v)
			}
		}
	}
	checkBytes(t, w)
}

func TestNilReader(t *testing.T) {
	var r *octet.Reader
	checkSpent(t, r)
	if r.Take(0) != nil {
		t.Fatal("a nil reader has bytes")
	}
}

// Promise P1: the same calls give the same results, and none of them panics.

func TestWrittenIsRead(t *testing.T) {
	w := octet.Write()
	values := []uint64{0, 1, 127, 128, 255, 256, 65535, 65536, 1<<24 - 1, 1 << 24, 1<<32 - 1, 1 << 32, 1 << 40, 1 << 48, 1 << 56, 1 << 63, math.MaxUint64}
	var put []uint64
	for _, v := range values {
		for n := 1; n <= 8; n++ {
			if w.Num(n, v) != (v <= greatest(n)) {
				t.Fatalf("Num(%d, %d)", n, v)
			}
			if v <= greatest(n) {
				put = append(put, uint64(n), v)
			}
		}
	}
	r := octet.Read(w.Bytes())
	for i := 0; i < len(put); i += 2 {
		if v := r.Num(int(put[i])); v != put[i+1] {
			t.Fatalf("Num(%d) is %d, not %d", put[i], v, put[i+1])
		}
	}
	checkOpen(t, r, 0)
}
