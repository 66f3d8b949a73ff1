package varint_test

import (
	"bytes"
	"math"
	"slices"
	"testing"

	"repertory/octet"
	"repertory/varint"
)

// form is the encoding of v by its definition: all ten digits, then without the superfluous ones.
func form(v uint64) []byte {
	var b []byte
	for range 10 {
		b = append(b, byte(v%128)+128)
		v /= 128
	}
	for len(b) > 1 && b[len(b)-1] == 128 {
		b = b[:len(b)-1]
	}
	b[len(b)-1] -= 128
	return b
}

// numbers are those around every power of two, ascending.
func numbers() []uint64 {
	list := []uint64{300, 0x0102030405060708, 0xaaaaaaaaaaaaaaaa, 0x5555555555555555}
	for i := range 64 {
		p := uint64(1) << i
		list = append(list, p-1, p, p+1, -p, -p-1)
	}
	slices.Sort(list)
	return slices.Compact(list)
}

// forms are the greatest and the smallest number of every length, with their encodings written out.
func forms() map[uint64][]byte {
	return map[uint64][]byte{
		0:              {0},
		1:              {1},
		127:            {127},
		128:            {128, 1},
		255:            {255, 1},
		300:            {172, 2},
		1<<14 - 1:      {255, 127},
		1 << 14:        {128, 128, 1},
		1<<21 - 1:      {255, 255, 127},
		1 << 21:        {128, 128, 128, 1},
		1<<28 - 1:      {255, 255, 255, 127},
		1 << 28:        {128, 128, 128, 128, 1},
		1<<32 - 1:      {255, 255, 255, 255, 15},
		1<<35 - 1:      {255, 255, 255, 255, 127},
		1 << 35:        {128, 128, 128, 128, 128, 1},
		1<<42 - 1:      {255, 255, 255, 255, 255, 127},
		1 << 42:        {128, 128, 128, 128, 128, 128, 1},
		1<<49 - 1:      {255, 255, 255, 255, 255, 255, 127},
		1 << 49:        {128, 128, 128, 128, 128, 128, 128, 1},
		1<<56 - 1:      {255, 255, 255, 255, 255, 255, 255, 127},
		1 << 56:        {128, 128, 128, 128, 128, 128, 128, 128, 1},
		1<<63 - 1:      {255, 255, 255, 255, 255, 255, 255, 255, 127},
		1 << 63:        {128, 128, 128, 128, 128, 128, 128, 128, 128, 1},
		math.MaxUint64: {255, 255, 255, 255, 255, 255, 255, 255, 255, 1},
	}
}

// noForms are bytes with which no encoding begins.
func noForms() [][]byte {
	list := [][]byte{{128, 0}, {129, 0}, {255, 0}, {128, 128, 0}, {255, 128, 0}}
	for n := range 10 { // superfluous digits at every place
		list = append(list, append(bytes.Repeat([]byte{128}, n), 128, 0))
		list = append(list, append(bytes.Repeat([]byte{255}, n), 128, 0))
	}
	for _, last := range []byte{2, 3, 64, 65, 127, 128, 129, 130, 255} { // more than 64 bits
		list = append(list, append(bytes.Repeat([]byte{255}, 9), last))
		list = append(list, append(bytes.Repeat([]byte{128}, 9), last))
	}
	for _, first := range []byte{128, 129, 255} { // more than ten digits
		list = append(list, append(bytes.Repeat([]byte{first}, 10), 1))
		list = append(list, append(bytes.Repeat([]byte{first}, 9), 129, 1))
		list = append(list, append(bytes.Repeat([]byte{first}, 30), 1))
	}
	return list
}

// checkTaken reads v, whose encoding is next in b, with left bytes behind it.
func checkTaken(t *testing.T, b []byte, most, v uint64, left int) {
	t.Helper()
	r := octet.Read(b)
	if got := varint.Take(r, most); got != v {
		t.Fatalf("Take of %v with most %d is %d, not %d", b, most, got, v)
	}
	if r.Spent() || r.Left() != left {
		t.Fatalf("behind Take of %v: Spent %v, Left %d, not %d", b, r.Spent(), r.Left(), left)
	}
}

// checkRefused reads b and finds no encoding of a number up to most.
func checkRefused(t *testing.T, b []byte, most uint64) {
	t.Helper()
	r := octet.Read(b)
	for range 3 { // A spent reader stays spent.
		if got := varint.Take(r, most); got != 0 {
			t.Fatalf("Take of %v with most %d is %d", b, most, got)
		}
		if !r.Spent() || r.Left() != 0 || r.All() {
			t.Fatalf("the reader of %v with most %d is not spent", b, most)
		}
	}
}

func checkParsed(t *testing.T, b []byte, want ...uint64) {
	t.Helper()
	if got, ok := varint.Parse(b, len(want)); !ok || !slices.Equal(got, want) {
		t.Fatalf("Parse(%v, %d) is %v, %v, not %v", b, len(want), got, ok, want)
	}
}

func checkUnparsed(t *testing.T, b []byte, n int) {
	t.Helper()
	if got, ok := varint.Parse(b, n); ok || got != nil {
		t.Fatalf("Parse(%v, %d) is %v, %v", b, n, got, ok)
	}
}

// Promise 2.1.

func TestFormsWrittenOut(t *testing.T) {
	for v, want := range forms() {
		w := octet.Write()
		varint.Put(w, v)
		if got := w.Bytes(); !bytes.Equal(got, want) {
			t.Errorf("Put of %d appends %v, not %v", v, got, want)
		}
		if got := varint.Len(v); got != len(want) {
			t.Errorf("Len(%d) is %d, not %d", v, got, len(want))
		}
		if got := varint.List(v); !bytes.Equal(got, want) {
			t.Errorf("List(%d) is %v, not %v", v, got, want)
		}
	}
}

func TestFormsByDefinition(t *testing.T) {
	for _, v := range numbers() {
		want := form(v)
		if got := varint.List(v); !bytes.Equal(got, want) {
			t.Errorf("List(%d) is %v, not %v", v, got, want)
		}
		if got := varint.Len(v); got != len(want) {
			t.Errorf("Len(%d) is %d, not %d", v, got, len(want))
		}
	}
}

func TestLenIsUpToTen(t *testing.T) {
	for n := 1; n <= 9; n++ {
		greatest := uint64(1)<<(7*n) - 1
		if varint.Len(greatest) != n || varint.Len(greatest+1) != n+1 {
			t.Errorf("Len(%d) is %d, and %d of the next number", greatest, varint.Len(greatest), varint.Len(greatest+1))
		}
	}
	if varint.Len(math.MaxUint64) != 10 {
		t.Errorf("the greatest number has %d bytes", varint.Len(math.MaxUint64))
	}
}

func TestPutAppends(t *testing.T) {
	w := octet.Write()
	w.Raw([]byte{9, 0})
	want := []byte{9, 0}
	for _, v := range numbers() {
		varint.Put(w, v)
		w.Raw([]byte{0, 128})
		want = append(append(want, form(v)...), 0, 128)
		if w.Len() != len(want) {
			t.Fatalf("behind %d the writer has %d bytes, not %d", v, w.Len(), len(want))
		}
	}
	if !bytes.Equal(w.Bytes(), want) {
		t.Fatal("Put does not append encodings")
	}
}

func TestPutOnNilWriter(t *testing.T) {
	for _, v := range numbers() {
		varint.Put(nil, v)
	}
}

func TestListConcatenates(t *testing.T) {
	var want []byte
	for _, v := range numbers() {
		want = append(want, form(v)...)
	}
	if !bytes.Equal(varint.List(numbers()...), want) {
		t.Fatal("List does not concatenate encodings")
	}
	if got := varint.List(5, 300, 0, 5); !bytes.Equal(got, []byte{5, 172, 2, 0, 5}) {
		t.Fatalf("List(5, 300, 0, 5) is %v", got)
	}
}

func TestListOfNothing(t *testing.T) {
	if len(varint.List()) != 0 || len(varint.List([]uint64{}...)) != 0 {
		t.Fatal("no numbers have bytes")
	}
}

// Promise 2.1 with rule R3.

func TestListChangesAndKeepsNothing(t *testing.T) {
	list := append(make([]uint64, 0, 9), 1, 300)
	one := varint.List(list...)
	one[0] = 77
	_ = append(one, 78)
	if two := varint.List(list...); !bytes.Equal(two, []byte{1, 172, 2}) {
		t.Fatalf("a second List is %v", two)
	}
	if !slices.Equal(list[:3], []uint64{1, 300, 0}) {
		t.Fatalf("the argument became %v", list[:3])
	}
}

// Promise 2.2.

func TestTakeIsBehindTheForm(t *testing.T) {
	for _, v := range numbers() {
		b := append(form(v), 0, 128, 255)
		checkTaken(t, b, v, v, 3)
		checkTaken(t, b, math.MaxUint64, v, 3)
		checkTaken(t, form(v), v, v, 0)
	}
}

func TestTakeFormsWrittenOut(t *testing.T) {
	for v, b := range forms() {
		checkTaken(t, b, math.MaxUint64, v, 0)
	}
}

func TestTakeInOrder(t *testing.T) {
	r := octet.Read(append([]byte{7}, varint.List(numbers()...)...))
	if r.Num(1) != 7 {
		t.Fatal("Num")
	}
	for _, v := range numbers() {
		if got := varint.Take(r, v); got != v || r.Spent() {
			t.Fatalf("Take is %d, not %d", got, v)
		}
	}
	if !r.All() {
		t.Fatalf("%d bytes remain", r.Left())
	}
}

func TestTakeOfZeroIsNotSpent(t *testing.T) {
	checkTaken(t, []byte{0}, 0, 0, 0)
	checkTaken(t, []byte{0, 0}, 0, 0, 1)
	checkTaken(t, []byte{0, 128}, math.MaxUint64, 0, 1)
}

func TestTakeOfTooMuchSpends(t *testing.T) {
	for _, v := range numbers() {
		if v == 0 {
			continue
		}
		b := append(form(v), 1, 2, 3)
		for _, most := range []uint64{0, v / 2, v - 1} {
			checkRefused(t, b, most)
			checkRefused(t, form(v), most)
		}
	}
}

func TestTakeOfNoFormSpends(t *testing.T) {
	for _, b := range noForms() {
		for _, most := range []uint64{0, 1, 127, 128, 1 << 63, math.MaxUint64} {
			checkRefused(t, b, most)
			checkRefused(t, append(slices.Clone(b), 0, 1), most)
			checkRefused(t, append(slices.Clone(b), make([]byte, 20)...), most)
		}
	}
}

func TestTakeOfUnfinishedFormSpends(t *testing.T) {
	for _, v := range numbers() {
		b := form(v)
		for n := range b {
			checkRefused(t, b[:n], math.MaxUint64)
		}
	}
	for n := range 30 {
		checkRefused(t, bytes.Repeat([]byte{128}, n), math.MaxUint64)
		checkRefused(t, bytes.Repeat([]byte{255}, n), math.MaxUint64)
	}
}

func TestTakeOfSpentAndNilReader(t *testing.T) {
	r := octet.Read([]byte{1, 2, 3})
	r.Take(4)
	for _, most := range []uint64{0, 1, math.MaxUint64} {
		if varint.Take(r, most) != 0 || !r.Spent() {
			t.Fatal("a spent reader has a number")
		}
		if varint.Take(nil, most) != 0 {
			t.Fatal("a nil reader has a number")
		}
	}
}

func TestTakeOfAllPairsOfBytes(t *testing.T) {
	for one := range uint64(256) {
		for two := range uint64(256) {
			b := []byte{byte(one), byte(two), 3}
			switch {
			case one < 128:
				checkTaken(t, b, math.MaxUint64, one, 2)
			case two == 0:
				checkRefused(t, b, math.MaxUint64)
			case two < 128:
				checkTaken(t, b, math.MaxUint64, one-128+128*two, 1)
			default:
				checkTaken(t, b, math.MaxUint64, one-128+128*(two-128)+3*128*128, 0)
			}
		}
	}
}

// Promise 2.3.

func TestParseExample(t *testing.T) {
	checkParsed(t, []byte{1, 172, 2}, 1, 300)
}

func TestParseIsTheInverseOfList(t *testing.T) {
	list := numbers()
	checkParsed(t, varint.List(list...), list...)
	slices.Reverse(list)
	checkParsed(t, varint.List(list...), list...)
	for _, v := range list {
		checkParsed(t, form(v), v)
		checkParsed(t, varint.List(v, v, 0), v, v, 0)
	}
}

func TestParseOfNothing(t *testing.T) {
	checkParsed(t, nil)
	checkParsed(t, []byte{})
	checkUnparsed(t, []byte{0}, 0)
	checkUnparsed(t, []byte{128}, 0)
	for _, n := range []int{1, 2, -1, math.MinInt, math.MaxInt} {
		checkUnparsed(t, nil, n)
		checkUnparsed(t, []byte{}, n)
	}
}

func TestParseOfAnotherCount(t *testing.T) {
	for _, list := range [][]uint64{{0}, {300}, {5, 300, 0}, {0, 0, 0, 0}, {math.MaxUint64, 1}, numbers()} {
		b := varint.List(list...)
		checkParsed(t, b, list...)
		for _, n := range []int{0, len(list) - 1, len(list) + 1, 2*len(list) + 1, len(b) + 1, 1 << 31, math.MaxInt, -1, -len(list), math.MinInt} {
			if n != len(list) {
				checkUnparsed(t, b, n)
			}
		}
	}
}

func TestParseOfUnfinishedBytes(t *testing.T) {
	b := varint.List(5, 300, math.MaxUint64)
	for _, end := range []int{0, 2, 4, 12} {
		for n := range 5 {
			if !(end == 0 && n == 0) {
				checkUnparsed(t, b[:end], n)
			}
		}
	}
	checkParsed(t, b[:1], 5)
	checkParsed(t, b[:3], 5, 300)
}

func TestParseOfNoForms(t *testing.T) {
	for _, b := range noForms() {
		for n := range 14 {
			checkUnparsed(t, b, n)
			checkUnparsed(t, append([]byte{172, 2, 0}, b...), n)
			checkUnparsed(t, append(slices.Clone(b), 172, 2, 0), n)
		}
	}
}

func TestParseOfMoreBytes(t *testing.T) {
	for _, more := range [][]byte{{0}, {1}, {127}, {128}, {255}, {128, 0}, {172, 2}} {
		checkUnparsed(t, append([]byte{1, 172, 2}, more...), 2)
		checkUnparsed(t, more, 0)
	}
}

// Promise 2.3 with rule R3.

func TestParseChangesAndKeepsNothing(t *testing.T) {
	b := append(make([]byte, 0, 9), 1, 172, 2)
	one, _ := varint.Parse(b, 2)
	two, _ := varint.Parse(b, 2)
	one[0] = 77
	_ = append(one, 78)
	if !slices.Equal(two, []uint64{1, 300}) || !bytes.Equal(b[:5], []byte{1, 172, 2, 0, 0}) {
		t.Fatalf("Parse shares: %v, %v", two, b[:5])
	}
	b[0] = 9
	if !slices.Equal(two, []uint64{1, 300}) {
		t.Fatalf("Parse keeps its argument: %v", two)
	}
}

// Promise 2.4.

func TestSmallerIsNotLonger(t *testing.T) {
	list := numbers()
	for i := 1; i < len(list); i++ {
		if varint.Len(list[i-1]) > varint.Len(list[i]) || len(varint.List(list[i-1])) > len(varint.List(list[i])) {
			t.Fatalf("the encoding of %d is longer than that of %d", list[i-1], list[i])
		}
	}
}

func TestNoFormIsAPrefixOfAnother(t *testing.T) {
	list := numbers()
	for v := range uint64(1000) {
		list = append(list, v)
	}
	slices.Sort(list)
	list = slices.Compact(list)
	var encodings [][]byte
	for _, v := range list {
		encodings = append(encodings, varint.List(v))
	}
	for i, one := range encodings {
		for j, two := range encodings {
			if i != j && bytes.HasPrefix(two, one) {
				t.Fatalf("the encoding of %d is a prefix of that of %d", list[i], list[j])
			}
		}
	}
}
