package inode_test

import (
	"bytes"
	"math"
	"math/rand"
	"testing"

	"repertory/api"
	"repertory/inode"
)

// model is a file by its definition: each byte with whether it is durable.
type model struct {
	bytes []byte
	safe  []bool
}

func modelOf(b []byte) *model {
	m := &model{}
	m.append(b)
	m.sync()
	return m
}

func (m *model) append(b []byte) bool {
	if len(m.bytes)+len(b) > api.MaxFile {
		return false
	}
	m.bytes = append(m.bytes, b...)
	m.safe = append(m.safe, make([]bool, len(b))...)
	return true
}

func (m *model) sync() {
	for i := range m.safe {
		m.safe[i] = true
	}
}

func (m *model) flip(bit int) bool {
	if bit < 0 || bit >= 8*len(m.bytes) {
		return false
	}
	m.bytes[bit/8] ^= 1 << (bit % 8)
	return true
}

// durable is how many bytes are durable.
func (m *model) durable() int {
	n := 0
	for _, safe := range m.safe {
		if safe {
			n++
		}
	}
	return n
}

// sectors is how many sectors contain bytes that are not durable.
func (m *model) sectors() int {
	list := map[int]bool{}
	for i, safe := range m.safe {
		if !safe {
			list[i/16] = true
		}
	}
	return len(list)
}

// crash goes through the bytes one by one, and takes a cut with the first one of each sector that needs one.
func (m *model) crash(size int, cuts []int) int {
	var left []byte
	used, sector, cut := 0, -1, 0
	for i, v := range m.bytes {
		if m.safe[i] {
			left = append(left, v)
			continue
		}
		if size <= 0 {
			break
		}
		size--
		if i/16 != sector {
			sector, cut = i/16, 0
			if used < len(cuts) {
				cut = cuts[used]
				used++
			}
		}
		if i%16 >= cut {
			v = 0
		}
		left = append(left, v)
	}
	*m = *modelOf(left)
	return used
}

// check compares all that a file tells with what it should.
func (m *model) check(t *testing.T, f *inode.File) {
	t.Helper()
	checkFile(t, f, m.bytes, m.durable(), m.sectors())
}

func checkFile(t *testing.T, f *inode.File, want []byte, safe, sectors int) {
	t.Helper()
	if got := f.Bytes(); !bytes.Equal(got, want) {
		t.Fatalf("Bytes is %x, not %x", brief(got), brief(want))
	}
	if f.Len() != len(want) || f.Safe() != safe || f.Sectors() != sectors {
		t.Fatalf("Len %d, Safe %d, Sectors %d, not %d, %d, %d", f.Len(), f.Safe(), f.Sectors(), len(want), safe, sectors)
	}
}

// brief are at most the first bytes of b, for messages.
func brief(b []byte) []byte { return b[:min(len(b), 100)] }

// sample are n bytes, none of them 0, of which no two behind one another are equal.
func sample(n int) []byte {
	b := make([]byte, n)
	for i := range b {
		b[i] = byte(1 + i%255)
	}
	return b
}

// written is a file of a sample, of which the bytes up to safe are durable.
func written(t *testing.T, safe, size int) (*inode.File, *model) {
	t.Helper()
	b := sample(size)
	f, m := inode.New(b[:safe]...), modelOf(b[:safe])
	if !f.Append(b[safe:]...) || !m.append(b[safe:]) {
		t.Fatalf("%d bytes were not appended to %d", size-safe, safe)
	}
	return f, m
}

// checkCrash crashes a file and its model, and compares.
func checkCrash(t *testing.T, f *inode.File, m *model, size int, cuts ...int) {
	t.Helper()
	before := m.bytes
	want := m.crash(size, cuts)
	if got := f.Crash(size, cuts...); got != want {
		t.Fatalf("Crash(%d, %v) of %x used %d cuts, not %d", size, cuts, brief(before), got, want)
	}
	m.check(t, f)
}

// Promise 8.1.

func TestNew(t *testing.T) {
	checkFile(t, inode.New(), nil, 0, 0)
	checkFile(t, inode.New([]byte{}...), nil, 0, 0)
	checkFile(t, inode.New(0), []byte{0}, 1, 0)
	checkFile(t, inode.New('a', 'b', 255), []byte("ab\xff"), 3, 0)
	for n := range 70 {
		checkFile(t, inode.New(sample(n)...), sample(n), n, 0)
	}
	checkFile(t, inode.New(sample(api.MaxFile)...), sample(api.MaxFile), api.MaxFile, 0)
}

func TestNewOfMoreThanAFileCanHold(t *testing.T) {
	for _, n := range []int{api.MaxFile + 1, 2 * api.MaxFile} {
		f := inode.New(sample(n)...)
		for _, more := range [][]byte{nil, {}, {1}, make([]byte, api.MaxFile)} {
			if f.Append(more...) {
				t.Fatalf("%d bytes were appended to %d", len(more), n)
			}
			checkFile(t, f, sample(n), n, 0)
		}
	}
}

func TestFilesAreApart(t *testing.T) {
	b := []byte("ab")
	one, two := inode.New(b...), inode.New(b...)
	one.Append('c')
	two.Append('d')
	one.Flip(0)
	one.Sync()
	checkFile(t, one, []byte("`bc"), 3, 0)
	checkFile(t, two, []byte("abd"), 2, 1)
}

func TestAppendInOrder(t *testing.T) {
	f := inode.New(1)
	for _, more := range [][]byte{{2}, nil, {3, 4, 0}, {}, {255}} {
		if !f.Append(more...) {
			t.Fatalf("%v was not appended", more)
		}
	}
	checkFile(t, f, []byte{1, 2, 3, 4, 0, 255}, 1, 1)
}

func TestAppendOfNothing(t *testing.T) {
	for n := range 40 {
		f, m := written(t, n/2, n)
		if !f.Append() || !f.Append(nil...) {
			t.Fatal("nothing was not appended")
		}
		m.check(t, f)
	}
}

func TestAppendByteByByte(t *testing.T) {
	f, m := inode.New(), modelOf(nil)
	for i := range 600 {
		if !f.Append(byte(i)) || !m.append([]byte{byte(i)}) {
			t.Fatalf("byte %d was not appended", i)
		}
		m.check(t, f)
		if i%37 == 0 {
			f.Sync()
			m.sync()
			m.check(t, f)
		}
	}
}

func TestAppendUpToTheLimit(t *testing.T) {
	for _, n := range []int{0, 1, 15, 16, 17, api.MaxFile / 2, api.MaxFile - 17, api.MaxFile - 2, api.MaxFile - 1, api.MaxFile} {
		f := inode.New(make([]byte, n)...)
		for _, more := range []int{1, 2, 16, 1000, api.MaxFile} {
			if f.Append(sample(api.MaxFile - n + more)...) {
				t.Fatalf("%d bytes were appended to %d", api.MaxFile-n+more, n)
			}
			checkFile(t, f, make([]byte, n), n, 0)
		}
		if !f.Append(sample(api.MaxFile - n)...) {
			t.Fatalf("%d bytes were not appended to %d", api.MaxFile-n, n)
		}
		whole := append(make([]byte, n), sample(api.MaxFile-n)...)
		checkFile(t, f, whole, n, api.MaxFile/16-n/16)
		if f.Append(0) || !f.Append() {
			t.Fatal("a full file takes a byte, or does not take none")
		}
		checkFile(t, f, whole, n, api.MaxFile/16-n/16)
	}
}

func TestAppendOfLessAfterRefusal(t *testing.T) {
	f := inode.New(make([]byte, api.MaxFile-2)...)
	if f.Append(1, 2, 3) || !f.Append(4) || f.Append(5, 6) || !f.Append(7) || f.Append(8) {
		t.Fatal("Append")
	}
	checkFile(t, f, append(make([]byte, api.MaxFile-2), 4, 7), api.MaxFile-2, 1)
}

func TestSync(t *testing.T) {
	for size := range 70 {
		for safe := range size + 1 {
			f, m := written(t, safe, size)
			m.check(t, f)
			for range 2 {
				f.Sync()
				checkFile(t, f, sample(size), size, 0)
			}
		}
	}
}

func TestSafeIsUpToTheLastSync(t *testing.T) {
	f := inode.New(1, 2)
	f.Append(3)
	f.Append(4, 5)
	checkFile(t, f, []byte{1, 2, 3, 4, 5}, 2, 1)
	f.Sync()
	checkFile(t, f, []byte{1, 2, 3, 4, 5}, 5, 0)
	f.Append(6)
	checkFile(t, f, []byte{1, 2, 3, 4, 5, 6}, 5, 1)
}

func TestSectorsWrittenOut(t *testing.T) {
	for _, x := range [][3]int{{0, 0, 0}, {0, 1, 1}, {0, 16, 1}, {0, 17, 2}, {0, 32, 2}, {0, 33, 3}, {1, 1, 0}, {14, 18, 2}, {15, 16, 1}, {15, 17, 2}, {16, 16, 0}, {16, 17, 1}, {16, 32, 1}, {16, 33, 2}, {17, 32, 1}, {2, 36, 3}, {0, api.MaxFile, 65536}, {15, api.MaxFile, 65536}, {16, api.MaxFile, 65535}, {api.MaxFile - 1, api.MaxFile, 1}} {
		f, _ := written(t, x[0], x[1])
		if got := f.Sectors(); got != x[2] {
			t.Errorf("with %d of %d bytes durable, Sectors is %d, not %d", x[0], x[1], got, x[2])
		}
	}
}

// Promise 8.1 with rules R3 and R4.

func TestArgumentsAreNeitherKeptNorChanged(t *testing.T) {
	one := append(make([]byte, 0, 10), "ab"...)
	two := append(make([]byte, 0, 10), "cd"...)
	f := inode.New(one...)
	f.Append(two...)
	f.Append('e')
	f.Flip(0)
	f.Flip(16)
	if !bytes.Equal(one[:10], []byte("ab\x00\x00\x00\x00\x00\x00\x00\x00")) || !bytes.Equal(two[:10], []byte("cd\x00\x00\x00\x00\x00\x00\x00\x00")) {
		t.Fatalf("the arguments became %q and %q", one[:10], two[:10])
	}
	clear(one)
	clear(two)
	checkFile(t, f, []byte("`bbde"), 2, 1)
}

func TestBytesAreNew(t *testing.T) {
	f := inode.New('a')
	f.Append('b')
	one, two := f.Bytes(), f.Bytes()
	clear(one)
	_ = append(one[:1], "xyz"...)
	_ = append(one, "xyz"...)
	checkFile(t, f, []byte("ab"), 1, 1)
	f.Append('c')
	f.Flip(0)
	f.Crash(0)
	if string(two) != "ab" {
		t.Fatalf("earlier bytes became %q", two)
	}
}

func TestAsksChangeNothing(t *testing.T) {
	f, m := written(t, 14, 40)
	for range 3 {
		m.check(t, f)
	}
}

func TestFileTakesItsOwnBytes(t *testing.T) {
	f := inode.New('a', 'b')
	if !f.Append(f.Bytes()...) || !f.Append(f.Bytes()...) {
		t.Fatal("Append")
	}
	checkFile(t, f, []byte("abababab"), 2, 1)
}

// Promise 8.2.

func TestCrashExample(t *testing.T) {
	f := inode.New([]byte("abcdefghijklmn")...)
	f.Append([]byte("opqr")...)
	checkFile(t, f, []byte("abcdefghijklmnopqr"), 14, 2)
	if got := f.Crash(4, 15, 16); got != 2 {
		t.Fatalf("%d cuts were used", got)
	}
	checkFile(t, f, []byte("abcdefghijklmno\x00qr"), 18, 0)
}

func TestCrashWrittenOut(t *testing.T) {
	const whole = "0123456789abcdefghijklmnopqrstuvwxyz" // of which four bytes are durable
	for _, x := range []struct {
		size int
		cuts []int
		want string
		used int
	}{
		{32, []int{16, 16, 16}, whole, 3},
		{32, []int{16, 16, 4}, whole, 3},
		{32, []int{16, 16, 3}, whole[:35] + "\x00", 3},
		{32, []int{16, 16}, whole[:32] + "\x00\x00\x00\x00", 2},
		{28, []int{16, 16, 16}, whole[:32], 2},
		{29, []int{16, 16, 16}, whole[:33], 3},
		{20, []int{5, 1}, "01234" + zeros(11) + "g" + zeros(7), 2},
		{20, []int{0, 16}, "0123" + zeros(12) + whole[16:24], 2},
		{12, []int{4, 16}, "0123" + zeros(12), 1},
		{13, nil, "0123" + zeros(13), 0},
		{1, []int{5}, "01234", 1},
		{1, []int{4}, "0123\x00", 1},
		{0, []int{16, 16, 16}, "0123", 0},
		{-1, []int{16, 16, 16}, "0123", 0},
		{33, []int{16, 16, 16, 16}, whole, 3},
	} {
		f := inode.New([]byte(whole[:4])...)
		f.Append([]byte(whole[4:])...)
		if got := f.Crash(x.size, x.cuts...); got != x.used {
			t.Errorf("Crash(%d, %v) used %d cuts, not %d", x.size, x.cuts, got, x.used)
		}
		checkFile(t, f, []byte(x.want), len(x.want), 0)
	}
}

func zeros(n int) string { return string(make([]byte, n)) }

func TestCrashOfEveryLengthAndSize(t *testing.T) {
	for safe := range 35 {
		for more := range 36 {
			for size := -1; size <= more+1; size++ {
				for _, cuts := range [][]int{nil, {16, 16, 16, 16, 16, 16}, {7}, {3, 12, 0, 16, 5, 1}, {0, 0, 16, 16}} {
					f, m := written(t, safe, safe+more)
					checkCrash(t, f, m, size, cuts...)
				}
			}
		}
	}
}

func TestCrashWithEveryCut(t *testing.T) {
	for safe := range 17 {
		for one := -1; one <= 17; one++ {
			for two := -1; two <= 17; two++ {
				f, m := written(t, safe, 30)
				checkCrash(t, f, m, 30-safe, one, two)
			}
		}
	}
}

func TestCrashWithCutsThatNoSectorHas(t *testing.T) {
	for _, cut := range []int{-1, -2, -16, -17, math.MinInt, math.MinInt + 1} {
		f, m := written(t, 6, 50)
		checkCrash(t, f, m, 44, cut, cut, cut, cut)
		checkFile(t, f, append(sample(6), make([]byte, 44)...), 50, 0)
	}
	for _, cut := range []int{16, 17, 32, 100, math.MaxInt32, math.MaxInt - 16, math.MaxInt - 1, math.MaxInt} {
		f, m := written(t, 6, 50)
		checkCrash(t, f, m, 44, cut, cut, cut, cut)
		checkFile(t, f, sample(50), 50, 0)
	}
}

func TestCrashWithSizesThatNothingHas(t *testing.T) {
	for _, size := range []int{0, -1, -2, -50, math.MinInt, math.MinInt + 1} {
		f, m := written(t, 6, 50)
		checkCrash(t, f, m, size, 16, 16, 16, 16)
		checkFile(t, f, sample(6), 6, 0)
	}
	for _, size := range []int{44, 45, 50, 64, api.MaxFile, api.MaxFile + 1, math.MaxInt - 6, math.MaxInt - 1, math.MaxInt} {
		f, m := written(t, 6, 50)
		checkCrash(t, f, m, size, 16, 16, 16, 16)
		checkFile(t, f, sample(50), 50, 0)
	}
}

func TestCrashUsesACutForEachSector(t *testing.T) {
	for count := range 9 {
		for size := range 81 {
			f, m := written(t, 10, 90)
			cuts := make([]int, count)
			for i := range cuts {
				cuts[i] = 2 + 3*i
			}
			checkCrash(t, f, m, size, cuts...)
		}
	}
}

func TestCrashOfDurableBytesUsesNoCut(t *testing.T) {
	for n := range 40 {
		f, m := written(t, n, n)
		checkCrash(t, f, m, 5, 0, 0, 0)
		checkFile(t, f, sample(n), n, 0)
	}
}

func TestCrashMakesAllDurable(t *testing.T) {
	f, m := written(t, 5, 40)
	checkCrash(t, f, m, 20, 8, 3)
	left := f.Bytes()
	checkCrash(t, f, m, 0)
	checkCrash(t, f, m, -1, 16)
	checkCrash(t, f, m, 35, 0, 0, 0)
	checkFile(t, f, left, 25, 0)
}

func TestFileGoesOnAfterCrash(t *testing.T) {
	f, m := written(t, 5, 40)
	checkCrash(t, f, m, 6, 16)
	for range 5 {
		if !f.Append(sample(30)...) || !m.append(sample(30)) {
			t.Fatal("Append")
		}
		m.check(t, f)
		checkCrash(t, f, m, 19, 13, 9)
	}
}

func TestLostBytesDoNotReturn(t *testing.T) {
	f, m := written(t, 3, 60)
	checkCrash(t, f, m, 0)
	f.Append(make([]byte, 10)...)
	m.append(make([]byte, 10))
	m.check(t, f)
	checkCrash(t, f, m, 57, 16, 16, 16, 16)
	checkFile(t, f, append(sample(3), make([]byte, 10)...), 13, 0)
}

func TestCrashMakesRoom(t *testing.T) {
	f, m := written(t, 20, api.MaxFile)
	if f.Append(1) {
		t.Fatal("a full file takes a byte")
	}
	checkCrash(t, f, m, 30, 16, 16, 16)
	if f.Append(make([]byte, api.MaxFile-49)...) || !f.Append(make([]byte, api.MaxFile-50)...) || f.Append(1) {
		t.Fatal("a file of 50 bytes does not take just as many as it can hold")
	}
}

func TestCrashOfMuch(t *testing.T) {
	for _, safe := range []int{0, 1, 1000, api.MaxFile - 17, api.MaxFile - 1, api.MaxFile} {
		cuts := make([]int, api.MaxFile/16+5)
		for i := range cuts {
			cuts[i] = i % 20
		}
		for _, size := range []int{api.MaxFile, 100000, 16} {
			f, m := written(t, safe, api.MaxFile)
			checkCrash(t, f, m, size, cuts...)
			f, m = written(t, safe, api.MaxFile)
			checkCrash(t, f, m, size, cuts[:3]...)
		}
	}
}

// Promise 8.2 with rule R3.

func TestCutsStay(t *testing.T) {
	all := []int{3, -4, 99, 5, 6, 7}
	f, m := written(t, 2, 60)
	checkCrash(t, f, m, 58, all[:3]...)
	for i, want := range []int{3, -4, 99, 5, 6, 7} {
		if all[i] != want {
			t.Fatalf("the cuts became %v", all)
		}
	}
	left := f.Bytes()
	clear(all)
	checkFile(t, f, left, 60, 0)
}

// Promise 8.3.

func TestFlipWrittenOut(t *testing.T) {
	f := inode.New(0, 0, 255)
	for _, bit := range []int{0, 7, 9, 16, 23} {
		if !f.Flip(bit) {
			t.Fatalf("bit %d was not inverted", bit)
		}
	}
	checkFile(t, f, []byte{129, 2, 126}, 3, 0)
}

func TestFlipOfEveryBit(t *testing.T) {
	for _, x := range [][2]int{{0, 1}, {1, 1}, {3, 20}, {0, 33}, {33, 33}} {
		f, m := written(t, x[0], x[1])
		for bit := range 8 * x[1] {
			if !f.Flip(bit) || !m.flip(bit) {
				t.Fatalf("bit %d was not inverted", bit)
			}
			m.check(t, f)
		}
		for bit := range 8 * x[1] {
			if !f.Flip(bit) {
				t.Fatalf("bit %d was not inverted back", bit)
			}
		}
		checkFile(t, f, sample(x[1]), x[0], m.sectors())
	}
}

func TestFlipOfNoBit(t *testing.T) {
	for _, n := range []int{0, 1, 2, 15, 16, 17} {
		f, m := written(t, n/2, n)
		for _, bit := range []int{-1, -2, -7, -8, -9, -8 * n, math.MinInt, math.MinInt + 1, 8 * n, 8*n + 1, 8*n + 7, 8*n + 8, 8 * api.MaxFile, math.MaxInt32, math.MaxInt - 1, math.MaxInt} {
			if f.Flip(bit) {
				t.Fatalf("bit %d of %d bytes was inverted", bit, n)
			}
			m.check(t, f)
		}
	}
}

func TestFlipAtTheLimit(t *testing.T) {
	f := inode.New(make([]byte, api.MaxFile)...)
	if f.Flip(8*api.MaxFile) || !f.Flip(8*api.MaxFile-1) {
		t.Fatal("Flip")
	}
	checkFile(t, f, append(make([]byte, api.MaxFile-1), 128), api.MaxFile, 0)
}

func TestFlipOfLostBytes(t *testing.T) {
	f, m := written(t, 4, 20)
	checkCrash(t, f, m, 2, 5)
	if f.Flip(8*6) || f.Flip(8*19) || !f.Flip(8*5+1) {
		t.Fatal("Flip")
	}
	checkFile(t, f, []byte{1, 2, 3, 4, 5, 2}, 6, 0)
}

func TestFlippedBitsAreAsDurableAsTheirBytes(t *testing.T) {
	f, m := written(t, 4, 20)
	for _, bit := range []int{8, 8 * 5, 8 * 16} {
		f.Flip(bit)
		m.flip(bit)
	}
	checkCrash(t, f, m, 15, 16, 16)
	checkFile(t, f, []byte{1, 3, 3, 4, 5, 7, 7, 8, 9, 10, 11, 12, 13, 14, 15, 16, 16, 18, 19}, 19, 0)
}

// Promise 8.4.

func TestNilFile(t *testing.T) {
	var f *inode.File
	for range 2 {
		checkFile(t, f, nil, 0, 0)
		if f.Append() || f.Append(1) || f.Append(make([]byte, api.MaxFile+1)...) {
			t.Fatal("a nil file takes bytes")
		}
		for _, bit := range []int{0, 1, -1, 8, math.MinInt, math.MaxInt} {
			if f.Flip(bit) {
				t.Fatalf("bit %d of a nil file was inverted", bit)
			}
		}
		for _, size := range []int{0, 1, -1, math.MinInt, math.MaxInt} {
			if got := f.Crash(size) + f.Crash(size, 16) + f.Crash(size, -1, 3); got != 0 {
				t.Fatalf("the crash of a nil file used %d cuts", got)
			}
		}
		f.Sync()
	}
}

// Promise 8.5, and that of all operations together with rule R4.

// checkKept expects of a crash that durable bytes stay, and that every other byte stays, or is 0, or is lost with all behind it.
func checkKept(t *testing.T, before, after []byte, safe int) {
	t.Helper()
	if len(after) < safe || len(after) > len(before) || !bytes.Equal(after[:safe], before[:safe]) {
		t.Fatalf("of %x, with %d bytes durable, a crash left %x", brief(before), safe, brief(after))
	}
	for i, v := range after {
		if v != before[i] && v != 0 {
			t.Fatalf("a crash made %d of the byte %d at %d", v, before[i], i)
		}
	}
}

// someCuts are some cuts, most of them within a sector.
func someCuts(random *rand.Rand) []int {
	cuts := make([]int, random.Intn(8))
	for i := range cuts {
		cuts[i] = random.Intn(24) - 4
	}
	return cuts
}

func TestCrashesKeepWhatIsDurable(t *testing.T) {
	random := rand.New(rand.NewSource(85))
	for range 20000 {
		size := random.Intn(100)
		safe := random.Intn(size + 1)
		f, m := written(t, safe, size)
		before := f.Bytes()
		checkCrash(t, f, m, random.Intn(110)-5, someCuts(random)...)
		checkKept(t, before, f.Bytes(), safe)
	}
}

// operate applies one operation to both a file and its model.
func operate(t *testing.T, random *rand.Rand, f *inode.File, m *model) {
	t.Helper()
	switch random.Intn(8) {
	case 0, 1, 2, 3:
		b := make([]byte, random.Intn(40))
		random.Read(b)
		if f.Append(b...) != m.append(b) {
			t.Fatalf("%d bytes were appended, or not, to %d", len(b), len(m.bytes))
		}
	case 4, 5:
		bit := random.Intn(8*len(m.bytes)+20) - 10
		if f.Flip(bit) != m.flip(bit) {
			t.Fatalf("bit %d of %d bytes was inverted, or not", bit, len(m.bytes))
		}
	case 6:
		f.Sync()
		m.sync()
	case 7:
		before, safe := f.Bytes(), f.Safe()
		checkCrash(t, f, m, random.Intn(100)-10, someCuts(random)...)
		checkKept(t, before, f.Bytes(), safe)
	}
}

func TestManyOperations(t *testing.T) {
	for seed := range int64(300) {
		random := rand.New(rand.NewSource(seed))
		start := sample(random.Intn(40))
		f, m := inode.New(start...), modelOf(start)
		for range 100 {
			operate(t, random, f, m)
			m.check(t, f)
		}
	}
}

func TestManyOperationsNearTheLimit(t *testing.T) {
	refused := 0
	for seed := range int64(5) {
		random := rand.New(rand.NewSource(seed))
		start := sample(api.MaxFile - 60)
		f, m := inode.New(start...), modelOf(start)
		for range 30 {
			if !f.Append(sample(40)...) {
				refused++
			}
			m.append(sample(40))
			operate(t, random, f, m)
			m.check(t, f)
		}
	}
	if refused == 0 {
		t.Fatal("nothing was refused")
	}
}
