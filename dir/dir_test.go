package dir_test

import (
	"math"
	"math/rand"
	"slices"
	"strconv"
	"strings"
	"testing"

	"repertory/dir"
)

// pair is a name with its number.
type pair struct {
	name   string
	number int
}

// step is one operation: a "put", a "drop" or a "move".
type step struct {
	kind     string
	name, to string
	number   int
}

// model is a directory by its definition: the durable one, and the pending operations, which are performed anew for every question.
type model struct {
	durable []pair
	pending []step
}

func without(list []pair, name string) []pair {
	var left []pair
	for _, p := range list {
		if p.name != name {
			left = append(left, p)
		}
	}
	return left
}

func find(list []pair, name string) (int, bool) {
	for _, p := range list {
		if p.name == name {
			return p.number, true
		}
	}
	return 0, false
}

// after is what the durable directory becomes by some operations.
func (m *model) after(steps []step) []pair {
	list := slices.Clone(m.durable)
	for _, s := range steps {
		switch s.kind {
		case "put":
			list = append(list, pair{s.name, s.number})
		case "drop":
			list = without(list, s.name)
		case "move":
			n, _ := find(list, s.name)
			list = append(without(without(list, s.name), s.to), pair{s.to, n})
		}
	}
	slices.SortFunc(list, func(a, b pair) int { return strings.Compare(a.name, b.name) })
	return list
}

func (m *model) now() []pair { return m.after(m.pending) }

func (m *model) exists(name string) bool {
	_, ok := find(m.now(), name)
	return ok
}

// do performs an operation if it is possible.
func (m *model) do(s step) bool {
	if m.exists(s.name) == (s.kind == "put") {
		return false
	}
	if s.kind != "move" || s.name != s.to {
		m.pending = append(m.pending, s)
	}
	return true
}

func (m *model) sync() { m.durable, m.pending = m.now(), nil }

func (m *model) crash(keep []bool) {
	var left []step
	for i, s := range m.pending {
		if i >= len(keep) || !keep[i] {
			break
		}
		left = append(left, s)
	}
	m.durable, m.pending = m.after(left), nil
}

// check compares all that a directory tells with what it should; none are names that may not exist.
func (m *model) check(t *testing.T, d *dir.Dir, none ...string) {
	t.Helper()
	checkDir(t, d, m.now(), len(m.pending))
	for _, name := range none {
		want, exists := find(m.now(), name)
		if n, ok := d.Get(name); n != want || ok != exists {
			t.Fatalf("Get(%q) is %d, %v, not %d, %v", name, n, ok, want, exists)
		}
	}
}

// checkDir expects of a directory just the pairs, whose names rise, and so many pending operations.
func checkDir(t *testing.T, d *dir.Dir, want []pair, pending int) {
	t.Helper()
	var got []pair
	for _, name := range d.Names() {
		n, ok := d.Get(name)
		if !ok {
			t.Fatalf("%q is one of the names, but does not exist", name)
		}
		got = append(got, pair{name, n})
	}
	if !slices.Equal(got, want) {
		t.Fatalf("the directory is %v, not %v", brief(got), brief(want))
	}
	if d.Pending() != pending {
		t.Fatalf("Pending is %d, not %d", d.Pending(), pending)
	}
}

// brief are at most the first pairs of a list, for messages.
func brief(list []pair) []pair { return list[:min(len(list), 40)] }

// do performs one operation on a directory.
func do(d *dir.Dir, s step) bool {
	switch s.kind {
	case "put":
		return d.Put(s.name, s.number)
	case "drop":
		return d.Drop(s.name)
	default:
		return d.Move(s.name, s.to)
	}
}

func doBoth(t *testing.T, d *dir.Dir, m *model, s step) {
	t.Helper()
	want := m.do(s)
	if got := do(d, s); got != want {
		t.Fatalf("%v is answered by %v, not %v", s, got, want)
	}
}

// must performs operations that are all possible.
func must(t *testing.T, d *dir.Dir, steps ...step) {
	t.Helper()
	for _, s := range steps {
		if !do(d, s) {
			t.Fatalf("%v was refused", s)
		}
	}
}

func put(name string, number int) step { return step{kind: "put", name: name, number: number} }
func drop(name string) step            { return step{kind: "drop", name: name} }
func move(from, to string) step        { return step{kind: "move", name: from, to: to} }

// oddNames are names in ascending order by bytes, of which some are prefixes of others, or no texts.
func oddNames() []string {
	return []string{"", "\x00", "\x00\x00", "\x01", " ", "/", "0", "10", "9", "A", "B", "Z", "_", "a", "a\x00", "aa", "ab", "b", "ba", "z", "\x7f", "\x80", "\xc3", "\u00e9", "\u65e5", "\xff", "\xff\x00", "\xff\xff"}
}

// keeps are n times true.
func keeps(n int) []bool {
	list := make([]bool, n)
	for i := range list {
		list[i] = true
	}
	return list
}

// Promise 9.1.

func TestNew(t *testing.T) {
	d := dir.New()
	checkDir(t, d, nil, 0)
	for _, name := range oddNames() {
		if n, ok := d.Get(name); n != 0 || ok {
			t.Fatalf("Get(%q) of an empty directory is %d, %v", name, n, ok)
		}
	}
}

func TestDirectoriesAreApart(t *testing.T) {
	one, two := dir.New(), dir.New()
	must(t, one, put("a", 1), put("b", 2))
	must(t, two, put("a", 3))
	one.Sync()
	must(t, one, drop("a"))
	two.Crash(true)
	checkDir(t, one, []pair{{"b", 2}}, 1)
	checkDir(t, two, []pair{{"a", 3}}, 0)
	checkDir(t, dir.New(), nil, 0)
}

func TestGet(t *testing.T) {
	d := dir.New()
	must(t, d, put("one", 1), put("none", 0), put("less", -7), put("least", math.MinInt), put("most", math.MaxInt))
	for _, x := range []struct {
		name string
		n    int
		ok   bool
	}{{"one", 1, true}, {"none", 0, true}, {"less", -7, true}, {"least", math.MinInt, true}, {"most", math.MaxInt, true}, {"", 0, false}, {"On", 0, false}, {"on", 0, false}, {"One", 0, false}, {"one ", 0, false}, {"one\x00", 0, false}} {
		if n, ok := d.Get(x.name); n != x.n || ok != x.ok {
			t.Errorf("Get(%q) is %d, %v, not %d, %v", x.name, n, ok, x.n, x.ok)
		}
	}
}

func TestNamesAscendByBytes(t *testing.T) {
	names := oddNames()
	for seed := range int64(50) {
		d := dir.New()
		for _, i := range rand.New(rand.NewSource(seed)).Perm(len(names)) {
			must(t, d, put(names[i], i))
		}
		if got := d.Names(); !slices.Equal(got, names) {
			t.Fatalf("Names is %q, not %q", got, names)
		}
		for i, name := range names {
			if n, ok := d.Get(name); n != i || !ok {
				t.Fatalf("Get(%q) is %d, %v, not %d, true", name, n, ok, i)
			}
		}
	}
}

func TestNamesMayShareNumbers(t *testing.T) {
	d := dir.New()
	must(t, d, put("b", 4), put("a", 4), put("c", 4), drop("a"))
	checkDir(t, d, []pair{{"b", 4}, {"c", 4}}, 4)
}

func TestManyNames(t *testing.T) {
	d := dir.New()
	var want []pair
	for i := range 5000 {
		must(t, d, put(strconv.Itoa(i), i))
		want = append(want, pair{strconv.Itoa(i), i})
	}
	slices.SortFunc(want, func(a, b pair) int { return strings.Compare(a.name, b.name) })
	checkDir(t, d, want, 5000)
	long := strings.Repeat("x", 100000)
	must(t, d, put(long, 1), put(long+"y", 2))
	checkDir(t, d, append(want, pair{long, 1}, pair{long + "y", 2}), 5002)
}

// Promise 9.1 with rules R3 and R4.

func TestNamesAreNew(t *testing.T) {
	d := dir.New()
	must(t, d, put("b", 1), put("a", 2), put("c", 3))
	one, two := d.Names(), d.Names()
	clear(one)
	_ = append(one[:1], "x", "y")
	must(t, d, drop("a"), put("d", 4))
	if !slices.Equal(two, []string{"a", "b", "c"}) {
		t.Fatalf("earlier names became %q", two)
	}
	checkDir(t, d, []pair{{"b", 1}, {"c", 3}, {"d", 4}}, 5)
}

func TestAsksChangeNothing(t *testing.T) {
	d := dir.New()
	must(t, d, put("a", 1))
	d.Sync()
	must(t, d, put("b", 2))
	for range 3 {
		checkDir(t, d, []pair{{"a", 1}, {"b", 2}}, 1)
		if n, ok := d.Get("c"); n != 0 || ok {
			t.Fatal("c exists")
		}
	}
	d.Crash()
	checkDir(t, d, []pair{{"a", 1}}, 0)
}

// Promise 9.2.

func TestPut(t *testing.T) {
	d := dir.New()
	must(t, d, put("a", 1))
	for _, n := range []int{1, 2, 0, -1, math.MinInt, math.MaxInt} {
		if d.Put("a", n) {
			t.Fatalf("a name that exists was put with %d", n)
		}
		checkDir(t, d, []pair{{"a", 1}}, 1)
	}
	d.Sync()
	if d.Put("a", 2) {
		t.Fatal("a durable name was put")
	}
	checkDir(t, d, []pair{{"a", 1}}, 0)
}

func TestPutOfANumberZero(t *testing.T) {
	d := dir.New()
	must(t, d, put("a", 0))
	if d.Put("a", 0) || d.Put("a", 1) {
		t.Fatal("a name with the number 0 was put again")
	}
	must(t, d, move("a", "b"))
	checkDir(t, d, []pair{{"b", 0}}, 2)
	must(t, d, drop("b"), put("b", 7))
	checkDir(t, d, []pair{{"b", 7}}, 4)
}

func TestDrop(t *testing.T) {
	d := dir.New()
	if d.Drop("a") || d.Drop("") {
		t.Fatal("a name was dropped from an empty directory")
	}
	must(t, d, put("a", 1), put("b", 2), drop("a"))
	if d.Drop("a") || d.Drop("") || d.Drop("B") || d.Drop("b\x00") {
		t.Fatal("a name that does not exist was dropped")
	}
	checkDir(t, d, []pair{{"b", 2}}, 3)
	d.Sync()
	if d.Drop("a") {
		t.Fatal("a name that was dropped durably was dropped again")
	}
	checkDir(t, d, []pair{{"b", 2}}, 0)
	must(t, d, drop("b"))
	checkDir(t, d, nil, 1)
	must(t, d, put("b", 3))
	checkDir(t, d, []pair{{"b", 3}}, 2)
}

func TestMoveToANewName(t *testing.T) {
	d := dir.New()
	must(t, d, put("a", 1), put("b", 2), move("a", "c"))
	checkDir(t, d, []pair{{"b", 2}, {"c", 1}}, 3)
	if d.Move("a", "c") {
		t.Fatal("a name that was moved was moved again")
	}
	must(t, d, move("c", "a"))
	checkDir(t, d, []pair{{"a", 1}, {"b", 2}}, 4)
}

func TestMoveReplaces(t *testing.T) {
	d := dir.New()
	must(t, d, put("a", 1), put("b", 2), put("c", 3), move("a", "b"))
	checkDir(t, d, []pair{{"b", 1}, {"c", 3}}, 4)
	must(t, d, move("c", "b"))
	checkDir(t, d, []pair{{"b", 3}}, 5)
}

func TestMoveOfNoName(t *testing.T) {
	d := dir.New()
	must(t, d, put("a", 1), put("b", 2), drop("b"))
	for _, x := range [][2]string{{"b", "a"}, {"b", "c"}, {"b", "b"}, {"", "a"}, {"", ""}, {"A", "a"}, {"c", "c"}} {
		if d.Move(x[0], x[1]) {
			t.Fatalf("%q was moved to %q", x[0], x[1])
		}
		checkDir(t, d, []pair{{"a", 1}}, 3)
	}
}

func TestMoveToItself(t *testing.T) {
	d := dir.New()
	must(t, d, put("a", 1), put("", 2))
	for range 3 {
		must(t, d, move("a", "a"), move("", ""))
		checkDir(t, d, []pair{{"", 2}, {"a", 1}}, 2)
	}
	d.Sync()
	must(t, d, move("a", "a"))
	checkDir(t, d, []pair{{"", 2}, {"a", 1}}, 0)
	must(t, d, drop("a"), move("", ""), put("b", 3))
	d.Crash(true, false)
	checkDir(t, d, []pair{{"", 2}}, 0)
}

func TestOperationsOnOddNames(t *testing.T) {
	names := oddNames()
	for i, from := range names {
		for j, to := range names {
			d, m := dir.New(), &model{}
			for _, s := range []step{put(from, i), move(from, to), put(from, -1), move(to, from), drop(to), drop(from)} {
				doBoth(t, d, m, s)
				m.check(t, d, names...)
			}
			d.Crash(keeps(j)...)
			m.crash(keeps(j))
			m.check(t, d, names...)
		}
	}
}

// Promise 9.3.

func TestPendingCountsWhatWasDone(t *testing.T) {
	d := dir.New()
	for i, x := range []struct {
		step step
		ok   bool
		want int
	}{{put("a", 1), true, 1}, {put("a", 1), false, 1}, {drop("b"), false, 1}, {put("b", 2), true, 2}, {move("c", "a"), false, 2}, {move("a", "a"), true, 2}, {move("b", "a"), true, 3}, {drop("a"), true, 4}, {drop("a"), false, 4}, {move("a", "a"), false, 4}, {put("a", 1), true, 5}} {
		if ok := do(d, x.step); ok != x.ok || d.Pending() != x.want {
			t.Fatalf("step %d: %v is answered by %v, and then %d are pending", i, x.step, ok, d.Pending())
		}
	}
	for range 2 {
		d.Sync()
		checkDir(t, d, []pair{{"a", 1}}, 0)
	}
	must(t, d, drop("a"))
	checkDir(t, d, nil, 1)
}

func TestSyncMakesDurable(t *testing.T) {
	d := dir.New()
	must(t, d, put("a", 1), put("b", 2), put("c", 3), move("a", "b"), drop("c"), put("d", 4))
	d.Sync()
	for _, keep := range [][]bool{nil, {false}, {true, true, true}, {true, false}} {
		d.Crash(keep...)
		checkDir(t, d, []pair{{"b", 1}, {"d", 4}}, 0)
	}
}

func TestSyncOfAnEmptyDirectory(t *testing.T) {
	d := dir.New()
	d.Sync()
	checkDir(t, d, nil, 0)
	must(t, d, put("a", 1), drop("a"))
	d.Sync()
	checkDir(t, d, nil, 0)
	must(t, d, put("a", 2))
	d.Crash()
	checkDir(t, d, nil, 0)
}

func TestManyPending(t *testing.T) {
	d := dir.New()
	for i := range 10000 {
		must(t, d, put("a", i), drop("a"))
		if d.Pending() != 2*i+2 {
			t.Fatalf("after %d operations, Pending is %d", 2*i+2, d.Pending())
		}
	}
	d.Crash(keeps(12345)...)
	checkDir(t, d, []pair{{"a", 6172}}, 0)
}

// Promise 9.4.

func TestCrashExamples(t *testing.T) {
	for _, x := range []struct {
		keep bool
		want string
	}{{false, "a"}, {true, "b"}} {
		d := dir.New()
		must(t, d, put("a", 1))
		d.Sync()
		must(t, d, move("a", "b"))
		d.Crash(x.keep)
		checkDir(t, d, []pair{{x.want, 1}}, 0)
	}
	d := dir.New()
	must(t, d, put("a", 1), move("a", "b"))
	d.Crash(false, true)
	checkDir(t, d, nil, 0)
}

func TestCrashWrittenOut(t *testing.T) {
	start := []pair{{"a", 1}, {"b", 2}}
	for _, x := range []struct {
		keep []bool
		want []pair
	}{
		{nil, start},
		{[]bool{}, start},
		{[]bool{false}, start},
		{[]bool{false, true, true, true, true, true}, start},
		{[]bool{true}, []pair{{"b", 1}}},
		{[]bool{true, false, true, true, true, true}, []pair{{"b", 1}}},
		{[]bool{true, true}, []pair{{"a", 3}, {"b", 1}}},
		{[]bool{true, true, false, true, true}, []pair{{"a", 3}, {"b", 1}}},
		{[]bool{true, true, true}, []pair{{"a", 3}}},
		{[]bool{true, true, true, true}, []pair{{"c", 3}}},
		{[]bool{true, true, true, true, false, true}, []pair{{"c", 3}}},
		{[]bool{true, true, true, true, true}, []pair{{"b", 0}, {"c", 3}}},
		{[]bool{true, true, true, true, true, false}, []pair{{"b", 0}, {"c", 3}}},
		{[]bool{true, true, true, true, true, true, true}, []pair{{"b", 0}, {"c", 3}}},
	} {
		d := dir.New()
		must(t, d, put("a", 1), put("b", 2))
		d.Sync()
		must(t, d, move("a", "b"), put("a", 3), drop("b"), move("a", "c"), put("b", 0))
		d.Crash(x.keep...)
		checkDir(t, d, x.want, 0)
		d.Crash()
		checkDir(t, d, x.want, 0)
	}
}

func TestMovesToItselfUseNoElement(t *testing.T) {
	d := dir.New()
	must(t, d, put("a", 1), move("a", "a"), put("b", 2), move("b", "b"), put("c", 3))
	d.Crash(true, true, false)
	checkDir(t, d, []pair{{"a", 1}, {"b", 2}}, 0)
}

func TestRefusedOperationsUseNoElement(t *testing.T) {
	d := dir.New()
	must(t, d, put("a", 1))
	if d.Put("a", 2) || d.Drop("b") || d.Move("b", "a") {
		t.Fatal("something impossible was done")
	}
	must(t, d, put("b", 2), put("c", 3))
	d.Crash(true, true, false)
	checkDir(t, d, []pair{{"a", 1}, {"b", 2}}, 0)
}

// bitsOf are n bools, by the bits of a number.
func bitsOf(n, number int) []bool {
	list := make([]bool, n)
	for i := range list {
		list[i] = number>>i&1 == 1
	}
	return list
}

func TestCrashWithAllThatCanBeKept(t *testing.T) {
	steps := []step{put("c", 3), move("a", "d"), drop("b"), move("c", "b"), put("a", 9), move("d", "a")}
	for count := range len(steps) + 1 {
		for size := range len(steps) + 3 {
			for number := range 1 << size {
				d, m := dir.New(), &model{}
				doBoth(t, d, m, put("a", 1))
				doBoth(t, d, m, put("b", 2))
				d.Sync()
				m.sync()
				for _, s := range steps[:count] {
					doBoth(t, d, m, s)
				}
				d.Crash(bitsOf(size, number)...)
				m.crash(bitsOf(size, number))
				m.check(t, d, "a", "b", "c", "d")
			}
		}
	}
}

func TestCrashOfNothingPending(t *testing.T) {
	d := dir.New()
	d.Crash(true, false)
	checkDir(t, d, nil, 0)
	must(t, d, put("a", 1))
	d.Sync()
	for _, keep := range [][]bool{nil, {true}, {false}, keeps(1000), make([]bool, 1000)} {
		d.Crash(keep...)
		checkDir(t, d, []pair{{"a", 1}}, 0)
	}
}

func TestCrashIsDurable(t *testing.T) {
	d := dir.New()
	must(t, d, put("a", 1), put("b", 2), put("c", 3))
	d.Crash(true, true)
	checkDir(t, d, []pair{{"a", 1}, {"b", 2}}, 0)
	must(t, d, move("a", "b"), put("c", 4))
	checkDir(t, d, []pair{{"b", 1}, {"c", 4}}, 2)
	d.Crash()
	checkDir(t, d, []pair{{"a", 1}, {"b", 2}}, 0)
	must(t, d, drop("a"))
	d.Crash(true)
	checkDir(t, d, []pair{{"b", 2}}, 0)
	d.Crash()
	checkDir(t, d, []pair{{"b", 2}}, 0)
}

func TestLostOperationsDoNotReturn(t *testing.T) {
	d := dir.New()
	must(t, d, put("a", 1), put("b", 2), put("c", 3))
	d.Crash(true, false, true)
	d.Sync()
	d.Crash(true, true, true)
	checkDir(t, d, []pair{{"a", 1}}, 0)
	must(t, d, put("b", 5))
	d.Sync()
	checkDir(t, d, []pair{{"a", 1}, {"b", 5}}, 0)
}

// Promise 9.4 with rule R3.

func TestKeepStays(t *testing.T) {
	all := []bool{true, true, false, true, true}
	d := dir.New()
	must(t, d, put("a", 1), put("b", 2), put("c", 3), put("d", 4))
	d.Crash(all[:4]...)
	if !slices.Equal(all, []bool{true, true, false, true, true}) {
		t.Fatalf("keep became %v", all)
	}
	clear(all)
	checkDir(t, d, []pair{{"a", 1}, {"b", 2}}, 0)
}

// Promise 9.5.

func TestNilDirectory(t *testing.T) {
	var d *dir.Dir
	for range 2 {
		checkDir(t, d, nil, 0)
		for _, name := range oddNames() {
			if n, ok := d.Get(name); n != 0 || ok {
				t.Fatalf("Get(%q) of a nil directory is %d, %v", name, n, ok)
			}
			if d.Put(name, 1) || d.Drop(name) || d.Move(name, "a") || d.Move(name, name) {
				t.Fatalf("a nil directory did something with %q", name)
			}
		}
		d.Sync()
		d.Crash()
		d.Crash(true)
		d.Crash(false, true)
	}
}

// The promises together, with rule R4.

// operate does one thing to both a directory and its model.
func operate(t *testing.T, random *rand.Rand, d *dir.Dir, m *model, names []string) {
	t.Helper()
	name, to := names[random.Intn(len(names))], names[random.Intn(len(names))]
	switch random.Intn(20) {
	case 0:
		d.Sync()
		m.sync()
	case 1:
		keep := keeps(random.Intn(8))
		if len(keep) > 2 {
			keep[random.Intn(len(keep))] = random.Intn(2) == 0
		}
		d.Crash(keep...)
		m.crash(keep)
	case 2, 3, 4, 5, 6, 7, 8:
		doBoth(t, d, m, put(name, random.Intn(5)))
	case 9, 10, 11, 12:
		doBoth(t, d, m, drop(name))
	default:
		doBoth(t, d, m, move(name, to))
	}
}

func TestManyOperations(t *testing.T) {
	for seed := range int64(300) {
		random := rand.New(rand.NewSource(seed))
		names := []string{"", "a", "ab", "b", "\xff"}[:2+random.Intn(4)]
		d, m := dir.New(), &model{}
		for range 150 {
			operate(t, random, d, m, names)
			m.check(t, d, names...)
		}
	}
}

func TestManyOperationsOnOddNames(t *testing.T) {
	random := rand.New(rand.NewSource(9))
	names := oddNames()
	d, m := dir.New(), &model{}
	for range 3000 {
		operate(t, random, d, m, names)
		m.check(t, d, names...)
	}
}
