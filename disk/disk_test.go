package disk_test

import (
	"bytes"
	"maps"
	"math"
	"math/rand"
	"slices"
	"strconv"
	"strings"
	"testing"

	"repertory/api"
	"repertory/disk"
	"repertory/fault"
)

// content is a file by its definition: each byte with whether it is durable.
type content struct {
	bytes []byte
	safe  []bool
}

// crash leaves the durable bytes, and some of the others; it returns the cuts that it did not use.
func (c *content) crash(size int, cuts []int) []int {
	var left []byte
	sector, cut := -1, 0
	for i, v := range c.bytes {
		if c.safe[i] {
			left = append(left, v)
			continue
		}
		if size <= 0 {
			break
		}
		size--
		if i/16 != sector {
			sector, cut = i/16, 0
			if len(cuts) > 0 {
				cut, cuts = cuts[0], cuts[1:]
			}
		}
		if i%16 >= cut {
			v = 0
		}
		left = append(left, v)
	}
	c.bytes, c.safe = left, make([]bool, len(left))
	c.sync()
	return cuts
}

func (c *content) sync() {
	for i := range c.safe {
		c.safe[i] = true
	}
}

// model is a disk by its definition: it keeps the directory at the last SyncDir and the one after each operation since then. Its meter is a real one, which has its own tests.
type model struct {
	meter *fault.Meter
	room  int
	dirs  []map[string]*content
}

func modelOf(room int) *model {
	return &model{fault.New(), room, []map[string]*content{{}}}
}

func (m *model) now() map[string]*content { return m.dirs[len(m.dirs)-1] }

func (m *model) names() []string { return slices.Sorted(maps.Keys(m.now())) }

func (m *model) used() int {
	n := 0
	for _, c := range m.now() {
		n += len(c.bytes)
	}
	return n
}

// change makes a directory that is pending.
func (m *model) change(by func(names map[string]*content)) {
	names := maps.Clone(m.now())
	by(names)
	m.dirs = append(m.dirs, names)
}

// valid tells by the bytes that a name may have whether it may be one.
func valid(name string) bool {
	for _, c := range []byte(name) {
		if !strings.Contains("abcdefghijklmnopqrstuvwxyz0123456789-.", string([]byte{c})) {
			return false
		}
	}
	return name != "" && len(name) < 81
}

// do performs a step.
func (m *model) do(s step) api.Errno {
	if errno := m.meter.Step(); errno != api.OK {
		return errno
	}
	c, exists := m.now()[s.name]
	switch s.kind {
	case "create":
		return m.create(s.name)
	case "append":
		return m.append(c, bytes.Join(s.parts, nil))
	case "syncdir":
		m.dirs = m.dirs[len(m.dirs)-1:]
		return api.OK
	case "move":
		if !valid(s.to) {
			return api.ErrArg
		}
	}
	if !exists {
		return api.ErrNone
	}
	switch {
	case s.kind == "sync":
		c.sync()
	case s.kind == "drop":
		m.change(func(names map[string]*content) { delete(names, s.name) })
	case s.name != s.to:
		m.change(func(names map[string]*content) {
			names[s.to] = c
			delete(names, s.name)
		})
	}
	return api.OK
}

func (m *model) create(name string) api.Errno {
	if !valid(name) {
		return api.ErrArg
	}
	if m.now()[name] != nil {
		return api.ErrExist
	}
	if len(m.now()) == 256 {
		return api.ErrFull
	}
	m.change(func(names map[string]*content) { names[name] = &content{} })
	return api.OK
}

func (m *model) append(c *content, b []byte) api.Errno {
	if c == nil {
		return api.ErrNone
	}
	if len(c.bytes)+len(b) > 1048576 {
		return api.ErrLong
	}
	if m.used()+len(b) > m.room {
		return api.ErrFull
	}
	c.bytes = append(c.bytes, b...)
	c.safe = append(c.safe, make([]bool, len(b))...)
	return api.OK
}

// up leaves what a crash leaves.
func (m *model) up(x disk.Loss) {
	kept := 0
	for kept < len(m.dirs)-1 && kept < len(x.Keep) && x.Keep[kept] {
		kept++
	}
	m.dirs = m.dirs[kept : kept+1]
	cuts := x.Cuts
	for i, name := range m.names() {
		size := 0
		if i < len(x.Sizes) {
			size = x.Sizes[i]
		}
		cuts = m.now()[name].crash(size, cuts)
	}
	m.meter.Rise()
}

func (m *model) flip(name string, bit int) bool {
	c := m.now()[name]
	if c == nil || bit < 0 || bit >= 8*len(c.bytes) {
		return false
	}
	c.bytes[bit/8] ^= 1 << (bit % 8)
	return true
}

// check compares all that a disk tells with what it should.
func (m *model) check(t *testing.T, d *disk.Disk) {
	t.Helper()
	if d.Used() != m.used() || d.Room() != m.room || d.Pending() != len(m.dirs)-1 {
		t.Fatalf("Used %d, Room %d, Pending %d, not %d, %d, %d", d.Used(), d.Room(), d.Pending(), m.used(), m.room, len(m.dirs)-1)
	}
	checkMeter(t, d, m.meter.Steps(), m.meter.Down(), m.meter.Armed()...)
	if d.Down() {
		if d.Names() != nil {
			t.Fatalf("a disk that is down has the names %q", d.Names())
		}
		return
	}
	if !slices.Equal(d.Names(), m.names()) {
		t.Fatalf("Names is %q, not %q", d.Names(), m.names())
	}
	for name, c := range m.now() {
		checkRead(t, d, name, string(c.bytes))
	}
}

// step is one operation that is a step of the meter: "create", "append", "sync", "syncdir", "move" or "drop".
type step struct {
	kind     string
	name, to string
	parts    [][]byte
}

// String tells a step in messages.
func (s step) String() string {
	return s.kind + " " + strconv.Quote(s.name) + " " + strconv.Quote(s.to) + " " + strconv.Quote(string(brief(bytes.Join(s.parts, nil))))
}

// brief are at most the first bytes of b, for messages.
func brief(b []byte) []byte { return b[:min(len(b), 100)] }

func create(name string) step   { return step{kind: "create", name: name} }
func sync(name string) step     { return step{kind: "sync", name: name} }
func syncDir() step             { return step{kind: "syncdir"} }
func move(from, to string) step { return step{kind: "move", name: from, to: to} }
func drop(name string) step     { return step{kind: "drop", name: name} }

// write is an append of texts.
func write(name string, parts ...string) step {
	s := step{kind: "append", name: name}
	for _, p := range parts {
		s.parts = append(s.parts, []byte(p))
	}
	return s
}

// do performs one step on a disk.
func do(d *disk.Disk, s step) api.Errno {
	switch s.kind {
	case "create":
		return d.Create(s.name)
	case "append":
		return d.Append(s.name, s.parts...)
	case "sync":
		return d.Sync(s.name)
	case "syncdir":
		return d.SyncDir()
	case "move":
		return d.Move(s.name, s.to)
	default:
		return d.Drop(s.name)
	}
}

// expect performs a step that is answered by an error.
func expect(t *testing.T, d *disk.Disk, want api.Errno, s step) {
	t.Helper()
	if got := do(d, s); got != want {
		t.Fatalf("%v is answered by %d, not %d", s, got, want)
	}
}

// must performs steps that all succeed.
func must(t *testing.T, d *disk.Disk, steps ...step) {
	t.Helper()
	for _, s := range steps {
		expect(t, d, api.OK, s)
	}
}

// diskOf is a disk on which steps were performed.
func diskOf(t *testing.T, room int, steps ...step) *disk.Disk {
	t.Helper()
	d := disk.New(room)
	if d == nil {
		t.Fatalf("New(%d) is nil", room)
	}
	must(t, d, steps...)
	return d
}

// checkDisk expects just the files, given as names with their bytes in turn and by rising names, and so many pending operations.
func checkDisk(t *testing.T, d *disk.Disk, pending int, files ...string) {
	t.Helper()
	var names []string
	used := 0
	for i := 0; i < len(files); i += 2 {
		names = append(names, files[i])
		used += len(files[i+1])
		checkRead(t, d, files[i], files[i+1])
	}
	if !slices.Equal(d.Names(), names) {
		t.Fatalf("Names is %q, not %q", d.Names(), names)
	}
	if d.Used() != used || d.Pending() != pending {
		t.Fatalf("Used %d, Pending %d, not %d, %d", d.Used(), d.Pending(), used, pending)
	}
}

func checkRead(t *testing.T, d *disk.Disk, name, want string) {
	t.Helper()
	b, errno := d.Read(name)
	if errno != api.OK || string(b) != want {
		t.Fatalf("Read(%q) is %q, %d, not %q, 0", name, brief(b), errno, brief([]byte(want)))
	}
}

// checkNoRead expects an error and nothing else.
func checkNoRead(t *testing.T, d *disk.Disk, want api.Errno, names ...string) {
	t.Helper()
	for _, name := range names {
		if b, errno := d.Read(name); b != nil || errno != want {
			t.Fatalf("Read(%q) is %q, %d, not nil, %d", name, brief(b), errno, want)
		}
	}
}

// checkMeter expects so many steps, whether the disk is down, and just the faults, in order.
func checkMeter(t *testing.T, d *disk.Disk, steps int, down bool, armed ...fault.Fault) {
	t.Helper()
	if d.Steps() != steps || d.Down() != down || !slices.Equal(d.Armed(), armed) {
		t.Fatalf("Steps %d, Down %v, Armed %v, not %d, %v, %v", d.Steps(), d.Down(), d.Armed(), steps, down, armed)
	}
}

// loss is a loss that keeps so many pending operations.
func loss(kept int, sizes []int, cuts ...int) disk.Loss {
	return disk.Loss{Keep: keeps(kept), Sizes: sizes, Cuts: cuts}
}

func keeps(n int) []bool { return slices.Repeat([]bool{true}, n) }

// at is one fault.
func at(step, kind int) fault.Fault { return fault.Fault{At: step, Kind: kind} }

// faults are the kinds of faults with the errors of their steps.
func faults() map[int]api.Errno {
	return map[int]api.Errno{fault.Crash: api.ErrDown, fault.Full: api.ErrFull, fault.IO: api.ErrIO}
}

// badNames are names that are not valid.
func badNames() []string {
	return []string{"", "A", "aB", "Ba", "a b", " ", "a ", " a", "_", "a_b", "/", "a/b", "\x00", "a\x00", "\n", "a\n", "`", "{", ":", ",", "@", "*", "\x7f", "\x80", "a\xff", "\u00e9", "\u0430", strings.Repeat("a", 81), strings.Repeat("a", 82), strings.Repeat("-", 160), strings.Repeat("a", 336), strings.Repeat("a", 100000)}
}

// goodNames are valid names, rising.
func goodNames() []string {
	return []string{"-", "--", "-.", ".", "..", ".a", "0", "00", "9", "9-", "a", "a-", "a.", "a0", "aa", strings.Repeat("a", 79), strings.Repeat("a", 80), "k-0.e", "z", "z.z", strings.Repeat("z", 80)}
}

// Promise 11.1.

func TestNew(t *testing.T) {
	for _, room := range []int{0, 1, 20, api.MaxFile, math.MaxInt - 1, math.MaxInt} {
		d := diskOf(t, room)
		if d.Room() != room {
			t.Fatalf("Room of New(%d) is %d", room, d.Room())
		}
		checkDisk(t, d, 0)
		checkMeter(t, d, 0, false)
		checkNoRead(t, d, api.ErrNone, append(goodNames(), badNames()...)...)
	}
	for _, room := range []int{-1, -2, -api.MaxFile, math.MinInt + 1, math.MinInt} {
		if disk.New(room) != nil {
			t.Fatalf("New(%d) is a disk", room)
		}
	}
}

func TestDisksAreApart(t *testing.T) {
	one := diskOf(t, 10, create("a"), write("a", "xy"), sync("a"), syncDir())
	two := diskOf(t, 20, create("a"), create("b"), write("a", "12345"))
	two.Arm(at(1, fault.Crash))
	expect(t, two, api.ErrDown, drop("a"))
	checkDisk(t, one, 0, "a", "xy")
	checkMeter(t, one, 4, false)
	two.Up(loss(1, []int{3}, 2))
	checkDisk(t, two, 0, "a", "12\x00")
	one.Up(disk.Loss{})
	checkDisk(t, one, 0, "a", "xy")
	checkMeter(t, one, 4, false)
	checkMeter(t, two, 4, false)
	checkDisk(t, disk.New(10), 0)
}

func TestIsNameByBytes(t *testing.T) {
	for c := range 256 {
		one := string([]byte{byte(c)})
		want := c >= 97 && c <= 122 || c >= 48 && c <= 57 || c == 45 || c == 46
		for _, name := range []string{one, one + one, "a" + one, one + "a", "a" + one + "a", "0-." + one + "z", strings.Repeat("z", 79) + one, one + strings.Repeat("z", 79)} {
			if disk.IsName(name) != want {
				t.Fatalf("IsName(%q) is %v", name, !want)
			}
		}
	}
}

func TestIsNameByLength(t *testing.T) {
	for n := range 400 {
		for _, c := range []string{"a", "z", "0", "9", "-", "."} {
			if disk.IsName(strings.Repeat(c, n)) != (n >= 1 && n <= 80) {
				t.Fatalf("IsName is wrong about %d times %q", n, c)
			}
		}
	}
}

func TestIsNameWrittenOut(t *testing.T) {
	for _, name := range goodNames() {
		if !disk.IsName(name) {
			t.Errorf("%q is not a name", name)
		}
	}
	for _, name := range badNames() {
		if disk.IsName(name) {
			t.Errorf("%q is a name", name)
		}
	}
}

func TestUsedCountsFilesWithAName(t *testing.T) {
	d := diskOf(t, 100, create("a"), create("b"), create("c"), write("a", "123"), write("c", "1234567"))
	for _, x := range []struct {
		step step
		used int
	}{{write("b", "12345", "6"), 16}, {sync("c"), 16}, {move("a", "d"), 16}, {move("d", "c"), 9}, {drop("b"), 3}, {create("b"), 3}, {write("b", "1"), 4}, {syncDir(), 4}, {drop("b"), 3}, {drop("c"), 0}, {syncDir(), 0}} {
		must(t, d, x.step)
		if d.Used() != x.used || d.Room() != 100 {
			t.Fatalf("after %v, Used is %d, not %d", x.step, d.Used(), x.used)
		}
	}
}

func TestUsedAndPendingWhileDown(t *testing.T) {
	d := diskOf(t, 9, create("a"), write("a", "123"), syncDir(), create("b"), write("b", "45"), move("b", "c"))
	d.Fall()
	if d.Used() != 5 || d.Room() != 9 || d.Pending() != 2 {
		t.Fatalf("Used %d, Room %d, Pending %d", d.Used(), d.Room(), d.Pending())
	}
}

func TestPending(t *testing.T) {
	d := disk.New(10)
	for i, x := range []struct {
		step  step
		errno api.Errno
		want  int
	}{
		{create("a"), 0, 1}, {create("a"), 8, 1}, {create("A"), 1, 1}, {create("b"), 0, 2}, {write("a", "x"), 0, 2}, {sync("a"), 0, 2},
		{move("a", "a"), 0, 2}, {move("a", "b"), 0, 3}, {move("a", "b"), 7, 3}, {drop("a"), 7, 3}, {drop("b"), 0, 4}, {create("b"), 0, 5}, {syncDir(), 0, 0}, {syncDir(), 0, 0}, {drop("b"), 0, 1},
	} {
		expect(t, d, x.errno, x.step)
		if d.Pending() != x.want {
			t.Fatalf("after operation %d, Pending is %d, not %d", i, d.Pending(), x.want)
		}
	}
}

// The definition: a step that fails does nothing.

func TestStepsAreCounted(t *testing.T) {
	d := disk.New(3)
	for i, x := range []struct {
		step  step
		errno api.Errno
	}{
		{create("a"), api.OK}, {create("a"), api.ErrExist}, {create("A"), api.ErrArg}, {write("a", "xyz"), api.OK}, {write("a", "x"), api.ErrFull}, {write("b"), api.ErrNone}, {write("a"), api.OK},
		{sync("a"), api.OK}, {sync("b"), api.ErrNone}, {syncDir(), api.OK}, {syncDir(), api.OK}, {move("a", "a"), api.OK}, {move("a", "A"), api.ErrArg}, {move("b", "a"), api.ErrNone}, {drop("b"), api.ErrNone}, {drop("a"), api.OK},
	} {
		expect(t, d, x.errno, x.step)
		checkMeter(t, d, i+1, false)
	}
}

func TestOtherCallsAreNoSteps(t *testing.T) {
	d := diskOf(t, 9, create("a"), write("a", "xy"), syncDir())
	d.Arm(at(1, fault.IO))
	for range 3 {
		checkDisk(t, d, 0, "a", "xy")
		checkNoRead(t, d, api.ErrNone, "b", "B")
		if d.Room() != 9 || !d.Flip("a", 0) || !d.Flip("a", 0) || d.Flip("b", 0) || !disk.IsName("a") {
			t.Fatal("Room, Flip or IsName")
		}
		checkMeter(t, d, 3, false, at(1, fault.IO))
	}
	d.Up(disk.Loss{})
	checkMeter(t, d, 3, false)
}

// allSteps are steps that would all change a disk with the files a and b.
func allSteps() []step {
	return []step{create("c"), write("a", "12", "3"), sync("a"), syncDir(), move("a", "b"), move("a", "c"), drop("a")}
}

func TestAStepThatFailsDoesNothing(t *testing.T) {
	for _, s := range allSteps() {
		for kind, errno := range faults() {
			for _, again := range []bool{false, true} {
				d, m := disk.New(50), modelOf(50)
				for _, first := range []step{create("a"), create("b"), write("a", "xy"), sync("a"), syncDir(), write("a", "uvw"), create("d")} {
					must(t, d, first)
					m.do(first)
				}
				d.Arm(at(1, kind))
				m.meter.Arm(at(1, kind))
				expect(t, d, errno, s)
				m.meter.Step()
				m.check(t, d)
				if again && kind != fault.Crash {
					must(t, d, s)
					m.do(s)
					m.check(t, d)
				}
				x := loss(1, []int{2, 2, 2}, 4)
				d.Up(x)
				m.up(x)
				m.check(t, d)
			}
		}
	}
}

func TestAStepThatFailsTellsNoOtherError(t *testing.T) {
	for kind, errno := range faults() {
		for _, s := range []step{create("A"), create("a"), write("b", "x"), write("a", "xyz"), write("a", strings.Repeat("x", api.MaxFile+1)), sync("b"), move("a", "A"), move("b", "c"), drop("b")} {
			d := diskOf(t, 2, create("a"))
			d.Arm(at(1, kind))
			expect(t, d, errno, s)
			checkMeter(t, d, 2, kind == fault.Crash)
		}
	}
}

func TestStepsWhileDown(t *testing.T) {
	for _, crash := range []bool{false, true} {
		d := diskOf(t, 9, create("a"), create("b"), write("a", "xy"), syncDir(), create("d"))
		d.Arm(at(3, fault.IO))
		steps, left := 5, at(3, fault.IO)
		if crash {
			d.Arm(at(1, fault.Crash))
			expect(t, d, api.ErrDown, drop("a"))
			steps, left = 6, at(2, fault.IO)
		} else {
			d.Fall()
		}
		for _, s := range append(allSteps(), create("A"), sync("c"), drop("c"), move("a", "A")) {
			expect(t, d, api.ErrDown, s)
			checkMeter(t, d, steps, true, left)
		}
		d.Up(loss(1, nil))
		checkDisk(t, d, 0, "a", "", "b", "", "d", "")
	}
}

// The meter's methods, which are promoted.

func TestMeterOfADisk(t *testing.T) {
	d := disk.New(9)
	if n := d.Arm(at(2, fault.IO), at(0, fault.IO), at(1, 4), at(4, fault.Crash), at(9, fault.Full)); n != 3 {
		t.Fatalf("%d were armed", n)
	}
	checkMeter(t, d, 0, false, at(2, fault.IO), at(4, fault.Crash), at(9, fault.Full))
	must(t, d, create("a"))
	expect(t, d, api.ErrIO, create("b"))
	must(t, d, create("b"))
	checkMeter(t, d, 3, false, at(1, fault.Crash), at(6, fault.Full))
	expect(t, d, api.ErrDown, create("c"))
	checkMeter(t, d, 4, true, at(5, fault.Full))
	d.Up(loss(2, nil))
	checkMeter(t, d, 4, false)
	d.Fall()
	checkMeter(t, d, 4, true)
	if n := d.Arm(at(1, fault.Full)); n != 1 {
		t.Fatalf("%d were armed", n)
	}
	d.Up(disk.Loss{})
	must(t, d, create("c"))
	checkMeter(t, d, 5, false)
	checkDisk(t, d, 1, "a", "", "b", "", "c", "")
}

// Promise 11.2: Create.

func TestCreate(t *testing.T) {
	d := disk.New(0)
	for i, name := range goodNames() {
		must(t, d, create(name))
		checkRead(t, d, name, "")
		if d.Pending() != i+1 {
			t.Fatalf("Pending is %d, not %d", d.Pending(), i+1)
		}
		expect(t, d, api.ErrExist, create(name))
	}
	if !slices.Equal(d.Names(), goodNames()) {
		t.Fatalf("Names is %q", d.Names())
	}
	for _, name := range badNames() {
		expect(t, d, api.ErrArg, create(name))
		checkNoRead(t, d, api.ErrNone, name)
	}
	if !slices.Equal(d.Names(), goodNames()) || d.Pending() != len(goodNames()) {
		t.Fatalf("Names is %q", d.Names())
	}
}

func TestCreateOfAFileThatExists(t *testing.T) {
	d := diskOf(t, 9, create("a"), write("a", "xy"))
	expect(t, d, api.ErrExist, create("a"))
	checkDisk(t, d, 1, "a", "xy")
	must(t, d, sync("a"), syncDir())
	expect(t, d, api.ErrExist, create("a"))
	checkDisk(t, d, 0, "a", "xy")
	must(t, d, move("a", "b"), create("a"))
	checkDisk(t, d, 2, "a", "", "b", "xy")
	must(t, d, drop("b"), create("b"))
	checkDisk(t, d, 4, "a", "", "b", "")
}

// full is a disk with as many names as there can be.
func full(t *testing.T) *disk.Disk {
	t.Helper()
	d := disk.New(1000)
	for i := range 256 {
		must(t, d, create("f"+strconv.Itoa(i)))
	}
	return d
}

func TestCreateLimit(t *testing.T) {
	if api.MaxFiles != 256 {
		t.Fatalf("MaxFiles is %d", api.MaxFiles)
	}
	d := full(t)
	for range 2 {
		expect(t, d, api.ErrFull, create("g"))
		expect(t, d, api.ErrExist, create("f0"))
		expect(t, d, api.ErrExist, create("f255"))
		expect(t, d, api.ErrArg, create("F0"))
		if len(d.Names()) != 256 {
			t.Fatalf("there are %d names", len(d.Names()))
		}
		must(t, d, syncDir())
	}
	must(t, d, move("f0", "g"), write("g", "x"))
	expect(t, d, api.ErrFull, create("f0"))
	must(t, d, move("g", "f1"), create("f0"))
	expect(t, d, api.ErrFull, create("h"))
	must(t, d, drop("f7"), create("h"))
	expect(t, d, api.ErrFull, create("f7"))
	checkRead(t, d, "f1", "x")
	d.Up(loss(2, nil))
	if len(d.Names()) != 255 || d.Create("h") != api.OK || d.Create("g") != api.ErrFull {
		t.Fatalf("there are %d names", len(d.Names()))
	}
}

// Promise 11.2: Append.

func TestAppend(t *testing.T) {
	d := diskOf(t, 100, create("a"), create("b"), write("a"), write("a", ""), write("a", "", ""))
	checkDisk(t, d, 2, "a", "", "b", "")
	must(t, d, write("a", "1"), write("b", "x", "", "yz"), write("a", "2", "34", "5"), write("a"), write("b", "", "w"))
	checkDisk(t, d, 2, "a", "12345", "b", "xyzw")
	must(t, d, step{kind: "append", name: "a", parts: [][]byte{nil, {0, 255}, nil}})
	checkDisk(t, d, 2, "a", "12345\x00\xff", "b", "xyzw")
}

func TestAppendToNoFile(t *testing.T) {
	d := diskOf(t, 0, create("a"), create("b"), drop("b"))
	for _, name := range append(badNames(), "b", "c", "aa") {
		expect(t, d, api.ErrNone, write(name))
		expect(t, d, api.ErrNone, write(name, "x"))
		expect(t, d, api.ErrNone, write(name, strings.Repeat("x", api.MaxFile), "x"))
	}
	checkDisk(t, d, 3, "a", "")
}

func TestAppendUpToTheLongestFile(t *testing.T) {
	if api.MaxFile != 1<<20 {
		t.Fatalf("MaxFile is %d", api.MaxFile)
	}
	long := strings.Repeat("long", api.MaxFile/4)
	d := diskOf(t, math.MaxInt, create("a"), create("b"), create("c"), write("a", long), write("b", "1"), write("c", long[:api.MaxFile-3]))
	for range 2 {
		expect(t, d, api.ErrLong, write("a", "x"))
		expect(t, d, api.ErrLong, write("a", "", "x", ""))
		expect(t, d, api.ErrLong, write("b", long))
		expect(t, d, api.ErrLong, write("b", long[:api.MaxFile-1], "x"))
		expect(t, d, api.ErrLong, write("c", "12", "34"))
		expect(t, d, api.ErrLong, write("c", long, long, long))
		must(t, d, write("a"), write("a", ""))
		checkDisk(t, d, 3, "a", long, "b", "1", "c", long[:api.MaxFile-3])
	}
	must(t, d, write("b", long[1:]), write("c", "1", "23"))
	checkDisk(t, d, 3, "a", long, "b", "1"+long[1:], "c", long[:api.MaxFile-3]+"123")
	expect(t, d, api.ErrLong, write("b", "x"))
	expect(t, d, api.ErrLong, write("c", "x"))
}

func TestAppendUpToTheCapacity(t *testing.T) {
	d := diskOf(t, 3, create("a"), create("b"))
	expect(t, d, api.ErrFull, write("a", "1234"))
	expect(t, d, api.ErrFull, write("a", "12", "34"))
	checkDisk(t, d, 2, "a", "", "b", "")
	must(t, d, write("a", "12"))
	expect(t, d, api.ErrFull, write("b", "12"))
	expect(t, d, api.ErrFull, write("a", "12"))
	must(t, d, write("b", "1"), write("a"), write("b", ""))
	expect(t, d, api.ErrFull, write("a", "1"))
	checkDisk(t, d, 2, "a", "12", "b", "1")
	must(t, d, drop("a"), write("b", "23"))
	expect(t, d, api.ErrFull, write("b", "4"))
	checkDisk(t, d, 3, "b", "123")
}

func TestAppendWithoutCapacity(t *testing.T) {
	d := diskOf(t, 0, create("a"), write("a"), write("a", "", ""))
	expect(t, d, api.ErrFull, write("a", "x"))
	checkDisk(t, d, 1, "a", "")
}

func TestAppendTellsTheLengthFirst(t *testing.T) {
	long := strings.Repeat("x", api.MaxFile)
	d := diskOf(t, 10, create("a"), write("a", "1"))
	expect(t, d, api.ErrLong, write("a", long))
	expect(t, d, api.ErrFull, write("a", long[1:]))
	d = diskOf(t, api.MaxFile, create("a"), create("b"), write("a", long[1:]), write("b", "1"))
	expect(t, d, api.ErrFull, write("a", "1"))
	expect(t, d, api.ErrLong, write("a", "12"))
	checkDisk(t, d, 2, "a", long[1:], "b", "1")
}

func TestManyLongFiles(t *testing.T) {
	long := bytes.Repeat([]byte("x"), api.MaxFile)
	d := disk.New(20*api.MaxFile + 5)
	for i := range 20 {
		if errno := d.Create(strconv.Itoa(i)); errno != api.OK {
			t.Fatal(errno)
		}
		if errno := d.Append(strconv.Itoa(i), long[:7], long[7:]); errno != api.OK {
			t.Fatal(errno)
		}
	}
	must(t, d, create("a"))
	expect(t, d, api.ErrFull, write("a", "123456"))
	must(t, d, write("a", "12345"))
	if d.Used() != d.Room() {
		t.Fatalf("Used is %d", d.Used())
	}
}

func TestACrashMayLeaveMoreThanTheCapacity(t *testing.T) {
	d := diskOf(t, 6, create("a"), create("b"), write("a", "123"), write("b", "456"), sync("a"), sync("b"), syncDir(), move("a", "b"), write("b", "789"))
	checkDisk(t, d, 1, "b", "123789")
	d.Up(disk.Loss{Sizes: []int{3}, Cuts: []int{16}})
	checkDisk(t, d, 0, "a", "123789", "b", "456")
	// Used exceeds the capacity already, and does so behind an append of nothing, too.
	expect(t, d, api.ErrFull, write("a"))
	expect(t, d, api.ErrFull, write("b", "x"))
	must(t, d, drop("b"), write("a"))
	expect(t, d, api.ErrFull, write("a", "x"))
	checkDisk(t, d, 1, "a", "123789")
}

// Promise 11.2: Sync and SyncDir.

func TestSyncMakesBytesDurable(t *testing.T) {
	d := diskOf(t, 100, create("a"), create("b"), syncDir(), write("a", "12"), write("b", "34"), sync("a"), write("a", "56"))
	d.Up(disk.Loss{})
	checkDisk(t, d, 0, "a", "12", "b", "")
	must(t, d, write("a", "7"), write("b", "8"), sync("b"), sync("b"))
	d.Up(disk.Loss{})
	checkDisk(t, d, 0, "a", "12", "b", "8")
}

func TestSyncOfNoFile(t *testing.T) {
	d := diskOf(t, 9, create("a"), create("b"), drop("b"))
	for _, name := range append(badNames(), "b", "c", "aa") {
		expect(t, d, api.ErrNone, sync(name))
	}
	must(t, d, sync("a"))
	checkDisk(t, d, 3, "a", "")
}

func TestSyncDirIsNoSync(t *testing.T) {
	d := diskOf(t, 9, create("a"), write("a", "xy"), syncDir())
	d.Up(loss(9, nil))
	checkDisk(t, d, 0, "a", "")
}

func TestSyncIsNoSyncDir(t *testing.T) {
	d := diskOf(t, 9, create("a"), write("a", "xy"), sync("a"))
	checkDisk(t, d, 1, "a", "xy")
	d.Up(loss(0, []int{9}, 16))
	checkDisk(t, d, 0)
}

func TestSyncDirMakesTheDirectoryDurable(t *testing.T) {
	d := diskOf(t, 100, create("a"), create("b"), create("c"), write("a", "1"), write("b", "2"), write("c", "3"), sync("a"), sync("b"), sync("c"), move("a", "b"), drop("c"), create("d"), syncDir())
	checkDisk(t, d, 0, "b", "1", "d", "")
	for _, x := range []disk.Loss{{}, loss(9, []int{1, 1, 1}, 16, 16), {Keep: []bool{false}}} {
		d.Up(x)
		checkDisk(t, d, 0, "b", "1", "d", "")
	}
}

func TestSyncWritesWhatWasMoved(t *testing.T) {
	d := diskOf(t, 100, create("a"), syncDir(), write("a", "12"), move("a", "b"), sync("b"), write("b", "34"))
	d.Up(disk.Loss{})
	checkDisk(t, d, 0, "a", "12")
}

// Promise 11.3.

func TestMove(t *testing.T) {
	d := diskOf(t, 100, create("a"), create("b"), write("a", "1"), write("b", "22"), move("a", "c"))
	checkDisk(t, d, 3, "b", "22", "c", "1")
	must(t, d, move("c", "b"))
	checkDisk(t, d, 4, "b", "1")
	must(t, d, write("b", "3"), create("a"), write("a", "4"), move("b", "a"))
	checkDisk(t, d, 6, "a", "13")
	for _, to := range goodNames() {
		must(t, d, move(d.Names()[0], to))
		if !slices.Equal(d.Names(), []string{to}) {
			t.Fatalf("Names is %q", d.Names())
		}
		checkRead(t, d, to, "13")
	}
}

func TestMoveToItself(t *testing.T) {
	d := diskOf(t, 9, create("a"), write("a", "12"), syncDir())
	for range 3 {
		must(t, d, move("a", "a"))
		checkDisk(t, d, 0, "a", "12")
	}
}

func TestMoveWithInvalidArguments(t *testing.T) {
	d := diskOf(t, 9, create("a"), write("a", "12"), create("b"), drop("b"))
	for _, to := range badNames() {
		expect(t, d, api.ErrArg, move("a", to))
		expect(t, d, api.ErrArg, move("b", to))
		expect(t, d, api.ErrArg, move(to, to))
		expect(t, d, api.ErrNone, move(to, "a"))
		expect(t, d, api.ErrNone, move(to, "c"))
	}
	for _, to := range []string{"a", "b", "c"} {
		expect(t, d, api.ErrNone, move("b", to))
		expect(t, d, api.ErrNone, move("c", to))
	}
	checkDisk(t, d, 3, "a", "12")
}

func TestDrop(t *testing.T) {
	d := diskOf(t, 9, create("a"), create("b"), write("a", "12"))
	for _, name := range append(badNames(), "c", "aa") {
		expect(t, d, api.ErrNone, drop(name))
	}
	must(t, d, drop("a"))
	expect(t, d, api.ErrNone, drop("a"))
	checkDisk(t, d, 3, "b", "")
	checkNoRead(t, d, api.ErrNone, "a")
	must(t, d, syncDir(), drop("b"))
	expect(t, d, api.ErrNone, drop("b"))
	checkDisk(t, d, 1)
	must(t, d, create("a"))
	checkDisk(t, d, 2, "a", "")
}

// Promise 11.4.

func TestReadAndNamesWhileDown(t *testing.T) {
	d := diskOf(t, 9, create("b"), create("a"), write("a", "12"), syncDir(), sync("a"))
	checkDisk(t, d, 0, "a", "12", "b", "")
	d.Fall()
	checkNoRead(t, d, api.ErrDown, "a", "b", "c", "A", "")
	if d.Names() != nil {
		t.Fatalf("Names is %q", d.Names())
	}
	d.Up(disk.Loss{})
	checkDisk(t, d, 0, "a", "12", "b", "")
}

func TestReadOfNoFile(t *testing.T) {
	d := diskOf(t, 9, create("a"), create("b"), drop("b"), move("a", "c"))
	checkNoRead(t, d, api.ErrNone, append(badNames(), "a", "b", "cc", "d")...)
	checkRead(t, d, "c", "")
}

func TestNamesAscend(t *testing.T) {
	names := goodNames()
	for seed := range int64(50) {
		d := disk.New(0)
		for _, i := range rand.New(rand.NewSource(seed)).Perm(len(names)) {
			must(t, d, create(names[i]))
		}
		if !slices.Equal(d.Names(), names) {
			t.Fatalf("Names is %q", d.Names())
		}
	}
}

// Promises 11.2 and 11.4 with rule R3.

func TestPartsStay(t *testing.T) {
	d := diskOf(t, 99, create("a"))
	whole := []byte("12345678")
	parts := [][]byte{whole[:3:8], whole[3:4], whole[4:6]}
	must(t, d, step{kind: "append", name: "a", parts: parts}, write("a", "xyz"))
	if string(whole) != "12345678" || len(parts) != 3 || len(parts[0]) != 3 || len(parts[1]) != 1 || len(parts[2]) != 2 {
		t.Fatalf("the parts became %q", parts)
	}
	clear(whole)
	clear(parts)
	checkDisk(t, d, 1, "a", "123456xyz")
}

func TestReadIsNew(t *testing.T) {
	d := diskOf(t, 99, create("a"), write("a", "12345"))
	one, _ := d.Read("a")
	two, _ := d.Read("a")
	clear(one)
	_ = append(one[:2], "xyzuvw"...)
	checkRead(t, d, "a", "12345")
	must(t, d, write("a", "6"))
	d.Flip("a", 0)
	d.Up(loss(1, []int{3}, 1))
	if string(two) != "12345" {
		t.Fatalf("earlier bytes became %q", two)
	}
}

func TestNamesAreNew(t *testing.T) {
	d := diskOf(t, 9, create("a"), create("c"))
	one, two := d.Names(), d.Names()
	clear(one)
	_ = append(one[:1], "x", "y")
	must(t, d, drop("a"), create("b"))
	if !slices.Equal(two, []string{"a", "c"}) {
		t.Fatalf("earlier names became %q", two)
	}
	checkDisk(t, d, 4, "b", "", "c", "")
}

func TestLossStays(t *testing.T) {
	d := diskOf(t, 99, create("a"), create("b"), write("a", "1234567890123456789"), write("b", "12"))
	keep, sizes, cuts := []bool{true, true, false, true}, []int{18, 2, 7}, []int{3, 1, 2, 5}
	d.Up(disk.Loss{Keep: keep[:3], Sizes: sizes[:2], Cuts: cuts[:3]})
	if !slices.Equal(keep, []bool{true, true, false, true}) || !slices.Equal(sizes, []int{18, 2, 7}) || !slices.Equal(cuts, []int{3, 1, 2, 5}) {
		t.Fatalf("the loss became %v, %v, %v", keep, sizes, cuts)
	}
	clear(keep)
	clear(sizes)
	clear(cuts)
	checkDisk(t, d, 0, "a", "123"+strings.Repeat("\x00", 13)+"7\x00", "b", "12")
}

// Promise 11.5: Up.

func TestUpExample(t *testing.T) {
	for kept, want := range [][]string{{}, {"a", "xy"}, {"a", "xy", "b", ""}} {
		d := diskOf(t, 9, create("a"), write("a", "xy"), sync("a"), create("b"))
		d.Up(loss(kept, nil))
		checkDisk(t, d, 0, want...)
	}
}

func TestUpKeepsUpToTheFirstFalse(t *testing.T) {
	for _, x := range []struct {
		keep []bool
		want []string
	}{
		{nil, []string{"a", "1", "b", "2"}},
		{[]bool{false, true, true, true}, []string{"a", "1", "b", "2"}},
		{[]bool{true, false, true, true}, []string{"b", "1"}},
		{[]bool{true, true, false, true}, []string{"a", "", "b", "1"}},
		{[]bool{true, true, true, false}, []string{"a", ""}},
		{[]bool{true, true, true, true}, []string{"c", ""}},
		{keeps(100), []string{"c", ""}},
	} {
		d := diskOf(t, 9, create("a"), create("b"), write("a", "1"), write("b", "2"), sync("a"), sync("b"), syncDir(), move("a", "b"), create("a"), drop("b"), move("a", "c"))
		d.Up(disk.Loss{Keep: x.keep})
		checkDisk(t, d, 0, x.want...)
	}
}

func TestUpGivesSizesByNames(t *testing.T) {
	for _, x := range []struct {
		sizes []int
		want  []string
	}{
		{nil, []string{"a", "A", "b", "B", "c", ""}},
		{[]int{1}, []string{"a", "A1", "b", "B", "c", ""}},
		{[]int{0, 1}, []string{"a", "A", "b", "B", "c", ""}},
		{[]int{0, 0, 1}, []string{"a", "A", "b", "B", "c", "3"}},
		{[]int{2, 7, 3, 9}, []string{"a", "A12", "b", "B", "c", "345"}},
		{[]int{100, -1, 2}, []string{"a", "A12", "b", "B", "c", "34"}},
		{[]int{-1, 3, math.MinInt}, []string{"a", "A", "b", "B", "c", ""}},
		{[]int{math.MaxInt, math.MaxInt, math.MaxInt}, []string{"a", "A12", "b", "B", "c", "345"}},
	} {
		// The file b has nothing to lose, and takes an element nevertheless.
		d := diskOf(t, 99, create("c"), create("b"), create("a"), write("a", "A"), write("b", "B"), sync("a"), sync("b"), syncDir(), write("c", "345"), write("a", "12"))
		d.Up(disk.Loss{Sizes: x.sizes, Cuts: []int{16, 16}})
		checkDisk(t, d, 0, x.want...)
	}
}

func TestUpGivesCutsInOrder(t *testing.T) {
	zeros := func(n int) string { return strings.Repeat("\x00", n) }
	for _, x := range []struct {
		sizes, cuts []int
		a, c, d     string
	}{
		{[]int{18, 3, 3, 3}, []int{16, 16, 16, 16, 0}, "ABCDEFGHIJKLMNOPQR", "STU", "VWX"},
		{[]int{18, 3, 3, 3}, []int{16, 1, 2, 16}, "ABCDEFG" + zeros(11), "ST\x00", "VWX"},
		{[]int{18, 3, 3, 3}, []int{12, 1, 2}, "AB" + zeros(4) + "G" + zeros(11), "ST\x00", zeros(3)},
		{[]int{6, 3, 3, 3}, []int{16, 1, 2, 16}, "ABCDEF", "S\x00\x00", "VW\x00"},
		{[]int{7, 3, 3, 3}, []int{16, 1, 2, 16}, "ABCDEFG", "ST\x00", "VWX"},
		{[]int{7, 3, 3, 3}, []int{16, 1}, "ABCDEFG", zeros(3), zeros(3)},
		{[]int{0, 9, 2, 9}, []int{1, 2, 16}, "", "S\x00", "VW\x00"},
		{[]int{0, 0, 0, 1}, []int{1}, "", "", "V"},
		{[]int{18, 0, 0, 1}, []int{16, 16, 1}, "ABCDEFGHIJKLMNOPQR", "", "V"},
		{[]int{2, 0, 2, 2}, []int{-5, 0, math.MinInt}, zeros(2), zeros(2), zeros(2)},
		{[]int{2, 0, 2, 2}, []int{11, math.MaxInt, 1, 16}, "A\x00", "ST", "V\x00"},
		{[]int{2, 0, 2, 2}, nil, zeros(2), zeros(2), zeros(2)},
	} {
		// The file b is empty and uses no cut; a has bytes that are not durable in two sectors.
		d := diskOf(t, 99, create("a"), create("b"), create("c"), create("d"), syncDir(), write("a", "0123456789"), sync("a"), write("a", "ABCDEFGHIJKLMNOPQR"), write("c", "STU"), write("d", "VWX"))
		d.Up(disk.Loss{Sizes: x.sizes, Cuts: x.cuts})
		checkDisk(t, d, 0, "a", "0123456789"+x.a, "b", "", "c", x.c, "d", x.d)
	}
}

func TestUpGivesNothingToFilesWithoutAName(t *testing.T) {
	for _, x := range []struct {
		kept int
		want []string
	}{
		{0, []string{"b", "34"}},
		{1, []string{"b", "34", "c", "5\x00"}},
		{2, []string{"a", "12", "b", "3\x00", "c", "\x00\x00"}},
		{3, []string{"b", "34", "c", "5\x00"}},
	} {
		d := diskOf(t, 99, create("b"), syncDir(), create("c"), create("a"), write("a", "12"), write("b", "34"), write("c", "56"), drop("a"))
		d.Up(loss(x.kept, []int{2, 2, 2}, 2, 1))
		checkDisk(t, d, 0, x.want...)
	}
}

func TestUpBringsBackWhatWasDroppedOrReplaced(t *testing.T) {
	start := []step{create("a"), create("b"), write("a", "12"), write("b", "34"), sync("a"), syncDir(), write("a", "56")}
	for _, x := range []struct {
		steps []step
		kept  int
		want  []string
	}{
		{[]step{drop("a"), drop("b")}, 0, []string{"a", "1256", "b", "34"}},
		{[]step{drop("a"), drop("b")}, 1, []string{"b", "34"}},
		{[]step{drop("a"), create("a"), write("a", "789"), sync("a")}, 0, []string{"a", "1256", "b", "34"}},
		{[]step{drop("a"), create("a"), write("a", "789"), sync("a")}, 1, []string{"b", "34"}},
		{[]step{drop("a"), create("a"), write("a", "789"), sync("a")}, 2, []string{"a", "789", "b", "34"}},
		{[]step{move("a", "b"), write("b", "7")}, 0, []string{"a", "12567", "b", "34"}},
		{[]step{move("a", "b"), write("b", "7")}, 1, []string{"b", "12567"}},
		{[]step{move("a", "b"), drop("b"), create("a"), create("b")}, 1, []string{"b", "1256"}},
		{[]step{move("a", "c"), move("b", "a"), move("c", "b"), write("a", "7"), write("b", "8")}, 0, []string{"a", "12568", "b", "347"}},
		{[]step{move("a", "c"), move("b", "a"), move("c", "b"), write("a", "7"), write("b", "8")}, 2, []string{"a", "347", "c", "12568"}},
		{[]step{move("a", "c"), move("b", "a"), move("c", "b"), write("a", "7"), write("b", "8")}, 3, []string{"a", "347", "b", "12568"}},
		{[]step{drop("a"), syncDir(), create("a")}, 0, []string{"b", "34"}},
		{[]step{move("a", "b"), syncDir(), drop("b")}, 0, []string{"b", "1256"}},
	} {
		d := diskOf(t, 99, start...)
		must(t, d, x.steps...)
		d.Up(loss(x.kept, []int{99, 99}, 16, 16))
		checkDisk(t, d, 0, x.want...)
	}
}

func TestUpIsDurable(t *testing.T) {
	d := diskOf(t, 99, create("a"), create("b"), write("a", "123"), write("b", "456"))
	d.Up(loss(2, []int{2, 3}, 1, 2))
	for range 3 {
		checkDisk(t, d, 0, "a", "1\x00", "b", "45\x00")
		d.Up(disk.Loss{})
	}
	must(t, d, drop("a"), write("b", "7"))
	d.Up(disk.Loss{Keep: []bool{false, true}})
	checkDisk(t, d, 0, "a", "1\x00", "b", "45\x00")
}

func TestWhatACrashLostDoesNotReturn(t *testing.T) {
	d := diskOf(t, 99, create("a"), syncDir(), create("b"), drop("a"), create("c"))
	d.Up(disk.Loss{Keep: []bool{true, false, true}})
	checkDisk(t, d, 0, "a", "", "b", "")
	must(t, d, syncDir())
	d.Up(loss(9, nil))
	checkDisk(t, d, 0, "a", "", "b", "")
	must(t, d, create("c"), write("c", "x"), move("c", "d"))
	checkDisk(t, d, 2, "a", "", "b", "", "d", "x")
}

func TestUpOfADiskThatIsUp(t *testing.T) {
	for _, down := range []bool{false, true} {
		d := diskOf(t, 99, create("a"), write("a", "12"), create("b"))
		d.Arm(at(1, fault.IO), at(2, fault.Crash), at(1<<40, fault.Full))
		if down {
			d.Fall()
		}
		d.Up(loss(1, []int{1}, 1))
		checkMeter(t, d, 3, false)
		checkDisk(t, d, 0, "a", "1")
		must(t, d, create("b"), drop("a"), syncDir())
		checkMeter(t, d, 6, false)
		checkDisk(t, d, 0, "b", "")
	}
}

func TestUpOfAnEmptyDisk(t *testing.T) {
	d := disk.New(9)
	for _, x := range []disk.Loss{{}, loss(5, []int{1, 2}, 3, 4), {Keep: make([]bool, 3), Sizes: []int{-1}, Cuts: []int{-1}}} {
		d.Up(x)
		checkDisk(t, d, 0)
		checkMeter(t, d, 0, false)
	}
}

func TestUpKeepsTheCapacity(t *testing.T) {
	d := diskOf(t, 4, create("a"), write("a", "1234"), syncDir())
	d.Up(disk.Loss{Sizes: []int{3}, Cuts: []int{16}})
	if d.Room() != 4 || d.Used() != 3 {
		t.Fatalf("Room %d, Used %d", d.Room(), d.Used())
	}
	must(t, d, write("a", "5"))
	expect(t, d, api.ErrFull, write("a", "6"))
	checkDisk(t, d, 0, "a", "1235")
}

// Promise 11.5: Flip.

func TestFlip(t *testing.T) {
	d := diskOf(t, 99, create("a"), create("b"), write("a", "\x00\x00"), sync("a"), write("a", "\x00\xff"), write("b", "\x00"))
	for bit := range 32 {
		want := []byte{0, 0, 0, 255}
		want[bit/8] ^= 1 << (bit % 8)
		for _, bytes := range []string{string(want), "\x00\x00\x00\xff"} {
			if !d.Flip("a", bit) {
				t.Fatalf("bit %d was not inverted", bit)
			}
			checkDisk(t, d, 2, "a", bytes, "b", "\x00")
		}
	}
}

func TestFlipOfNoBit(t *testing.T) {
	d := diskOf(t, 99, create("a"), create("b"), write("a", "12"), create("c"), write("c", "3"), drop("c"))
	for _, down := range []bool{false, true} {
		if down {
			d.Fall()
		}
		for _, bit := range []int{-1, -8, 16, 17, 1000, math.MaxInt, math.MinInt} {
			if d.Flip("a", bit) {
				t.Fatalf("bit %d was inverted", bit)
			}
		}
		for _, name := range append(badNames(), "b", "c", "aa") {
			if d.Flip(name, 0) || d.Flip(name, -1) {
				t.Fatalf("a bit of %q was inverted", name)
			}
		}
	}
	d.Up(loss(2, []int{2, 9}, 16, 16))
	checkDisk(t, d, 0, "a", "12", "b", "")
}

func TestFlipWhileDown(t *testing.T) {
	d := diskOf(t, 99, create("a"), write("a", "aa"), sync("a"), syncDir(), write("a", "aa"))
	d.Arm(at(1, fault.Crash), at(5, fault.IO))
	expect(t, d, api.ErrDown, syncDir())
	if !d.Flip("a", 1) || !d.Flip("a", 8+2) || !d.Flip("a", 16) || !d.Flip("a", 24) || d.Flip("a", 32) {
		t.Fatal("a bit was not inverted")
	}
	checkMeter(t, d, 6, true, at(4, fault.IO))
	d.Up(disk.Loss{Sizes: []int{2}, Cuts: []int{3}})
	checkDisk(t, d, 0, "a", "ce`\x00")
}

func TestFlipIsNoSync(t *testing.T) {
	d := diskOf(t, 99, create("a"), syncDir(), write("a", "aa"), sync("a"), write("a", "aa"))
	if !d.Flip("a", 8) || !d.Flip("a", 24) {
		t.Fatal("a bit was not inverted")
	}
	checkDisk(t, d, 0, "a", "a`a`")
	d.Up(disk.Loss{})
	checkDisk(t, d, 0, "a", "a`")
}

// Promise 11.6.

func TestNilDisk(t *testing.T) {
	var d *disk.Disk
	for range 2 {
		for _, name := range append(goodNames(), badNames()...) {
			for _, s := range []step{create(name), write(name), write(name, "x"), sync(name), syncDir(), move(name, name), move("a", name), move(name, "a"), drop(name)} {
				expect(t, d, api.ErrDown, s)
			}
			checkNoRead(t, d, api.ErrDown, name)
			if d.Flip(name, 0) || d.Flip(name, -1) {
				t.Fatalf("a bit of %q was inverted", name)
			}
		}
		if d.Names() != nil || d.Used() != 0 || d.Room() != 0 || d.Pending() != 0 {
			t.Fatalf("Names %q, Used %d, Room %d, Pending %d", d.Names(), d.Used(), d.Room(), d.Pending())
		}
		d.Up(disk.Loss{})
		d.Up(loss(3, []int{1}, 2))
	}
}

// The promises together, with rule R4.

// few are steps of which every short sequence is tried.
func few() []step {
	return []step{create("a"), create("b"), write("a", "12", "3"), write("b", "45"), sync("a"), syncDir(), move("a", "b"), drop("a")}
}

// sequence is the sequence of few steps with a number, of a length.
func sequence(length, number int) []step {
	all := few()
	list := make([]step, length)
	for i := range list {
		list[i] = all[number%len(all)]
		number /= len(all)
	}
	return list
}

// play performs steps on both a disk and its model, whose answers must be equal.
func play(t *testing.T, d *disk.Disk, m *model, steps []step) {
	t.Helper()
	for _, s := range steps {
		want := m.do(s)
		expect(t, d, want, s)
	}
}

func TestAllShortSequences(t *testing.T) {
	losses := []disk.Loss{{}, loss(1, []int{1, 1}, 9), loss(9, []int{9, 9}, 16, 1)}
	for number := range 8 * 8 * 8 * 8 * 8 {
		steps := sequence(5, number)
		for i, x := range losses {
			d, m := disk.New(6), modelOf(6)
			play(t, d, m, steps)
			m.check(t, d)
			d.Up(x)
			m.up(x)
			m.check(t, d)
			// What was lost must not have any effect later on, either.
			play(t, d, m, few()[i:])
			m.check(t, d)
		}
	}
}

func TestACrashAtEachStep(t *testing.T) {
	plan := []step{create("a"), write("a", "123"), sync("a"), syncDir(), create("b"), write("b", "45"), move("b", "a"), write("a", "6"), sync("a"), drop("a"), create("c"), syncDir()}
	for when := range len(plan) {
		for kept := range 5 {
			for size := range 4 {
				d, m := disk.New(99), modelOf(99)
				d.Arm(at(when+1, fault.Crash))
				m.meter.Arm(at(when+1, fault.Crash))
				play(t, d, m, plan)
				m.check(t, d)
				x := loss(kept, []int{size, size}, size, 2)
				d.Up(x)
				m.up(x)
				m.check(t, d)
				play(t, d, m, plan)
				m.check(t, d)
			}
		}
	}
}

// anyStep is a step on some of a few names.
func anyStep(random *rand.Rand, names []string) step {
	name, to := names[random.Intn(len(names))], names[random.Intn(len(names))]
	switch random.Intn(9) {
	case 0, 1:
		return create(name)
	case 2, 3, 4:
		b := make([]byte, random.Intn(40))
		for i := range b {
			b[i] = byte(1 + random.Intn(255))
		}
		cut := random.Intn(len(b) + 1)
		return step{kind: "append", name: name, parts: [][]byte{b[:cut], b[cut:]}}
	case 5:
		return sync(name)
	case 6:
		return move(name, to)
	case 7:
		return drop(name)
	default:
		return syncDir()
	}
}

// anyLoss is a loss of which some elements are too few, too many or out of range.
func anyLoss(random *rand.Rand) disk.Loss {
	x := disk.Loss{Keep: keeps(random.Intn(12))}
	if len(x.Keep) > 0 && random.Intn(2) == 0 {
		x.Keep[random.Intn(len(x.Keep))] = false
	}
	for range random.Intn(6) {
		x.Sizes = append(x.Sizes, random.Intn(60)-2)
	}
	for range random.Intn(10) {
		x.Cuts = append(x.Cuts, random.Intn(20)-1)
	}
	return x
}

// operate does one thing to both a disk and its model.
func operate(t *testing.T, random *rand.Rand, d *disk.Disk, m *model, names []string) {
	t.Helper()
	switch random.Intn(25) {
	case 0:
		x := anyLoss(random)
		d.Up(x)
		m.up(x)
	case 1:
		name, bit := names[random.Intn(len(names))], random.Intn(400)-1
		want := m.flip(name, bit)
		if got := d.Flip(name, bit); got != want {
			t.Fatalf("Flip(%q, %d) is %v", name, bit, got)
		}
	case 2:
		l := []fault.Fault{at(random.Intn(9), random.Intn(6)-1), at(random.Intn(9), random.Intn(6)-1)}
		if got, want := d.Arm(l...), m.meter.Arm(l...); got != want {
			t.Fatalf("Arm(%v) is %d, not %d", l, got, want)
		}
	default:
		play(t, d, m, []step{anyStep(random, names)})
	}
}

func TestManyOperations(t *testing.T) {
	for seed := range int64(400) {
		random := rand.New(rand.NewSource(seed))
		names := []string{"a", "b", "a.b", "", "c-1", "9"}[:2+random.Intn(5)]
		room := random.Intn(200)
		d, m := disk.New(room), modelOf(room)
		for range 200 {
			operate(t, random, d, m, names)
			m.check(t, d)
		}
	}
}
