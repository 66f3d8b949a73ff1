package fault_test

import (
	"math"
	"math/rand"
	"slices"
	"testing"

	"repertory/api"
	"repertory/fault"
)

// farthest is the greatest At with which a fault can be armed.
const farthest = 1 << 40

// kinds are all kinds of faults.
var kinds = []int{fault.Crash, fault.Full, fault.IO}

// errnoOf is the error of a step for which a fault of a kind is armed.
func errnoOf(kind int) api.Errno {
	return []api.Errno{api.OK, api.ErrDown, api.ErrFull, api.ErrIO}[kind]
}

// model is a meter by its definition: it never forgets a fault but when it rises, and searches all of them at each step.
type model struct {
	steps int
	down  bool
	armed []planned
}

// planned is a fault with the number of the step for which it is armed.
type planned struct {
	step int
	kind int
}

func (m *model) arm(l []fault.Fault) int {
	n := 0
	for _, f := range l {
		if slices.Contains(kinds, f.Kind) && 0 < f.At && f.At < farthest+1 {
			m.armed = append(m.armed, planned{m.steps + f.At, f.Kind})
			n++
		}
	}
	return n
}

func (m *model) step() api.Errno {
	if m.down {
		return api.ErrDown
	}
	m.steps++
	for _, p := range m.armed {
		if p.step == m.steps {
			m.down = p.kind == fault.Crash
			return errnoOf(p.kind)
		}
	}
	return api.OK
}

func (m *model) future() []fault.Fault {
	var list []fault.Fault
	for _, p := range m.armed {
		if p.step > m.steps {
			list = append(list, fault.Fault{At: p.step - m.steps, Kind: p.kind})
		}
	}
	return list
}

func (m *model) rise() { m.down, m.armed = false, nil }

// check compares all that a meter tells with what it should.
func (m *model) check(t *testing.T, got *fault.Meter) {
	t.Helper()
	checkMeter(t, got, m.steps, m.down, m.future()...)
}

// checkMeter expects of a meter so many steps, whether it is down, and just the faults, in order.
func checkMeter(t *testing.T, m *fault.Meter, steps int, down bool, armed ...fault.Fault) {
	t.Helper()
	if m.Steps() != steps {
		t.Fatalf("Steps is %d, not %d", m.Steps(), steps)
	}
	if m.Down() != down {
		t.Fatalf("Down is %v, not %v", m.Down(), down)
	}
	if !slices.Equal(m.Armed(), armed) {
		t.Fatalf("Armed is %v, not %v", m.Armed(), armed)
	}
}

// mustArm arms faults of which so many are possible.
func mustArm(t *testing.T, m *fault.Meter, want int, l ...fault.Fault) {
	t.Helper()
	if n := m.Arm(l...); n != want {
		t.Fatalf("Arm(%v) is %d, not %d", l, n, want)
	}
}

// mustStep performs a step for each error.
func mustStep(t *testing.T, m *fault.Meter, want ...api.Errno) {
	t.Helper()
	for i, errno := range want {
		if got := m.Step(); got != errno {
			t.Fatalf("step %d of %d is answered by %d, not %d", i+1, len(want), got, errno)
		}
	}
}

// oks is n times OK.
func oks(n int) []api.Errno { return make([]api.Errno, n) }

// at is one fault.
func at(step, kind int) fault.Fault { return fault.Fault{At: step, Kind: kind} }

// Promise 10.1.

func TestKinds(t *testing.T) {
	if fault.Crash != 1 || fault.Full != 2 || fault.IO != 3 {
		t.Fatalf("the kinds are %d, %d and %d", fault.Crash, fault.Full, fault.IO)
	}
}

func TestNew(t *testing.T) {
	m := fault.New()
	checkMeter(t, m, 0, false)
	for i := range 1000 {
		mustStep(t, m, api.OK)
		checkMeter(t, m, i+1, false)
	}
}

func TestMetersAreApart(t *testing.T) {
	one, two := fault.New(), fault.New()
	mustArm(t, one, 1, at(2, fault.IO))
	mustArm(t, two, 1, at(1, fault.Crash))
	mustStep(t, two, api.ErrDown)
	checkMeter(t, one, 0, false, at(2, fault.IO))
	mustStep(t, one, api.OK)
	two.Rise()
	checkMeter(t, one, 1, false, at(1, fault.IO))
	one.Fall()
	checkMeter(t, two, 1, false)
	checkMeter(t, fault.New(), 0, false)
}

func TestArmLimits(t *testing.T) {
	for _, x := range []struct {
		at, kind int
		possible bool
	}{
		{1, 1, true}, {1, 2, true}, {1, 3, true}, {2, 1, true}, {1000, 2, true},
		{farthest - 1, 3, true}, {farthest, 1, true}, {farthest, 2, true}, {farthest, 3, true},
		{farthest + 1, 1, false}, {farthest + 1, 3, false}, {math.MaxInt, 2, false}, {math.MaxInt - 1, 1, false},
		{0, 1, false}, {0, 2, false}, {0, 3, false}, {-1, 1, false}, {-1, 3, false}, {-farthest, 2, false}, {math.MinInt, 1, false}, {math.MinInt + 1, 3, false},
		{1, 0, false}, {1, 4, false}, {1, 5, false}, {1, -1, false}, {1, -3, false}, {1, math.MaxInt, false}, {1, math.MinInt, false},
		{farthest, 0, false}, {farthest, 4, false}, {0, 0, false}, {0, 4, false}, {farthest + 1, 4, false}, {-1, -1, false}, {2, 257, false}, {2, 1 << 32, false}, {2, 1<<32 + 1, false},
	} {
		for _, steps := range []int{0, 7} {
			m := fault.New()
			mustStep(t, m, oks(steps)...)
			if !x.possible {
				mustArm(t, m, 0, at(x.at, x.kind))
				checkMeter(t, m, steps, false)
				mustStep(t, m, oks(3)...)
				continue
			}
			mustArm(t, m, 1, at(x.at, x.kind))
			checkMeter(t, m, steps, false, at(x.at, x.kind))
		}
	}
}

func TestArmOfNothing(t *testing.T) {
	m := fault.New()
	mustArm(t, m, 0)
	mustArm(t, m, 0, []fault.Fault{}...)
	checkMeter(t, m, 0, false)
	mustArm(t, m, 1, at(3, fault.Full))
	mustArm(t, m, 0)
	checkMeter(t, m, 0, false, at(3, fault.Full))
}

func TestArmSkipsWhatIsImpossible(t *testing.T) {
	m := fault.New()
	mustArm(t, m, 3, at(0, 1), at(2, 2), at(1, 4), at(4, 1), at(farthest+1, 3), at(1, 0), at(1, 3), at(-1, 2))
	checkMeter(t, m, 0, false, at(2, 2), at(4, 1), at(1, 3))
	mustArm(t, m, 0, at(0, 1), at(1, 4))
	mustArm(t, m, 1, at(1, -2), at(3, 2))
	checkMeter(t, m, 0, false, at(2, 2), at(4, 1), at(1, 3), at(3, 2))
	mustStep(t, m, api.ErrIO, api.ErrFull, api.ErrFull, api.ErrDown)
}

func TestArmCountsFromNow(t *testing.T) {
	for steps := range 20 {
		m := fault.New()
		mustStep(t, m, oks(steps)...)
		mustArm(t, m, 2, at(3, fault.IO), at(1, fault.Full))
		checkMeter(t, m, steps, false, at(3, fault.IO), at(1, fault.Full))
		mustStep(t, m, api.ErrFull, api.OK, api.ErrIO, api.OK)
		checkMeter(t, m, steps+4, false)
	}
}

func TestArmAtOneIsTheNextStep(t *testing.T) {
	m := fault.New()
	for i := range 100 {
		kind := fault.Full + i%2
		mustArm(t, m, 1, at(1, kind))
		mustStep(t, m, errnoOf(kind))
		checkMeter(t, m, i+1, false)
	}
}

func TestArmedKeepsTheOrderOfArming(t *testing.T) {
	m := fault.New()
	mustArm(t, m, 4, at(9, 3), at(5, 1), at(7, 2), at(5, 3))
	mustStep(t, m, oks(2)...)
	mustArm(t, m, 3, at(5, 2), at(3, 2), at(1, 3))
	checkMeter(t, m, 2, false, at(7, 3), at(3, 1), at(5, 2), at(3, 3), at(5, 2), at(3, 2), at(1, 3))
	mustStep(t, m, api.ErrIO)
	checkMeter(t, m, 3, false, at(6, 3), at(2, 1), at(4, 2), at(2, 3), at(4, 2), at(2, 2))
}

func TestArmedTellsEqualFaultsEach(t *testing.T) {
	m := fault.New()
	mustArm(t, m, 3, at(2, fault.IO), at(2, fault.IO), at(2, fault.IO))
	mustArm(t, m, 1, at(2, fault.IO))
	checkMeter(t, m, 0, false, at(2, 3), at(2, 3), at(2, 3), at(2, 3))
	mustStep(t, m, api.OK)
	checkMeter(t, m, 1, false, at(1, 3), at(1, 3), at(1, 3), at(1, 3))
	mustStep(t, m, api.ErrIO)
	checkMeter(t, m, 2, false)
	mustStep(t, m, oks(3)...)
}

func TestFarthestFault(t *testing.T) {
	m := fault.New()
	mustStep(t, m, oks(5)...)
	mustArm(t, m, 3, at(farthest, 1), at(farthest, 2), at(farthest-1, 3))
	mustStep(t, m, oks(10)...)
	checkMeter(t, m, 15, false, at(farthest-10, 1), at(farthest-10, 2), at(farthest-11, 3))
	mustArm(t, m, 1, at(farthest, 3), at(farthest+1, 3))
	checkMeter(t, m, 15, false, at(farthest-10, 1), at(farthest-10, 2), at(farthest-11, 3), at(farthest, 3))
}

func TestManyFaults(t *testing.T) {
	const n = 3000
	m := fault.New()
	var list []fault.Fault
	var want []api.Errno
	for i := range n {
		// Every other step from the last one back to the first one.
		list = append(list, at(2*(n-i), fault.Full+i%2))
		want = append(want, api.OK, errnoOf(fault.Full+(n-1-i)%2))
	}
	mustArm(t, m, n, list...)
	checkMeter(t, m, 0, false, list...)
	mustStep(t, m, want...)
	checkMeter(t, m, 2*n, false)
}

func TestManyFaultsAtOneStep(t *testing.T) {
	const n = 100000
	m := fault.New()
	list := slices.Repeat([]fault.Fault{at(2, fault.Full), at(0, fault.IO), at(2, fault.Crash)}, n)
	mustArm(t, m, 2*n, list...)
	mustStep(t, m, api.OK, api.ErrFull, api.OK)
	checkMeter(t, m, 3, false)
}

// Promise 10.1 with rules R3 and R4.

func TestFaultsStay(t *testing.T) {
	m := fault.New()
	all := []fault.Fault{at(2, 1), at(0, 2), at(1, 3), at(5, 2)}
	mustArm(t, m, 2, all[:3]...)
	if !slices.Equal(all, []fault.Fault{at(2, 1), at(0, 2), at(1, 3), at(5, 2)}) {
		t.Fatalf("the faults became %v", all)
	}
	clear(all)
	checkMeter(t, m, 0, false, at(2, 1), at(1, 3))
	mustStep(t, m, api.ErrIO, api.ErrDown)
	if !slices.Equal(all, make([]fault.Fault, 4)) {
		t.Fatalf("steps made the faults %v", all)
	}
}

func TestArmedIsNew(t *testing.T) {
	m := fault.New()
	mustArm(t, m, 3, at(1, 3), at(2, 2), at(4, 1))
	one, two := m.Armed(), m.Armed()
	clear(one)
	_ = append(one[:1], at(7, 3), at(8, 3))
	checkMeter(t, m, 0, false, at(1, 3), at(2, 2), at(4, 1))
	mustStep(t, m, api.ErrIO, api.ErrFull)
	mustArm(t, m, 2, at(9, 1), at(8, 1))
	m.Rise()
	if !slices.Equal(two, []fault.Fault{at(1, 3), at(2, 2), at(4, 1)}) {
		t.Fatalf("earlier faults became %v", two)
	}
}

func TestAsksChangeNothing(t *testing.T) {
	m := fault.New()
	mustArm(t, m, 2, at(2, fault.Full), at(3, fault.Crash))
	mustStep(t, m, api.OK)
	for range 5 {
		checkMeter(t, m, 1, false, at(1, fault.Full), at(2, fault.Crash))
	}
	mustStep(t, m, api.ErrFull, api.ErrDown)
	for range 5 {
		checkMeter(t, m, 3, true)
	}
}

// Promise 10.2.

func TestStepExample(t *testing.T) {
	m := fault.New()
	mustArm(t, m, 2, at(2, fault.IO), at(3, fault.Crash))
	mustStep(t, m, api.OK, api.ErrIO, api.ErrDown)
	checkMeter(t, m, 3, true)
}

func TestStepOfEachKind(t *testing.T) {
	for _, kind := range kinds {
		for _, when := range []int{1, 2, 3, 10, 100} {
			m := fault.New()
			mustArm(t, m, 1, at(when, kind))
			mustStep(t, m, oks(when-1)...)
			checkMeter(t, m, when-1, false, at(1, kind))
			mustStep(t, m, errnoOf(kind))
			checkMeter(t, m, when, kind == fault.Crash)
			if kind != fault.Crash {
				mustStep(t, m, oks(20)...)
				checkMeter(t, m, when+20, false)
			}
		}
	}
}

func TestStepWhileDownCountsNothing(t *testing.T) {
	for _, crash := range []bool{false, true} {
		m := fault.New()
		mustStep(t, m, api.OK)
		mustArm(t, m, 3, at(2, fault.Full), at(3, fault.IO), at(2, fault.Crash))
		if crash {
			mustArm(t, m, 1, at(1, fault.Crash))
			mustStep(t, m, api.ErrDown)
			checkMeter(t, m, 2, true, at(1, fault.Full), at(2, fault.IO), at(1, fault.Crash))
		} else {
			m.Fall()
			checkMeter(t, m, 1, true, at(2, fault.Full), at(3, fault.IO), at(2, fault.Crash))
		}
		steps, armed := m.Steps(), m.Armed()
		for range 10 {
			mustStep(t, m, api.ErrDown)
			checkMeter(t, m, steps, true, armed...)
		}
	}
}

func TestStepAtWhichSeveralFaultsAreArmed(t *testing.T) {
	for _, one := range kinds {
		for _, two := range kinds {
			for _, three := range kinds {
				m := fault.New()
				mustArm(t, m, 4, at(3, one), at(5, two), at(3, two), at(3, three))
				mustStep(t, m, api.OK, api.OK, errnoOf(one))
				checkMeter(t, m, 3, one == fault.Crash, at(2, two))
				if one != fault.Crash {
					mustStep(t, m, api.OK, errnoOf(two))
					checkMeter(t, m, 5, two == fault.Crash)
				}
			}
		}
	}
}

func TestTheFaultArmedFirstCounts(t *testing.T) {
	for _, one := range kinds {
		for _, two := range kinds {
			m := fault.New()
			mustArm(t, m, 1, at(4, one))
			mustStep(t, m, api.OK, api.OK)
			mustArm(t, m, 1, at(2, two))
			checkMeter(t, m, 2, false, at(2, one), at(2, two))
			mustStep(t, m, api.OK, errnoOf(one))
			checkMeter(t, m, 4, one == fault.Crash)
		}
	}
}

func TestStepsThatFailInARow(t *testing.T) {
	m := fault.New()
	mustArm(t, m, 5, at(5, fault.Crash), at(3, fault.IO), at(1, fault.Full), at(2, fault.IO), at(4, fault.Full))
	mustStep(t, m, api.ErrFull, api.ErrIO, api.ErrIO, api.ErrFull, api.ErrDown, api.ErrDown)
	checkMeter(t, m, 5, true)
}

// Promise 10.3.

func TestFall(t *testing.T) {
	m := fault.New()
	mustStep(t, m, api.OK)
	mustArm(t, m, 1, at(2, fault.IO))
	for range 3 {
		m.Fall()
		checkMeter(t, m, 1, true, at(2, fault.IO))
	}
	mustStep(t, m, api.ErrDown)
	checkMeter(t, m, 1, true, at(2, fault.IO))
}

func TestRise(t *testing.T) {
	m := fault.New()
	mustArm(t, m, 2, at(1, fault.Crash), at(2, fault.Crash))
	mustStep(t, m, api.ErrDown)
	m.Rise()
	checkMeter(t, m, 1, false)
	mustStep(t, m, oks(5)...)
	m.Fall()
	m.Rise()
	checkMeter(t, m, 6, false)
	mustStep(t, m, api.OK)
}

func TestRiseWhileUp(t *testing.T) {
	m := fault.New()
	m.Rise()
	checkMeter(t, m, 0, false)
	mustArm(t, m, 3, at(1, fault.IO), at(2, fault.Crash), at(farthest, fault.Full))
	for range 3 {
		m.Rise()
		checkMeter(t, m, 0, false)
	}
	mustStep(t, m, oks(5)...)
	checkMeter(t, m, 5, false)
}

func TestArmWhileDown(t *testing.T) {
	m := fault.New()
	mustStep(t, m, api.OK)
	m.Fall()
	mustArm(t, m, 2, at(1, fault.IO), at(1, 0), at(4, fault.Full))
	checkMeter(t, m, 1, true, at(1, fault.IO), at(4, fault.Full))
	mustStep(t, m, api.ErrDown)
	m.Rise()
	checkMeter(t, m, 1, false)
	mustStep(t, m, oks(5)...)
}

func TestArmAfterRise(t *testing.T) {
	m := fault.New()
	mustArm(t, m, 2, at(1, fault.Crash), at(3, fault.IO))
	mustStep(t, m, api.ErrDown)
	m.Rise()
	mustArm(t, m, 1, at(2, fault.Full))
	checkMeter(t, m, 1, false, at(2, fault.Full))
	mustStep(t, m, api.OK, api.ErrFull, api.OK)
	checkMeter(t, m, 4, false)
}

// Promise 10.4.

func TestNilMeter(t *testing.T) {
	var m *fault.Meter
	for range 2 {
		checkMeter(t, m, 0, true)
		mustStep(t, m, api.ErrDown, api.ErrDown)
		mustArm(t, m, 0)
		mustArm(t, m, 0, at(1, fault.Crash), at(1, fault.IO), at(0, 0))
		m.Rise()
		checkMeter(t, m, 0, true)
		m.Fall()
		checkMeter(t, m, 0, true)
	}
}

// The promises together, with rule R4.

// operate does one thing to both a meter and its model.
func operate(t *testing.T, random *rand.Rand, m *fault.Meter, by *model) {
	t.Helper()
	switch random.Intn(20) {
	case 0:
		m.Fall()
		by.down = true
	case 1, 2:
		m.Rise()
		by.rise()
	case 3, 4, 5, 6:
		l := make([]fault.Fault, random.Intn(5))
		for i := range l {
			// Some of these are impossible, and several are for the same step.
			l[i] = at(random.Intn(9)-1, random.Intn(6)-1)
			if random.Intn(10) == 0 {
				l[i].At = farthest - 1 + random.Intn(3)
			}
		}
		mustArm(t, m, by.arm(l), l...)
	default:
		mustStep(t, m, by.step())
	}
}

func TestManyOperations(t *testing.T) {
	for seed := range int64(300) {
		random := rand.New(rand.NewSource(seed))
		m, by := fault.New(), &model{}
		for range 200 {
			operate(t, random, m, by)
			by.check(t, m)
		}
	}
}

func TestAllShortPlans(t *testing.T) {
	// Each number up to 4 * 4 * 4 * 4 is a plan of which kind, if any, is armed for each of four steps.
	for plan := range 256 {
		for _, backwards := range []bool{false, true} {
			m, by := fault.New(), &model{}
			var l []fault.Fault
			for i := range 4 {
				l = append(l, at(i+1, plan>>(2*i)&3))
			}
			if backwards {
				slices.Reverse(l)
			}
			mustArm(t, m, by.arm(l), l...)
			for range 6 {
				by.check(t, m)
				mustStep(t, m, by.step())
			}
			by.check(t, m)
		}
	}
}
