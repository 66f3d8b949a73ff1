package pool_test

import (
	"math"
	"math/rand"
	"runtime"
	"slices"
	"testing"

	"repertory/api"
	"repertory/pool"
	"repertory/wset"
)

// ordered are the different words of a list, as a set.
func ordered(list []string) []string {
	list = slices.Clone(list)
	slices.Sort(list)
	return slices.Compact(list)
}

// product is that of two sets, by the definition.
func product(k int, a, b []string) []string {
	var list []string
	for _, x := range a {
		for _, y := range b {
			list = append(list, (x + y)[:max(0, min(k, len(x+y)))])
		}
	}
	return ordered(list)
}

// numbers are words of two terminals for the numbers from one to another.
func numbers(from, to int) []string {
	var list []string
	for n := from; n < to; n++ {
		list = append(list, string([]byte{byte(n / 256), byte(n)}))
	}
	return list
}

// letters are words of one terminal each.
func letters(from, to int) []string {
	var list []string
	for n := from; n < to; n++ {
		list = append(list, string([]byte{byte(n)}))
	}
	return list
}

// someSet is a set of at most so many words of at most so many terminals.
func someSet(random *rand.Rand, count, most int) []string {
	var list []string
	for range random.Intn(count + 1) {
		w := make([]byte, random.Intn(most+1))
		for i := range w {
			w[i] = []byte{0, 1, 2, 255}[random.Intn(4)]
		}
		list = append(list, string(w))
	}
	return ordered(list)
}

// checkSet expects a set to have words.
func checkSet(t *testing.T, got pool.Set, want []string) {
	t.Helper()
	if got.Len() != len(want) || !slices.Equal(got.Words(), want) {
		t.Fatalf("%d words, not %d: %.300q, not %.300q", got.Len(), len(want), got.Words(), want)
	}
}

// checkProduct expects two sets to have a product.
func checkProduct(t *testing.T, p *pool.Pool, k int, a, b []string) {
	t.Helper()
	for range 2 {
		got, ok := p.Product(p.Of(a...), p.Of(b...))
		if !ok {
			t.Fatalf("%.300q and %.300q have no product with %d", a, b, k)
		}
		checkSet(t, got, product(k, a, b))
	}
}

func TestProducts(t *testing.T) {
	random := rand.New(rand.NewSource(1))
	for _, k := range []int{math.MinInt, -1, 0, 1, 2, 3, 4, 5, math.MaxInt} {
		p := pool.New(k)
		for range 3000 {
			checkProduct(t, p, k, someSet(random, 4, 4), someSet(random, 4, 4))
		}
		checkProduct(t, p, k, []string{"a", "ab"}, nil)
		checkProduct(t, p, k, nil, []string{"a"})
		checkProduct(t, p, k, nil, nil)
		checkProduct(t, p, k, []string{"aaaa", "bbbb"}, nil)
		checkProduct(t, p, k, []string{"aaaa", "bbbb"}, []string{""})
	}
}

// Products of products, as a grammar has them.
func TestProductsOfSeveralSets(t *testing.T) {
	random := rand.New(rand.NewSource(2))
	for k := 1; k <= 4; k++ {
		p := pool.New(k)
		sets := [][]string{nil, {""}, {"", "\x00"}, {"\x01"}, {"", "\x01\x02", "\x02"}, {"\x00\x00\x00\x00\x00"}}
		for range 1000 {
			all, want := p.Of(""), []string{""}
			for range random.Intn(8) {
				next := sets[1+random.Intn(len(sets)-1)]
				if random.Intn(20) == 0 {
					next = nil
				}
				all, _ = p.Product(all, p.Of(next...))
				want = product(k, want, next)
				checkSet(t, all, want)
			}
		}
	}
}

func TestProductsThatAreTooLarge(t *testing.T) {
	for _, k := range []int{2, 3, 4} {
		p := pool.New(k)
		most, _ := p.Product(p.Of(letters(0, 64)...), p.Of(letters(0, 64)...))
		checkSet(t, most, product(k, letters(0, 64), letters(0, 64)))
		for range 2 {
			if s, ok := p.Product(p.Of(letters(0, 17)...), p.Of(letters(0, 241)...)); ok || s.Len() != 0 {
				t.Fatalf("a product of %d words", s.Len())
			}
		}
		// Larger sets than products can be are sets all the same.
		checkSet(t, p.Of(numbers(0, api.MaxWords+1)...), numbers(0, api.MaxWords+1))
	}
	p := pool.New(1)
	checkProduct(t, p, 1, numbers(0, api.MaxWords+1), []string{"x"})
}

func TestTerms(t *testing.T) {
	p := pool.New(2)
	for _, count := range []int{0, 1, 2, 255, 256} {
		terms := p.Terms(count)
		if len(terms) != count {
			t.Fatalf("%d sets for %d terminals", len(terms), count)
		}
		for n, s := range terms {
			checkSet(t, s, []string{string([]byte{byte(n)})})
		}
	}
}

func TestUnions(t *testing.T) {
	random := rand.New(rand.NewSource(3))
	for range 1000 {
		p := pool.New(3)
		u, want := p.Union(), []string(nil)
		checkSet(t, u.Set(), nil)
		for range 10 {
			s := someSet(random, 4, 4)
			if !u.Add(p.Of(s...)) {
				t.Fatalf("%q is too much for %q", s, want)
			}
			want = wset.Union(want, s)
			if u.Len() != len(want) {
				t.Fatalf("%d words, not %q", u.Len(), want)
			}
			if random.Intn(2) == 0 {
				checkSet(t, u.Set(), want)
			}
		}
		checkSet(t, u.Set(), want)
	}
}

// What is a union at one time stays as it is.
func TestUnionsGrow(t *testing.T) {
	p := pool.New(2)
	one, two := p.Union(), p.Union()
	one.Add(p.Of("b"))
	two.Add(p.Of("b"))
	before := one.Set()
	one.Add(p.Of("a"))
	checkSet(t, before, []string{"b"})
	checkSet(t, one.Set(), []string{"a", "b"})
	checkSet(t, two.Set(), []string{"b"})
	all, _ := p.Product(one.Set(), two.Set())
	checkSet(t, all, []string{"ab", "bb"})
	all, _ = p.Product(before, before)
	checkSet(t, all, []string{"bb"})
}

func TestUnionsThatAreTooLarge(t *testing.T) {
	p := pool.New(2)
	u := p.Union()
	if !u.Add(p.Of(numbers(0, 2000)...)) || !u.Add(p.Of(numbers(1000, api.MaxWords)...)) || !u.Add(p.Of(numbers(5, 10)...)) {
		t.Fatal("MaxWords words are too much")
	}
	checkSet(t, u.Set(), numbers(0, api.MaxWords))
	if u.Add(p.Of("x")) {
		t.Fatal("one word more than MaxWords is not too much")
	}
}

// More sets than a union knows as added.
func TestUnionsOfManySets(t *testing.T) {
	p := pool.New(2)
	u, want := p.Union(), numbers(0, api.MaxWords)
	for range 2 {
		for i := range want {
			if !u.Add(p.Of(want[i])) || !u.Add(p.Of(want[min(i, 7)], want[max(i, 8)])) {
				t.Fatalf("word %d is too much", i)
			}
		}
	}
	checkSet(t, u.Set(), want)
}

// fill makes this many products of thousands of words.
func fill(t *testing.T, p *pool.Pool, count int) {
	t.Helper()
	for i := range count {
		a, b := letters(i%4, i%4+50+i%10), letters(i/40, i/40+50+i/10%4)
		s, ok := p.Product(p.Of(a...), p.Of(b...))
		if !ok {
			t.Fatalf("product %d is too large", i)
		}
		checkSet(t, s, product(2, a, b))
		checkSet(t, p.Of(a...), a)
		ax, _ := p.Product(p.Of(a[0]), p.Of("x"))
		checkSet(t, ax, []string{a[0] + "x"})
	}
}

// Sets from before a pool forgets what it keeps are not taken for others.
func TestManySets(t *testing.T) {
	p := pool.New(2)
	terms := p.Terms(50)
	u := p.Union()
	u.Add(p.Of("y"))
	fill(t, p, 600)
	for a, one := range terms {
		for b, two := range terms {
			both, _ := p.Product(one, two)
			checkSet(t, both, []string{string([]byte{byte(a), byte(b)})})
		}
	}
	u.Add(p.Of("z"))
	checkSet(t, u.Set(), []string{"y", "z"})
}

// heap is how much memory is in use.
func heap() int {
	runtime.GC()
	var m runtime.MemStats
	runtime.ReadMemStats(&m)
	return int(m.HeapAlloc)
}

// A pool that makes very many sets does not keep all of them.
func TestPoolsAreBounded(t *testing.T) {
	p := pool.New(2)
	before := heap()
	fill(t, p, 2400)
	if used := heap() - before; used > 100<<20 {
		t.Fatalf("the pool keeps %d bytes", used)
	}
	checkProduct(t, p, 2, []string{"", "a"}, []string{"b"})
}

// Neither a changed argument nor a changed result is seen elsewhere.
func TestMemory(t *testing.T) {
	p := pool.New(2)
	words := []string{"a", "b"}
	s := p.Of(words...)
	words[0] = "scribbled"
	checkSet(t, s, []string{"a", "b"})
	s.Words()[0] = "scribbled"
	checkSet(t, s, []string{"a", "b"})
	checkSet(t, p.Of("a", "b"), []string{"a", "b"})
	ss, _ := p.Product(s, s)
	ss.Words()[0] = "scribbled"
	ss, _ = p.Product(s, s)
	checkSet(t, ss, []string{"aa", "ab", "ba", "bb"})
}
