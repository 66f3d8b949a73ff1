package first_test

import (
	"fmt"
	"math"
	"math/rand"
	"slices"
	"strings"
	"testing"

	"repertory/api"
	"repertory/first"
	"repertory/gram"
	"repertory/parse"
	"repertory/well"
)

func rule(left int, right ...int) api.Rule { return api.Rule{Left: left, Right: right} }

// numbered are different texts.
func numbered(prefix string, n int) []string {
	var list []string
	for i := range n {
		list = append(list, fmt.Sprint(prefix, i))
	}
	return list
}

// sized is a grammar with this many names and terminals.
func sized(names, terms int, rules ...api.Rule) api.Gram {
	return api.Gram{Names: numbered("N", names), Terms: numbered("t", terms), Rules: rules}
}

// read is the grammar of a text.
func read(t *testing.T, s string) api.Gram {
	t.Helper()
	l, _, errno := parse.All(s)
	if errno != api.OK {
		t.Fatalf("%q is no grammar text", s)
	}
	g, errno := gram.Resolve(l...)
	if errno != api.OK {
		t.Fatalf("%q gives no grammar: %d", s, errno)
	}
	return g
}

// orders are the same grammar with its rules in several orders.
func orders(g api.Gram) []api.Gram {
	back := slices.Clone(g.Rules)
	slices.Reverse(back)
	mixed := slices.Clone(g.Rules)
	rand.New(rand.NewSource(20)).Shuffle(len(mixed), func(i, j int) { mixed[i], mixed[j] = mixed[j], mixed[i] })
	list := []api.Gram{g}
	for _, rules := range [][]api.Rule{back, mixed} {
		list = append(list, api.Gram{Names: g.Names, Terms: g.Terms, Rules: rules})
	}
	return list
}

// set is the set of words that are written as letters, each being the terminal with this text; a point is the empty word.
func set(g api.Gram, s string) []string {
	var list []string
	for _, letters := range strings.Fields(s) {
		w := ""
		for _, letter := range strings.Trim(letters, ".") {
			w += string([]byte{byte(slices.Index(g.Terms, string(letter)))})
		}
		list = append(list, w)
	}
	return ordered(list)
}

// ordered are the different words of a list, as a set.
func ordered(list []string) []string {
	list = slices.Clone(list)
	slices.Sort(list)
	return slices.Compact(list)
}

// cut is a word's beginning.
func cut(w string, k int) string { return w[:max(0, min(k, len(w)))] }

// product is that of two sets, by the definition.
func product(k int, a, b []string) []string {
	var list []string
	for _, x := range a {
		for _, y := range b {
			list = append(list, cut(x+y, k))
		}
	}
	return ordered(list)
}

// allWords are all words of at most k of this many terminals.
func allWords(terms, k int) []string {
	list := []string{""}
	for at := 0; at < len(list); at++ {
		if len(list[at]) < k {
			for t := range terms {
				list = append(list, list[at]+string([]byte{byte(t)}))
			}
		}
	}
	return list
}

// numbers are words of two terminals for the numbers from one to another.
func numbers(from, to int) []string {
	var list []string
	for n := from; n < to; n++ {
		list = append(list, string([]byte{byte(n / 256), byte(n)}))
	}
	return list
}

// brief is the beginning of what is printed of something.
func brief(x any) string { return fmt.Sprintf("%.300s", fmt.Sprint(x)) }

// checkWords expects words; the format and its arguments tell whose they are.
func checkWords(t *testing.T, got, want []string, format string, args ...any) {
	t.Helper()
	if !slices.Equal(got, want) {
		t.Fatalf("%.500s: %d words, not %d: %.300q, not %.300q", fmt.Sprintf(format, args...), len(got), len(want), got, want)
	}
}

// checkSets expects a grammar to have first sets.
func checkSets(t *testing.T, g api.Gram, k int, want [][]string) {
	t.Helper()
	got, errno := first.Sets(g, k)
	if errno != api.OK || len(got) != len(want) {
		t.Fatalf("%d sets instead of %d, %d, with %d for %s", len(got), len(want), errno, k, brief(g))
	}
	for n := range want {
		checkWords(t, got[n], want[n], "Sets for %d with %d of %v", n, k, g)
	}
}

// checkError expects a grammar to have no first sets with k.
func checkError(t *testing.T, g api.Gram, k int, want api.Errno) {
	t.Helper()
	if got, errno := first.Sets(g, k); errno != want || got != nil {
		t.Fatalf("%d sets, %d, not %d, with %d for %s", len(got), errno, want, k, brief(g))
	}
}

// checkSize expects the start symbol of a grammar to have a first set of this many words.
func checkSize(t *testing.T, g api.Gram, k, want int) {
	t.Helper()
	if got, errno := first.Sets(g, k); errno != api.OK || len(got) != len(g.Names) || len(got[0]) != want {
		t.Fatalf("%d sets, %d, with %d for %s", len(got), errno, k, brief(g))
	}
}

// checkOf expects a string of symbols to have a first set.
func checkOf(t *testing.T, want []string, sets [][]string, k int, syms ...int) {
	t.Helper()
	got, ok := first.Of(sets, k, syms...)
	if !ok {
		t.Fatalf("%v has no first set with %d by %.300q", syms, k, sets)
	}
	checkWords(t, got, want, "Of %v with %d by %q", syms, k, sets)
}

// checkNone expects a string of symbols to have no first set.
func checkNone(t *testing.T, sets [][]string, k int, syms ...int) {
	t.Helper()
	if got, ok := first.Of(sets, k, syms...); ok || got != nil {
		t.Fatalf("%s has a first set of %d words, %t, with %d", brief(syms), len(got), ok, k)
	}
}

// Promise 20.1: grammars written out.

func TestSetsWrittenOut(t *testing.T) {
	for _, c := range []struct {
		text string
		k    int
		want []string
	}{
		{"S : 'a' S | ;", 1, []string{". a"}},
		{"S : 'a' S | ;", 2, []string{". a aa"}},
		{"S : 'a' S | ;", 3, []string{". a aa aaa"}},
		{"S : 'a' S | ;", 4, []string{". a aa aaa aaaa"}},
		{"S : ;", 1, []string{"."}},
		{"S : ;", 4, []string{"."}},
		{"S : 'a' ;", 1, []string{"a"}},
		{"S : 'a' ;", 4, []string{"a"}},
		{"S : 'a' 'b' 'c' 'd' 'e' ;", 1, []string{"a"}},
		{"S : 'a' 'b' 'c' 'd' 'e' ;", 2, []string{"ab"}},
		{"S : 'a' 'b' 'c' 'd' 'e' ;", 3, []string{"abc"}},
		{"S : 'a' 'b' 'c' 'd' 'e' ;", 4, []string{"abcd"}},
		{"S : 'b' | 'a' ;", 2, []string{"a b"}},
		{"S : 'b' S | 'a' ;", 2, []string{"a ba bb"}},
		{"S : S 'b' | 'a' ;", 1, []string{"a"}},
		{"S : S 'b' | 'a' ;", 2, []string{"a ab"}},
		{"S : S 'b' | 'a' ;", 4, []string{"a ab abb abbb"}},
		{"S : S S | 'a' ;", 3, []string{"a aa aaa"}},
		{"S : S S | 'a' | ;", 3, []string{". a aa aaa"}},
		{"S : S | 'a' ;", 2, []string{"a"}},
		{"S : 'a' S 'b' | ;", 1, []string{". a"}},
		{"S : 'a' S 'b' | ;", 2, []string{". aa ab"}},
		{"S : 'a' S 'b' | ;", 3, []string{". aaa aab ab"}},
		{"S : 'a' S 'b' | ;", 4, []string{". aaaa aaab aabb ab"}},
		{"S : A B ; A : 'a' | ; B : 'b' | ;", 1, []string{". a b", ". a", ". b"}},
		{"S : A B ; A : 'a' | ; B : 'b' | ;", 2, []string{". a ab b", ". a", ". b"}},
		{"S : A B 'c' ; A : 'a' A | ; B : 'b' | 'd' S ;", 1, []string{"a b d", ". a", "b d"}},
		{"S : A B 'c' ; A : 'a' A | ; B : 'b' | 'd' S ;", 2, []string{"aa ab ad bc da db dd", ". a aa", "b da db dd"}},
		{"S : A S | 'x' ; A : B ; B : C ; C : 'y' | ;", 1, []string{"x y", ". y", ". y", ". y"}},
		{"S : A S | 'x' ; A : B ; B : C ; C : 'y' | ;", 2, []string{"x yx yy", ". y", ". y", ". y"}},
		{"S : C 'x' ; A : 'y' A | 'z' ; C : A A ;", 2, []string{"yy yz zy zz", "yy yz z", "yy yz zy zz"}},
		{"S : C 'x' ; A : 'y' A | 'z' ; C : A A ;", 3, []string{"yyy yyz yzy yzz zyy zyz zzx", "yyy yyz yz z", "yyy yyz yzy yzz zyy zyz zz"}},
		{"E : T F ; F : '+' T F | ; T : U V ; V : '*' U V | ; U : '(' E ')' | 'n' ;", 1, []string{"( n", ". +", "( n", ". *", "( n"}},
		{"E : T F ; F : '+' T F | ; T : U V ; V : '*' U V | ; U : '(' E ')' | 'n' ;", 2,
			[]string{"n n+ n* (( (n", ". +( +n", "n n* (( (n", ". *( *n", "n (( (n"}},
	} {
		for _, g := range orders(read(t, c.text)) {
			var want [][]string
			for _, s := range c.want {
				want = append(want, set(g, s))
			}
			checkSets(t, g, c.k, want)
		}
	}
}

// Promises 20.1 and 20.3: grammars compared with what derivations allow.

// reader tells how the nonterminals of a grammar read a word.
type reader struct {
	gram api.Gram
	word string
	// ends are of each nonterminal and each index the indices up to which it derives the word from there on; begins tells whether it derives a string that begins with the rest.
	ends   [][][]bool
	begins [][]bool
}

// newReader finds what holds, until no rule finds more.
func newReader(g api.Gram, word string) *reader {
	r := &reader{gram: g, word: word}
	for range g.Names {
		var ends [][]bool
		for range len(word) + 1 {
			ends = append(ends, make([]bool, len(word)+1))
		}
		r.ends, r.begins = append(r.ends, ends), append(r.begins, make([]bool, len(word)+1))
	}
	for more := true; more; {
		more = false
		for _, rule := range g.Rules {
			for from := range len(word) + 1 {
				for to := range len(word) + 1 {
					if !r.ends[rule.Left][from][to] && r.derives(from, to, rule.Right) {
						r.ends[rule.Left][from][to], more = true, true
					}
				}
				if !r.begins[rule.Left][from] && r.starts(from, rule.Right) {
					r.begins[rule.Left][from], more = true, true
				}
			}
		}
	}
	return r
}

// derives tells whether symbols derive the piece of the word between two indices.
func (r *reader) derives(from, to int, syms []int) bool {
	if len(syms) == 0 {
		return from == to
	}
	for middle := from; middle <= to; middle++ {
		if r.one(syms[0], from, middle) && r.derives(middle, to, syms[1:]) {
			return true
		}
	}
	return false
}

// one tells whether a symbol derives the piece of the word between two indices.
func (r *reader) one(sym, from, to int) bool {
	if sym >= 0 {
		return r.ends[sym][from][to]
	}
	return to == from+1 && int(r.word[from]) == -1-sym
}

// starts tells whether symbols derive a string that begins with the word from an index on, if each nonterminal derives something.
func (r *reader) starts(from int, syms []int) bool {
	if from == len(r.word) {
		return true
	}
	if len(syms) == 0 {
		return false
	}
	if syms[0] >= 0 && r.begins[syms[0]][from] {
		return true
	}
	for to := from; to <= len(r.word); to++ {
		if r.one(syms[0], from, to) && r.starts(to, syms[1:]) {
			return true
		}
	}
	return false
}

// readers are those of all words of at most k terminals.
func readers(g api.Gram, k int) []*reader {
	var list []*reader
	for _, w := range allWords(len(g.Terms), k) {
		list = append(list, newReader(g, w))
	}
	return list
}

// allowed is the first set of symbols that derivations allow.
func allowed(list []*reader, k int, syms ...int) []string {
	var words []string
	for _, r := range list {
		if len(r.word) == k && r.starts(0, syms) || len(r.word) < k && r.derives(0, len(r.word), syms) {
			words = append(words, r.word)
		}
	}
	return ordered(words)
}

// checkAllowed expects the first sets of a grammar to be those that derivations allow, or that it is rejected if it is not reduced.
func checkAllowed(t *testing.T, g api.Gram, most int) bool {
	t.Helper()
	if well.Check(g) != api.OK {
		for k := 1; k <= most; k++ {
			checkError(t, g, k, api.ErrArg)
		}
		return false
	}
	list := readers(g, most)
	for k := 1; k <= most; k++ {
		var want [][]string
		for n := range g.Names {
			want = append(want, allowed(list, k, n))
		}
		checkSets(t, g, k, want)
	}
	return true
}

// rights are all right sides of at most two symbols, of this many nonterminals and terminals.
func rights(names, terms int) [][]int {
	list := [][]int{nil}
	for a := -terms; a < names; a++ {
		list = append(list, []int{a})
		for b := -terms; b < names; b++ {
			list = append(list, []int{a, b})
		}
	}
	return list
}

// choices are all lists of at most two, or three, different rules with the same left side and such a right side.
func choices(left, most int, rights [][]int) [][]api.Rule {
	var list [][]api.Rule
	for i, one := range rights {
		list = append(list, []api.Rule{rule(left, one...)})
		for j, two := range rights[:i] {
			list = append(list, []api.Rule{rule(left, one...), rule(left, two...)})
			for _, three := range rights[:j] {
				if most > 2 {
					list = append(list, []api.Rule{rule(left, one...), rule(left, two...), rule(left, three...)})
				}
			}
		}
	}
	return list
}

func TestEverySmallGrammar(t *testing.T) {
	count := 0
	check := func(g api.Gram, most int) {
		if checkAllowed(t, g, most) {
			count++
		}
	}
	for _, rules := range choices(0, 3, rights(1, 2)) {
		check(sized(1, 2, rules...), 4)
	}
	for _, one := range choices(0, 2, rights(2, 1)) {
		for _, two := range choices(1, 2, rights(2, 1)) {
			check(sized(2, 1, append(slices.Clone(two), one...)...), 4)
		}
	}
	if count < 2000 {
		t.Fatalf("%d grammars are reduced", count)
	}
}

// someGram is a grammar with this many names and terminals; it is valid if its rules differ.
func someGram(random *rand.Rand, names, terms, most int) api.Gram {
	g := sized(names, terms)
	for n := range names {
		for range 1 + random.Intn(3) {
			g.Rules = append(g.Rules, rule(n, someSyms(random, names, terms, random.Intn(most+1))...))
		}
	}
	random.Shuffle(len(g.Rules), func(i, j int) { g.Rules[i], g.Rules[j] = g.Rules[j], g.Rules[i] })
	return g
}

// someSyms are symbols of a grammar with this many names and terminals.
func someSyms(random *rand.Rand, names, terms, count int) []int {
	var syms []int
	for range count {
		if random.Intn(2) == 0 {
			syms = append(syms, -1-random.Intn(terms))
		} else {
			syms = append(syms, random.Intn(names))
		}
	}
	return syms
}

func TestSetsByDerivations(t *testing.T) {
	random := rand.New(rand.NewSource(201))
	count := 0
	for range 3000 {
		if checkAllowed(t, someGram(random, 1+random.Intn(4), 1+random.Intn(2), 4), 4) {
			count++
		}
	}
	for range 2000 {
		if checkAllowed(t, someGram(random, 1+random.Intn(6), 3, 5), 3) {
			count++
		}
	}
	if count < 1000 {
		t.Fatalf("%d grammars are reduced", count)
	}
}

// strung are all strings of terminals that symbols derive, in a grammar in which nonterminals derive only later ones.
func strung(g api.Gram, syms []int) []string {
	if len(syms) == 0 {
		return []string{""}
	}
	heads := []string{string([]byte{byte(-1 - syms[0])})}
	if syms[0] >= 0 {
		heads = nil
		for _, r := range g.Rules {
			if r.Left == syms[0] {
				heads = append(heads, strung(g, r.Right)...)
			}
		}
	}
	var list []string
	for _, tail := range strung(g, syms[1:]) {
		for _, head := range heads {
			list = append(list, head+tail)
		}
	}
	return list
}

// The definition, for grammars that derive finitely many strings.
func TestSetsByAllStrings(t *testing.T) {
	random := rand.New(rand.NewSource(202))
	count := 0
	for range 20000 {
		names, terms := 1+random.Intn(4), 1+random.Intn(3)
		g := sized(names, terms)
		for n := range names {
			for range 1 + random.Intn(3) {
				r := rule(n)
				for range random.Intn(4) {
					if later := names - n - 1; later > 0 && random.Intn(2) == 0 {
						r.Right = append(r.Right, n+1+random.Intn(later))
					} else {
						r.Right = append(r.Right, -1-random.Intn(terms))
					}
				}
				g.Rules = append(g.Rules, r)
			}
		}
		if well.Check(g) != api.OK {
			continue
		}
		count++
		for k := 1; k <= 4; k++ {
			var want [][]string
			for n := range names {
				want = append(want, product(k, strung(g, []int{n}), []string{""}))
			}
			checkSets(t, g, k, want)
		}
	}
	if count < 2000 {
		t.Fatalf("%d grammars are reduced", count)
	}
}

// Words come to the first nonterminal from the last one, to the last one from the first one, and through all of them in another order.
func TestLongChains(t *testing.T) {
	random := rand.New(rand.NewSource(203))
	for _, names := range []int{2, 3, 64, 254} {
		down := make([]int, names)
		for n := range down {
			down[n] = n
		}
		up := append([]int{0}, down[1:]...)
		slices.Reverse(up[1:])
		mixed := append([]int{0}, down[1:]...)
		random.Shuffle(names-1, func(i, j int) { mixed[1+i], mixed[1+j] = mixed[1+j], mixed[1+i] })
		for _, chain := range [][]int{down, up, mixed} {
			g := sized(names, 2)
			for i, n := range chain[1:] {
				g.Rules = append(g.Rules, rule(chain[i], n, -2))
			}
			last := chain[names-1]
			g.Rules = append(g.Rules, rule(last, -1), rule(last, -1, 0))
			want := slices.Repeat([][]string{{"\x00\x00", "\x00\x01"}}, names)
			want[last] = []string{"\x00", "\x00\x00"}
			checkSets(t, g, 2, want)
		}
	}
}

// Promise 20.1: errors.

func TestGrammarsThatAreNotReduced(t *testing.T) {
	for _, s := range []string{
		"S : S ;", "S : 'a' S ;", "S : 'a' | A ; A : A 'b' ;", "S : A ; A : A 'a' ;", // unproductive
		"S : 'a' ; B : 'b' ;", "S : ; A : ;", "S : 'a' ; A : S ;", "S : 'a' ; A : A ;", // unreachable
	} {
		for k := -1; k <= 6; k++ {
			checkError(t, read(t, s), k, api.ErrArg)
		}
	}
	for _, g := range []api.Gram{
		sized(1, 1, rule(0)), sized(1, 2, rule(0, -1)), sized(2, 1, rule(0, -1), rule(1)), // unreachable
		{}, sized(0, 1), sized(1, 0), sized(1, 1, rule(0, -1), rule(0, -1)), sized(1, 1, rule(0, -1), rule(1)), // not valid
		sized(1, 1, rule(0, -2)), sized(1, 1, rule(0, 1)), sized(2, 1, rule(0, 1, -1)), sized(1, 1, rule(0, -1), rule(-1)),
		sized(1, 1, rule(0, math.MinInt)), sized(1, 1, rule(0, math.MaxInt)), sized(1, 1, rule(math.MinInt, -1)), sized(1, 1, rule(math.MaxInt, -1)),
		sized(1, 1, rule(0, slices.Repeat([]int{-1}, api.MaxRight+1)...)),
		{Names: []string{"S"}, Terms: []string{""}, Rules: []api.Rule{rule(0, -1)}},
		{Names: []string{"1"}, Terms: []string{"a"}, Rules: []api.Rule{rule(0, -1)}},
		{Names: []string{"S", "S"}, Terms: []string{"a"}, Rules: []api.Rule{rule(0, 1), rule(1, -1)}},
		{Names: []string{"S"}, Terms: []string{"a", "a"}, Rules: []api.Rule{rule(0, -1, -2)}},
	} {
		for k := -1; k <= 6; k++ {
			checkError(t, g, k, api.ErrArg)
		}
	}
}

func TestEachK(t *testing.T) {
	g := read(t, "S : 'a' S | ;")
	for k := 1; k <= 4; k++ {
		checkSets(t, g, k, [][]string{allWords(1, k)})
	}
	for _, k := range []int{math.MinInt, math.MinInt32, -256, -4, -1, 0, 5, 6, 8, 255, 256, 257, 1 << 32, 1<<32 + 1, math.MaxInt} {
		checkError(t, g, k, api.ErrArg)
	}
}

// copies are the rules of a nonterminal with a right side for each terminal of a range.
func copies(left, from, to int) []api.Rule {
	var rules []api.Rule
	for n := from; n < to; n++ {
		rules = append(rules, rule(left, -1-n))
	}
	return rules
}

// with is a grammar with this many names and terminals; the given rules are joined.
func with(names, terms int, rules ...[]api.Rule) api.Gram {
	return sized(names, terms, slices.Concat(rules...)...)
}

// ErrArg comes first.
func TestLargeSetsOfGrammarsThatAreNotReduced(t *testing.T) {
	large := with(2, 65, copies(1, 0, 65), []api.Rule{rule(0, 1, 1)})
	checkError(t, large, 2, api.ErrLimit)
	for _, k := range []int{0, 5, -1} {
		checkError(t, large, k, api.ErrArg)
	}
	checkError(t, with(2, 66, large.Rules), 2, api.ErrArg)
	checkError(t, with(3, 65, large.Rules, []api.Rule{rule(2)}), 2, api.ErrArg)
	checkError(t, with(3, 65, large.Rules, []api.Rule{rule(0, 2), rule(2, 2)}), 2, api.ErrArg)
}

// Promise 20.1: sets of exactly MaxWords words, and of one more.

func TestTheLargestSetOfANonterminal(t *testing.T) {
	pairs := with(3, 64, copies(2, 0, 64), []api.Rule{rule(1, 2, 2), rule(0, 1)})
	for _, g := range orders(pairs) {
		checkSize(t, g, 1, 64)
		for k := 2; k <= 4; k++ {
			checkSize(t, g, k, api.MaxWords)
		}
	}
	// One more word is given by another rule, of any of the nonterminals, while no right side gives more than MaxWords.
	for _, c := range []struct {
		more  []api.Rule
		heads int
	}{
		{[]api.Rule{rule(0)}, 65},
		{[]api.Rule{rule(1)}, 65},
		{[]api.Rule{rule(0, -1)}, 64},
		{[]api.Rule{rule(1, -64)}, 64},
		{[]api.Rule{rule(0, -1, -2), rule(1)}, 65},
	} {
		for _, g := range orders(with(3, 64, pairs.Rules, c.more)) {
			checkSize(t, g, 1, c.heads)
			for k := 2; k <= 4; k++ {
				checkError(t, g, k, api.ErrLimit)
			}
		}
	}
	// Rules that give the same words do not count.
	for _, g := range orders(with(3, 64, pairs.Rules, []api.Rule{rule(0, -1, -2), rule(0, 2, 2), rule(1, -64, -64), rule(1, 1)})) {
		checkSize(t, g, 2, api.MaxWords)
	}
}

func TestTheLargestSetOfSeveralLengths(t *testing.T) {
	for terms, sizes := range map[int][]int{
		7: {8, 57, 400, 2801}, 8: {9, 73, 585, 0}, 15: {16, 241, 3616, 0}, 16: {17, 273, 0, 0}, 63: {64, 4033, 0, 0}, 64: {65, 0, 0, 0}, 254: {255, 0, 0, 0},
	} {
		for _, g := range orders(with(2, terms, copies(1, 0, terms), []api.Rule{rule(0, 1, 0), rule(0)})) {
			for k, size := range sizes {
				if size == 0 {
					checkError(t, g, k+1, api.ErrLimit)
				} else {
					checkSize(t, g, k+1, size)
				}
			}
		}
	}
	// 3616 words of 15 terminals, and 480 that begin with another one.
	most := [][]api.Rule{copies(2, 0, 15), copies(3, 0, 24), copies(4, 0, 20), {rule(1, 2, 1), rule(1), rule(0, 1), rule(0, -16, 3, 4)}}
	for _, g := range orders(with(5, 24, most...)) {
		checkSize(t, g, 3, api.MaxWords)
	}
	for _, g := range orders(with(5, 24, append(most, []api.Rule{rule(0, -24)})...)) {
		checkError(t, g, 3, api.ErrLimit)
		checkSize(t, g, 2, 241+24+1)
	}
}

func TestTheLargestSetOfARightSide(t *testing.T) {
	for n, size := range map[int]int{16: 16 * 241, 17: 0} {
		for _, right := range [][]int{{1, 2}, {1, 2, -1}, {1, 2, 2, 1, 0}} {
			for _, g := range orders(with(3, 241, copies(1, 0, n), copies(2, 0, 241), []api.Rule{rule(0, right...), rule(0, -1)})) {
				checkSize(t, g, 1, n)
				if size == 0 {
					checkError(t, g, 2, api.ErrLimit)
				} else {
					checkSize(t, g, 2, size+1)
				}
			}
		}
	}
}

// narrowing is a grammar with the rule S : C Y 'x', where Y is empty or 'x', so there are fewer words with three terminals for the right side than for C Y. C is one of this many pairs or triples.
func narrowing(pairs, triples int) api.Gram {
	g := sized(3, 97, rule(0, 1, 2, -1), rule(2, -1), rule(2))
	for i := range pairs {
		g.Rules = append(g.Rules, rule(1, -2-i/64, -34-i%64))
	}
	for i := range triples {
		g.Rules = append(g.Rules, rule(1, -1, -1, -1-i))
	}
	return g
}

// The sets of all beginnings of right sides count, although those of the right sides and of the nonterminals are smaller.
func TestTheLargestSetOfABeginning(t *testing.T) {
	for _, c := range []struct{ pairs, triples, two, three, four int }{
		{2048, 0, 2048, 2048, 4096},
		{2047, 2, 2048, 2049, 0},
		{2048, 1, 2049, 0, 0},
		{2047, 3, 2048, 0, 0},
	} {
		for _, g := range orders(narrowing(c.pairs, c.triples)) {
			for k, size := range map[int]int{2: c.two, 3: c.three, 4: c.four} {
				if size == 0 {
					checkError(t, g, k, api.ErrLimit)
				} else {
					checkSize(t, g, k, size)
				}
			}
		}
	}
}

// No other pieces of right sides count.
func TestLargeSetsOfEnds(t *testing.T) {
	pairs := slices.Concat(copies(1, 0, 17), copies(2, 0, 241))
	for _, g := range orders(with(3, 241, pairs, []api.Rule{rule(0, -1, -2, 1, 2)})) {
		checkSize(t, g, 2, 1)
		checkSize(t, g, 3, 17)
		checkError(t, g, 4, api.ErrLimit)
	}
	for _, g := range orders(with(3, 241, pairs, []api.Rule{rule(0, -1, -2, -3, 1, 2, 1, 2, -1)})) {
		checkSize(t, g, 3, 1)
		checkSize(t, g, 4, 17)
	}
}

// Promise 20.1: the largest grammars.

func TestTheMostRules(t *testing.T) {
	g := sized(1, 255)
	var want []string
	for i := range api.MaxRules {
		w := []byte{byte(i / 64), byte(64 + i%64), byte(i % 255), byte(i % 254)}
		r := rule(0)
		for at := range api.MaxRight {
			if at >= len(w) {
				w = append(w, byte(i+at)%255)
			}
			r.Right = append(r.Right, -1-int(w[at]))
		}
		g.Rules = append(g.Rules, r)
		want = append(want, string(w[:4]))
	}
	for _, h := range orders(g) {
		for k := 1; k <= 4; k++ {
			checkSets(t, h, k, [][]string{product(k, want, []string{""})})
		}
	}
}

func TestTheMostSymbols(t *testing.T) {
	empty := with(256, 0, []api.Rule{rule(255)})
	for n := range 255 {
		empty.Rules = append(empty.Rules, rule(n, slices.Repeat([]int{n + 1}, 64)...))
	}
	for _, g := range orders(empty) {
		for k := 1; k <= 4; k++ {
			checkSets(t, g, k, slices.Repeat([][]string{{""}}, 256))
		}
	}
	for _, g := range orders(with(1, 255, copies(0, 0, 255))) {
		for k := 1; k <= 4; k++ {
			checkSets(t, g, k, [][]string{allWords(255, 1)[1:]})
		}
	}
}

// The same words are given by as many rules as there can be, or far more words than a set can have.
func TestManyLargeRightSides(t *testing.T) {
	g := with(3, 64, copies(2, 0, 64), []api.Rule{rule(1, 2, 2)})
	for i := range 1000 {
		g.Rules = append(g.Rules, rule(0, 1, -1-i/64, -1-i%64))
	}
	checkSize(t, g, 2, api.MaxWords)
	checkError(t, g, 3, api.ErrLimit)
	checkError(t, g, 4, api.ErrLimit)
}

// Long right sides that can be empty have the same beginnings again and again.
func TestLongRightSidesThatCanBeEmpty(t *testing.T) {
	random := rand.New(rand.NewSource(208))
	g := sized(60, 7)
	for n := range g.Names {
		g.Rules = append(g.Rules, rule(n), rule(n, -1-n%7))
		for range 3 {
			r := rule(n, (n+1)%60)
			for range api.MaxRight - 1 {
				r.Right = append(r.Right, random.Intn(60))
			}
			g.Rules = append(g.Rules, r)
		}
	}
	for k := 1; k <= 4; k++ {
		checkSets(t, g, k, slices.Repeat([][]string{ordered(allWords(7, k))}, 60))
	}
}

// Promise 20.2: strings of symbols written out.

// letter is the terminal whose number is that of a letter.
func letter(c byte) int { return -1 - int(c) }

func TestOfWrittenOut(t *testing.T) {
	sets := [][]string{{"", "a", "ab"}, {"b", "ba"}, {""}, {"cde"}, nil, {}}
	for _, c := range []struct {
		k    int
		syms []int
		want string
	}{
		{1, nil, "."},
		{4, []int{}, "."},
		{2, []int{0}, ". a ab"},
		{1, []int{0}, ". a"},
		{3, []int{0}, ". a ab"},
		{2, []int{1}, "b ba"},
		{1, []int{1}, "b"},
		{1, []int{2}, "."},
		{4, []int{2, 2, 2}, "."},
		{2, []int{letter('x')}, "x"},
		{2, []int{letter('x'), letter('y')}, "xy"},
		{2, []int{letter('y'), letter('x'), letter('z')}, "yx"},
		{1, []int{0, 1}, "a b"},
		{2, []int{0, 1}, "ab b ba"},
		{3, []int{0, 1}, "ab aba abb b ba"},
		{4, []int{0, 1}, "ab aba abb abba b ba"},
		{5, []int{0, 1}, "ab aba abb abba b ba"},
		{3, []int{1, 0}, "b ba baa bab"},
		{4, []int{1, 0}, "b ba baa baab bab"},
		{2, []int{0, 0}, ". a aa ab"},
		{3, []int{0, 0}, ". a aa aab ab aba"},
		{3, []int{2, 0, 2, letter('x'), 2}, "abx ax x"},
		{2, []int{2, 0, 2, letter('x'), 2}, "ab ax x"},
		{2, []int{0, 3}, "ab ac cd"},
		{3, []int{3}, "cde"},
		{2, []int{3}, "cd"},
		{3, []int{letter('x'), 3}, "xcd"},
		{4, []int{4}, ""},
		{4, []int{5}, ""},
		{1, []int{letter('x'), 4}, ""},
		{1, []int{4, letter('x')}, ""},
		{2, []int{3, letter('x'), 5, 1}, ""},
		{2, []int{0, 4, 0}, ""},
	} {
		var want []string
		for _, w := range strings.Fields(c.want) {
			want = append(want, strings.Trim(w, "."))
		}
		checkOf(t, want, sets, c.k, c.syms...)
	}
}

// allKs are numbers of terminals, also such as no grammar is looked ahead with.
func allKs() []int {
	return []int{math.MinInt, math.MinInt32, -256, -1, 0, 1, 2, 3, 4, 5, 6, 255, 256, 4096, 1 << 32, math.MaxInt}
}

func TestNoSymbols(t *testing.T) {
	for _, k := range allKs() {
		for _, sets := range [][][]string{nil, {}, {nil}, {{}}, {{"a"}}, {numbers(0, api.MaxWords+1)}} {
			checkOf(t, []string{""}, sets, k)
			checkOf(t, []string{""}, sets, k, []int{}...)
		}
	}
}

func TestEachTerminal(t *testing.T) {
	for n := range 256 {
		one := string([]byte{byte(n)})
		for _, k := range allKs() {
			checkOf(t, []string{cut(one, k)}, nil, k, -1-n)
			checkOf(t, []string{cut(one+"\x07"+one, k)}, [][]string{{"\x07"}}, k, -1-n, 0, -1-n)
		}
	}
}

// symbols that are neither an index of so many sets nor a terminal.
func noSymbols(sets int) []int {
	return []int{sets, sets + 1, 255, 256, 257, 4096, 1 << 32, math.MaxInt, -257, -258, -512, -65536, -1 << 32, math.MinInt + 1, math.MinInt}
}

func TestWhatIsNoSymbol(t *testing.T) {
	for _, sets := range [][][]string{nil, {{""}}, {{"", "a"}, {"b"}}, {nil, nil}, {{"aaaaaaaa"}, nil, {"a"}}} {
		for _, sym := range noSymbols(len(sets)) {
			for _, k := range allKs() {
				checkNone(t, sets, k, sym)
				checkNone(t, sets, k, sym, sym)
				checkNone(t, sets, k, -256, sym)
				checkNone(t, sets, k, sym, -256)
				checkNone(t, sets, k, -1, -2, -3, -4, -5, sym)
				checkNone(t, sets, k, -1, -2, sym, -3, -4, -5)
				for n := range sets {
					checkNone(t, sets, k, n, sym)
					checkNone(t, sets, k, n, n, n, n, n, sym)
					checkNone(t, sets, k, sym, n)
					checkNone(t, sets, k, -1, n, sym, n)
				}
			}
		}
	}
	for n := range 256 {
		sets := slices.Repeat([][]string{{"\x01"}}, n)
		checkNone(t, sets, 2, n)
		if n > 0 {
			checkOf(t, []string{"\x01"}, sets, 2, n-1)
		}
	}
}

// Promise 20.2: strings of symbols compared with the definition.

// folded is the first set of symbols, by the definition.
func folded(sets [][]string, k int, syms ...int) []string {
	if len(syms) == 0 {
		return []string{""}
	}
	last := len(syms) - 1
	set := []string{string([]byte{byte(-1 - syms[last])})}
	if syms[last] >= 0 {
		set = sets[syms[last]]
	}
	return product(k, folded(sets, k, syms[:last]...), set)
}

// someSet is a set of at most so many words of at most most terminals.
func someSet(random *rand.Rand, count, most int) []string {
	var list []string
	for range random.Intn(count + 1) {
		w := make([]byte, random.Intn(most+1))
		for i := range w {
			w[i] = []byte{0, 1, 127, 128, 255}[random.Intn(5)]
		}
		list = append(list, string(w))
	}
	return ordered(list)
}

func TestOfByTheDefinition(t *testing.T) {
	random := rand.New(rand.NewSource(204))
	for range 3000 {
		var sets [][]string
		for range 1 + random.Intn(4) {
			sets = append(sets, someSet(random, 4, 4))
		}
		for k := -1; k <= 6; k++ {
			syms := someSyms(random, len(sets), 256, random.Intn(6))
			if want := folded(sets, k, syms...); len(want) <= 1000 {
				checkOf(t, want, sets, k, syms...)
			}
		}
	}
}

// Right sides, which have at most 64 symbols, are not all that has a first set.
func TestLongStrings(t *testing.T) {
	sets := [][]string{{"", "a"}, {""}, {"b"}, nil}
	for _, n := range []int{63, 64, 65, 66, 1000, 100000} {
		checkOf(t, []string{"", "a", "aa", "aaa", "aaaa"}, sets, 4, slices.Repeat([]int{0}, n)...)
		checkOf(t, []string{""}, sets, 4, slices.Repeat([]int{1}, n)...)
		checkOf(t, []string{"bbbb"}, sets, 4, slices.Repeat([]int{2}, n)...)
		checkOf(t, []string{"b"}, sets, 4, append(slices.Repeat([]int{1}, n), 2)...)
		checkOf(t, []string{strings.Repeat("b", min(n, 500))}, sets, 500, slices.Repeat([]int{2}, n)...)
		checkOf(t, nil, sets, 4, append(slices.Repeat([]int{2}, n), 3)...)
		checkNone(t, sets, 4, append(slices.Repeat([]int{2}, n), 4)...)
		checkNone(t, sets, 4, append(slices.Repeat([]int{0}, n), -257)...)
	}
}

// Promise 20.2: sets of exactly MaxWords words, and of one more.

func TestTheLargestFirstSets(t *testing.T) {
	most, more := numbers(0, api.MaxWords), numbers(0, api.MaxWords+1)
	sets := [][]string{most, more, {""}, allWords(64, 1)[1:], allWords(65, 1)[1:], allWords(8, 4)}
	slices.Sort(sets[5])
	for _, k := range []int{2, 3, 4, 5, math.MaxInt} {
		checkOf(t, most, sets, k, 0)
		checkOf(t, most, sets, k, 2, 0, 2)
		checkOf(t, product(k, most, []string{"\x00\x01"}), sets, k, 0, -1, 2, -2)
		checkOf(t, product(k, sets[3], sets[3]), sets, k, 3, 3)
		for _, syms := range [][]int{{1}, {1, 2}, {2, 1}, {1, 0}, {3, 4}, {4, 3}, {4, 4}, {3, 4, -1}, {2, 3, 4, 2}, {1, -1, -2, -3, -4}} {
			checkNone(t, sets, k, syms...)
		}
	}
	for _, k := range []int{4, 5, math.MaxInt} {
		checkOf(t, product(k, []string{"\x09"}, most), sets, k, -10, 0)
		checkNone(t, sets, k, -10, 1)
		checkNone(t, sets, k, 5)
		checkNone(t, sets, k, 0, 3)
	}
}

// What counts is the set with k, and that of each beginning.
func TestFirstSetsOfBeginnings(t *testing.T) {
	pairs, x := numbers(0, 2048), []string{"", "x"}
	sets := [][]string{pairs, x, append(slices.Clone(pairs), "\x08\x00x"), numbers(0, 2049), numbers(0, api.MaxWords+1), numbers(0, 65536)}
	checkOf(t, product(3, pairs, x), sets, 3, 0, 1)
	checkOf(t, product(3, pairs, []string{"x"}), sets, 3, 0, 1, letter('x'))
	checkNone(t, sets, 3, 2, 1)
	checkNone(t, sets, 3, 2, 1, letter('x'))
	checkNone(t, sets, 3, 3, 1, letter('x'))
	checkNone(t, sets, 4, 0, 1, 1)
	checkOf(t, sets[3], sets, 2, 3, 1, letter('x'))
	checkNone(t, sets, 4, 0, 1, 1, letter('x'))
	checkOf(t, product(4, pairs, []string{"xx"}), sets, 4, 0, letter('x'), 1, letter('x'))
	// Cut to one terminal, or with terminals in front, the words of large sets are few.
	checkOf(t, allWords(17, 1)[1:], sets, 1, 4)
	checkOf(t, allWords(256, 1)[1:], sets, 1, 5)
	checkOf(t, product(2, []string{"x"}, allWords(256, 1)[1:]), sets, 2, letter('x'), 5)
	checkOf(t, []string{"xxx"}, sets, 3, letter('x'), letter('x'), letter('x'), 5, 5)
	checkOf(t, []string{""}, sets, 0, 5)
	// What does not occur in the string does not count.
	checkOf(t, x, sets, 2, 1)
}

// Promise 20.3: words of strings of symbols, compared with what derivations allow.

func TestStringsByDerivations(t *testing.T) {
	random := rand.New(rand.NewSource(205))
	count := 0
	for range 4000 {
		names, terms := 1+random.Intn(4), 1+random.Intn(2)
		g := someGram(random, names, terms, 3)
		if well.Check(g) != api.OK {
			continue
		}
		count++
		k := 1 + random.Intn(4)
		sets, _ := first.Sets(g, k)
		list := readers(g, k)
		for range 5 {
			syms := someSyms(random, names, terms, random.Intn(6))
			checkOf(t, allowed(list, k, syms...), sets, k, syms...)
			// The sets with k show what is allowed with fewer terminals, too.
			less := 1 + random.Intn(k)
			checkOf(t, allowed(list, less, syms...), sets, less, syms...)
		}
	}
	if count < 500 {
		t.Fatalf("%d grammars are reduced", count)
	}
}

// The first set of a nonterminal is the union of those of its right sides.
func TestSetsAreThoseOfTheRules(t *testing.T) {
	random := rand.New(rand.NewSource(206))
	for range 2000 {
		g := someGram(random, 1+random.Intn(8), 1+random.Intn(6), 5)
		for k := 1; k <= 4; k++ {
			sets, errno := first.Sets(g, k)
			if errno != api.OK {
				continue
			}
			for n := range g.Names {
				var all []string
				for _, i := range gram.Of(g, n) {
					part, ok := first.Of(sets, k, g.Rules[i].Right...)
					if !ok {
						t.Fatalf("a right side of %v has no first set with %d", g, k)
					}
					all = append(all, part...)
				}
				checkWords(t, sets[n], ordered(all), "Sets for %d with %d of %v", n, k, g)
			}
		}
	}
}

// The rules R1, R3, R4 and R6 for promises 20.1 and 20.2.

// Lists that are no sets give no panic, and every call returns.
func TestListsThatAreNoSets(t *testing.T) {
	random := rand.New(rand.NewSource(207))
	for range 2000 {
		sets := [][]string{{"b", "a"}, {"", ""}, slices.Repeat([]string{"a", ""}, random.Intn(5000)), someSet(random, 5, 5)}
		random.Shuffle(len(sets[3]), func(i, j int) { sets[3][i], sets[3][j] = sets[3][j], sets[3][i] })
		for _, k := range allKs() {
			first.Of(sets, k, someSyms(random, len(sets), 256, random.Intn(4))...)
		}
	}
}

// spare is a list with room behind its elements, in which one more stands.
func spare[E any](list []E, other E) []E { return append(slices.Clone(list), other)[:len(list)] }

func TestArgumentsAreNotChanged(t *testing.T) {
	g := read(t, "S : A B 'c' ; A : 'a' A | ; B : 'b' | 'd' S ;")
	g.Names, g.Terms, g.Rules = spare(g.Names, "Spare"), spare(g.Terms, "spare"), spare(g.Rules, rule(7, 7))
	for i, r := range g.Rules {
		g.Rules[i].Right = spare(r.Right, 99)
	}
	copied := api.Gram{Names: slices.Clone(g.Names[:4]), Terms: slices.Clone(g.Terms[:5])}
	for _, r := range g.Rules {
		copied.Rules = append(copied.Rules, rule(r.Left, r.Right[:len(r.Right)+1]...))
		copied.Rules[len(copied.Rules)-1].Right = slices.Clone(copied.Rules[len(copied.Rules)-1].Right)
	}
	for k := 0; k <= 5; k++ {
		first.Sets(g, k)
	}
	if !slices.Equal(g.Names[:4], copied.Names) || !slices.Equal(g.Terms[:5], copied.Terms) || g.Rules[:6][5].Left != 7 {
		t.Fatalf("the grammar became %v", g)
	}
	for i, r := range g.Rules {
		if r.Left != copied.Rules[i].Left || !slices.Equal(r.Right[:len(r.Right)+1], copied.Rules[i].Right) {
			t.Fatalf("rule %d became %v", i, r)
		}
	}
	sets := spare([][]string{spare([]string{"", "a", "ab"}, "x"), spare([]string{"b", "ba"}, "y")}, []string{"spare"})
	syms := spare([]int{0, -1, 1, 0}, 77)
	for k := -1; k <= 6; k++ {
		first.Of(sets, k, syms...)
		first.Of(sets, k, syms[:1]...)
		first.Of(sets, k, append(syms[:1:1], 9)...)
	}
	if !slices.Equal(sets[0][:4], []string{"", "a", "ab", "x"}) || !slices.Equal(sets[1][:3], []string{"b", "ba", "y"}) ||
		!slices.Equal(sets[:3][2], []string{"spare"}) || !slices.Equal(syms[:5], []int{0, -1, 1, 0, 77}) {
		t.Fatalf("the arguments became %q and %v", sets, syms)
	}
}

// scribble changes all words of lists, and those behind them.
func scribble(lists ...[]string) {
	for _, l := range lists {
		for i := range l {
			l[i] = "scribbled"
		}
		_ = append(l, "scribbled")
	}
}

// Neither a changed result nor a changed argument is seen elsewhere.
func TestResultsAreNewMemory(t *testing.T) {
	g := read(t, "S : A | B ; A : C ; B : 'b' C | 'd' | ; C : A | 'c' | ;")
	one, _ := first.Sets(g, 2)
	two, _ := first.Sets(g, 2)
	want := [][]string{{"", "\x00", "\x00\x02", "\x01", "\x02"}, {"", "\x02"}, {"", "\x00", "\x00\x02", "\x01"}, {"", "\x02"}}
	for n := range want {
		checkWords(t, one[n], want[n], "Sets")
		scribble(one[n])
		for other := range want {
			checkWords(t, two[other], want[other], "Sets, again")
			if other > n {
				checkWords(t, one[other], want[other], "another one of the sets")
			}
		}
	}
	checkSets(t, g, 2, want)
	for _, syms := range [][]int{nil, {0}, {1}, {1, 2}, {2, 1}, {-1}, {-1, 2}, {1, -1}, {2, 0, 2}, {0, 0}} {
		sets := [][]string{{"", "a", "aa"}, {"b", "bb"}, {""}}
		want := folded(sets, 2, syms...)
		one, _ := first.Of(sets, 2, syms...)
		two, _ := first.Of(sets, 2, syms...)
		scribble(one)
		checkWords(t, two, want, "Of, again")
		for n, l := range [][]string{{"", "a", "aa"}, {"b", "bb"}, {""}} {
			checkWords(t, sets[n], l, "the argument of Of")
		}
		scribble(sets...)
		checkWords(t, two, want, "Of with changed arguments")
	}
}

func TestResultsAreTheSameEachTime(t *testing.T) {
	g := read(t, "E : T F ; F : '+' T F | ; T : U V ; V : '*' U V | ; U : '(' E ')' | 'n' ;")
	for k := 1; k <= 4; k++ {
		want, _ := first.Sets(g, k)
		of, _ := first.Of(want, k, 1, 3, 0)
		for range 20 {
			checkSets(t, g, k, want)
			checkOf(t, of, want, k, 1, 3, 0)
		}
	}
}
