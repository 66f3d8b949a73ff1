package follow_test

import (
	"fmt"
	"math"
	"math/rand"
	"slices"
	"strings"
	"testing"

	"repertory/api"
	"repertory/first"
	"repertory/follow"
	"repertory/gram"
	"repertory/parse"
	"repertory/well"
)

func rule(left int, right ...int) api.Rule { return api.Rule{Left: left, Right: right} }

// numbered are different texts.
func numbered(prefix string, n int) []string {
	var list []string
	for i := range n {
		list = append(list, fmt.Sprint(prefix, i))
	}
	return list
}

// sized is a grammar with this many names and terminals.
func sized(names, terms int, rules ...api.Rule) api.Gram {
	return api.Gram{Names: numbered("N", names), Terms: numbered("t", terms), Rules: rules}
}

// read is the grammar of a text.
func read(t *testing.T, s string) api.Gram {
	t.Helper()
	l, _, errno := parse.All(s)
	if errno != api.OK {
		t.Fatalf("%q is no grammar text", s)
	}
	g, errno := gram.Resolve(l...)
	if errno != api.OK {
		t.Fatalf("%q gives no grammar: %d", s, errno)
	}
	return g
}

// orders are the same grammar with its rules in several orders.
func orders(g api.Gram) []api.Gram {
	back := slices.Clone(g.Rules)
	slices.Reverse(back)
	mixed := slices.Clone(g.Rules)
	rand.New(rand.NewSource(20)).Shuffle(len(mixed), func(i, j int) { mixed[i], mixed[j] = mixed[j], mixed[i] })
	list := []api.Gram{g}
	for _, rules := range [][]api.Rule{back, mixed} {
		list = append(list, api.Gram{Names: g.Names, Terms: g.Terms, Rules: rules})
	}
	return list
}

// set is the set of words that are written as letters, each being the terminal with this text; a point is the empty word.
func set(g api.Gram, s string) []string {
	var list []string
	for _, letters := range strings.Fields(s) {
		w := ""
		for _, letter := range strings.Trim(letters, ".") {
			w += string([]byte{byte(slices.Index(g.Terms, string(letter)))})
		}
		list = append(list, w)
	}
	return ordered(list)
}

// ordered are the different words of a list, as a set.
func ordered(list []string) []string {
	list = slices.Clone(list)
	slices.Sort(list)
	return slices.Compact(list)
}

// cut is a word's beginning.
func cut(w string, k int) string { return w[:max(0, min(k, len(w)))] }

// product is that of two sets, by the definition.
func product(k int, a, b []string) []string {
	var list []string
	for _, x := range a {
		for _, y := range b {
			list = append(list, cut(x+y, k))
		}
	}
	return ordered(list)
}

// allWords are all words of at most k of this many terminals.
func allWords(terms, k int) []string {
	list := []string{""}
	for at := 0; at < len(list); at++ {
		if len(list[at]) < k {
			for t := range terms {
				list = append(list, list[at]+string([]byte{byte(t)}))
			}
		}
	}
	return list
}

// letters are words of one terminal each, from one to another.
func letters(from, to int) []string {
	var list []string
	for n := from; n < to; n++ {
		list = append(list, string([]byte{byte(n)}))
	}
	return list
}

// brief is the beginning of what is printed of something.
func brief(x any) string { return fmt.Sprintf("%.300s", fmt.Sprint(x)) }

// checkWords expects words; the format and its arguments tell whose they are.
func checkWords(t *testing.T, got, want []string, format string, args ...any) {
	t.Helper()
	if !slices.Equal(got, want) {
		t.Fatalf("%.500s: %d words, not %d: %.300q, not %.300q", fmt.Sprintf(format, args...), len(got), len(want), got, want)
	}
}

// checkSets expects a grammar to have follow sets.
func checkSets(t *testing.T, g api.Gram, k int, want [][]string) {
	t.Helper()
	got, errno := follow.Sets(g, k)
	if errno != api.OK || len(got) != len(want) {
		t.Fatalf("%d sets instead of %d, %d, with %d for %s", len(got), len(want), errno, k, brief(g))
	}
	for n := range want {
		checkWords(t, got[n], want[n], "Sets for %d with %d of %v", n, k, g)
	}
}

// checkError expects a grammar to have no follow sets with k.
func checkError(t *testing.T, g api.Gram, k int, want api.Errno) {
	t.Helper()
	if got, errno := follow.Sets(g, k); errno != want || got != nil {
		t.Fatalf("%d sets, %d, not %d, with %d for %s", len(got), errno, want, k, brief(g))
	}
}

// checkSize expects a nonterminal of a grammar to have a follow set of this many words, or no follow sets to exist if it is 0.
func checkSize(t *testing.T, g api.Gram, k, n, want int) {
	t.Helper()
	if want == 0 {
		checkError(t, g, k, api.ErrLimit)
		return
	}
	got, errno := follow.Sets(g, k)
	if errno != api.OK || len(got) != len(g.Names) || len(got[n]) != want {
		t.Fatalf("%d sets, %d, not %d words, with %d for %s", len(got), errno, want, k, brief(g))
	}
}

// checkBehind expects something to follow a symbol.
func checkBehind(t *testing.T, want []string, begin, after [][]string, k int, r api.Rule, at int) {
	t.Helper()
	got, ok := follow.Behind(begin, after, k, r, at)
	if !ok {
		t.Fatalf("nothing for index %d of %s with %d by %.300q and %.300q", at, brief(r), k, begin, after)
	}
	checkWords(t, got, want, "Behind index %d of %v with %d by %q and %q", at, r, k, begin, after)
}

// checkNone expects Behind to fail.
func checkNone(t *testing.T, begin, after [][]string, k int, r api.Rule, at int) {
	t.Helper()
	if got, ok := follow.Behind(begin, after, k, r, at); ok || got != nil {
		t.Fatalf("%d words, %t, for index %d of %s with %d", len(got), ok, at, brief(r), k)
	}
}

// rights are all right sides of at most two symbols, of this many nonterminals and terminals.
func rights(names, terms int) [][]int {
	list := [][]int{nil}
	for a := -terms; a < names; a++ {
		list = append(list, []int{a})
		for b := -terms; b < names; b++ {
			list = append(list, []int{a, b})
		}
	}
	return list
}

// choices are all lists of at most two, or three, different rules with the same left side and such a right side.
func choices(left, most int, rights [][]int) [][]api.Rule {
	var list [][]api.Rule
	for i, one := range rights {
		list = append(list, []api.Rule{rule(left, one...)})
		for j, two := range rights[:i] {
			list = append(list, []api.Rule{rule(left, one...), rule(left, two...)})
			for _, three := range rights[:j] {
				if most > 2 {
					list = append(list, []api.Rule{rule(left, one...), rule(left, two...), rule(left, three...)})
				}
			}
		}
	}
	return list
}

// someGram is a grammar with this many names and terminals; it is valid if its rules differ.
func someGram(random *rand.Rand, names, terms, most int) api.Gram {
	g := sized(names, terms)
	for n := range names {
		for range 1 + random.Intn(3) {
			g.Rules = append(g.Rules, rule(n, someSyms(random, names, terms, random.Intn(most+1))...))
		}
	}
	random.Shuffle(len(g.Rules), func(i, j int) { g.Rules[i], g.Rules[j] = g.Rules[j], g.Rules[i] })
	return g
}

// someSyms are symbols of a grammar with this many names and terminals.
func someSyms(random *rand.Rand, names, terms, count int) []int {
	var syms []int
	for range count {
		if random.Intn(2) == 0 {
			syms = append(syms, -1-random.Intn(terms))
		} else {
			syms = append(syms, random.Intn(names))
		}
	}
	return syms
}

// copies are the rules of a nonterminal with a right side for each terminal of a range.
func copies(left, from, to int) []api.Rule {
	var rules []api.Rule
	for n := from; n < to; n++ {
		rules = append(rules, rule(left, -1-n))
	}
	return rules
}

// with is a grammar with this many names and terminals; the given rules are joined.
func with(names, terms int, rules ...[]api.Rule) api.Gram {
	return sized(names, terms, slices.Concat(rules...)...)
}

// someSet is a set of at most so many words of at most most terminals.
func someSet(random *rand.Rand, count, most int) []string {
	var list []string
	for range random.Intn(count + 1) {
		w := make([]byte, random.Intn(most+1))
		for i := range w {
			w[i] = []byte{0, 1, 127, 128, 255}[random.Intn(5)]
		}
		list = append(list, string(w))
	}
	return ordered(list)
}

// spare is a list with room behind its elements, in which one more stands.
func spare[E any](list []E, other E) []E { return append(slices.Clone(list), other)[:len(list)] }

// scribble changes all words of lists, and those behind them.
func scribble(lists ...[]string) {
	for _, l := range lists {
		for i := range l {
			l[i] = "scribbled"
		}
		_ = append(l, "scribbled")
	}
}

// allKs are numbers of terminals, also such as no grammar is looked ahead with.
func allKs() []int {
	return []int{math.MinInt, math.MinInt32, -256, -1, 0, 1, 2, 3, 4, 5, 6, 255, 256, 4096, 1 << 32, math.MaxInt}
}

// folded is the first set of symbols, by the definition.
func folded(sets [][]string, k int, syms ...int) []string {
	if len(syms) == 0 {
		return []string{""}
	}
	last := len(syms) - 1
	set := []string{string([]byte{byte(-1 - syms[last])})}
	if syms[last] >= 0 {
		set = sets[syms[last]]
	}
	return product(k, folded(sets, k, syms[:last]...), set)
}

// symbols that are neither an index of so many sets nor a terminal.
func noSymbols(sets int) []int {
	return []int{sets, sets + 1, 255, 256, 257, 4096, 1 << 32, math.MaxInt, -257, -258, -512, -65536, -1 << 32, math.MinInt + 1, math.MinInt}
}

// Promise 21.1: grammars written out.

func TestSetsWrittenOut(t *testing.T) {
	for _, c := range []struct {
		text string
		k    int
		want []string
	}{
		{"S : 'a' S 'b' | ;", 1, []string{". b"}},
		{"S : 'a' S 'b' | ;", 2, []string{". b bb"}},
		{"S : 'a' S 'b' | ;", 3, []string{". b bb bbb"}},
		{"S : 'a' S 'b' | ;", 4, []string{". b bb bbb bbbb"}},
		{"S : ;", 1, []string{"."}},
		{"S : ;", 4, []string{"."}},
		{"S : 'a' ;", 1, []string{"."}},
		{"S : 'a' 'b' 'c' 'd' 'e' ;", 4, []string{"."}},
		{"S : 'a' S | ;", 2, []string{"."}},
		{"S : S 'b' | 'a' ;", 1, []string{". b"}},
		{"S : S 'b' | 'a' ;", 2, []string{". b bb"}},
		{"S : S S | 'a' ;", 2, []string{". a aa"}},
		{"S : S S | 'a' ;", 3, []string{". a aa aaa"}},
		{"S : S S | 'a' | ;", 2, []string{". a aa"}},
		{"S : S | 'a' ;", 2, []string{"."}},
		{"S : 'a' 'b' S 'c' 'd' | ;", 1, []string{". c"}},
		{"S : 'a' 'b' S 'c' 'd' | ;", 2, []string{". cd"}},
		{"S : 'a' 'b' S 'c' 'd' | ;", 3, []string{". cd cdc"}},
		{"S : A B ; A : 'a' | ; B : 'b' | ;", 1, []string{".", ". b", "."}},
		{"S : A B ; A : 'a' | ; B : 'b' | ;", 2, []string{".", ". b", "."}},
		{"S : A 'x' A 'y' ; A : 'a' | ;", 1, []string{".", "x y"}},
		{"S : A 'x' A 'y' ; A : 'a' | ;", 2, []string{".", "xa xy y"}},
		{"S : A 'x' A 'y' ; A : 'a' | ;", 3, []string{".", "xay xy y"}},
		{"S : A 'a' | A 'b' 'c' ; A : 'x' ;", 1, []string{".", "a b"}},
		{"S : A 'a' | A 'b' 'c' ; A : 'x' ;", 2, []string{".", "a bc"}},
		{"S : 'x' A ; A : A 'y' 'z' | ;", 1, []string{".", ". y"}},
		{"S : 'x' A ; A : A 'y' 'z' | ;", 2, []string{".", ". yz"}},
		{"S : 'x' A ; A : A 'y' 'z' | ;", 3, []string{".", ". yz yzy"}},
		{"S : A 'c' | 'd' A ; A : B B ; B : 'b' | ;", 1, []string{".", ". c", ". b c"}},
		{"S : A 'c' | 'd' A ; A : B B ; B : 'b' | ;", 2, []string{".", ". c", ". b bc c"}},
		{"S : 'a' A ; A : B ; B : C ; C : 'c' S 'd' | 'e' ;", 1, []string{". d", ". d", ". d", ". d"}},
		{"S : 'a' A ; A : B ; B : C ; C : 'c' S 'd' | 'e' ;", 2, []string{". d dd", ". d dd", ". d dd", ". d dd"}},
		{"E : T X ; X : '+' T X | ; T : 'n' | '(' E ')' ;", 1, []string{". )", ". )", ". ) +"}},
		{"E : T X ; X : '+' T X | ; T : 'n' | '(' E ')' ;", 2, []string{". ) )) )+", ". ) )) )+", ". ) )) )+ +n +("}},
	} {
		for _, g := range orders(read(t, c.text)) {
			var want [][]string
			for _, s := range c.want {
				want = append(want, set(g, s))
			}
			checkSets(t, g, c.k, want)
		}
	}
}

// Promises 21.1, 21.2 and 21.3: grammars compared with what derivations allow.

// checkAllowed expects the follow sets of a grammar, and what is behind the symbols of its rules, to be what derivations allow, or that it is rejected if it is not reduced.
func checkAllowed(t *testing.T, g api.Gram, most int) bool {
	t.Helper()
	if well.Check(g) != api.OK {
		for k := 1; k <= most; k++ {
			checkError(t, g, k, api.ErrArg)
		}
		return false
	}
	list := readers(g, most)
	for k := 1; k <= most; k++ {
		var want [][]string
		for n := range g.Names {
			want = append(want, allowed(list, k, n))
		}
		checkSets(t, g, k, want)
		begin, _ := first.Sets(g, k)
		for _, r := range g.Rules {
			for at := -1; at < len(r.Right); at++ {
				checkBehind(t, allowedBehind(list, k, r, at), begin, want, k, r, at)
			}
		}
	}
	return true
}

func TestEverySmallGrammar(t *testing.T) {
	count := 0
	check := func(g api.Gram, most int) {
		if checkAllowed(t, g, most) {
			count++
		}
	}
	for _, rules := range choices(0, 3, rights(1, 2)) {
		check(sized(1, 2, rules...), 3)
	}
	for _, one := range choices(0, 2, rights(2, 1)) {
		for _, two := range choices(1, 2, rights(2, 1)) {
			check(sized(2, 1, append(slices.Clone(two), one...)...), 4)
		}
	}
	if count < 2000 {
		t.Fatalf("%d grammars are reduced", count)
	}
}

func TestSetsByDerivations(t *testing.T) {
	random := rand.New(rand.NewSource(211))
	count := 0
	for range 3000 {
		if checkAllowed(t, someGram(random, 1+random.Intn(4), 1+random.Intn(2), 4), 4) {
			count++
		}
	}
	for range 2000 {
		if checkAllowed(t, someGram(random, 1+random.Intn(6), 3, 5), 3) {
			count++
		}
	}
	if count < 1000 {
		t.Fatalf("%d grammars are reduced", count)
	}
}

// The definition, for grammars that derive finitely many strings.
func TestSetsByAllForms(t *testing.T) {
	random := rand.New(rand.NewSource(212))
	count := 0
	for range 20000 {
		names, terms := 1+random.Intn(4), 1+random.Intn(3)
		g := sized(names, terms)
		for n := range names {
			for range 1 + random.Intn(3) {
				r := rule(n)
				for range random.Intn(4) {
					if later := names - n - 1; later > 0 && random.Intn(2) == 0 {
						r.Right = append(r.Right, n+1+random.Intn(later))
					} else {
						r.Right = append(r.Right, -1-random.Intn(terms))
					}
				}
				g.Rules = append(g.Rules, r)
			}
		}
		if well.Check(g) != api.OK {
			continue
		}
		all := forms(g, 200)
		if all == nil {
			continue
		}
		count++
		for k := 1; k <= 4; k++ {
			var want [][]string
			for n := range names {
				want = append(want, product(k, followers(all, n), []string{""}))
			}
			checkSets(t, g, k, want)
		}
	}
	if count < 1000 {
		t.Fatalf("%d grammars are reduced", count)
	}
}

// What follows comes to the last nonterminal of a chain from the first one, in several orders, and from there to the first one again.
func TestLongChains(t *testing.T) {
	random := rand.New(rand.NewSource(213))
	for _, names := range []int{2, 3, 64, 252} {
		down := make([]int, names)
		for n := range down {
			down[n] = n
		}
		up := append([]int{0}, down[1:]...)
		slices.Reverse(up[1:])
		mixed := append([]int{0}, down[1:]...)
		random.Shuffle(names-1, func(i, j int) { mixed[1+i], mixed[1+j] = mixed[1+j], mixed[1+i] })
		for _, chain := range [][]int{down, up, mixed} {
			g := sized(names, 4)
			for i, n := range chain[1:] {
				g.Rules = append(g.Rules, rule(chain[i], -1, n))
			}
			last := chain[names-1]
			g.Rules = append(g.Rules, rule(last, -2, 0, -3), rule(last, -4))
			for k := 1; k <= 4; k++ {
				want := []string{""}
				for n := 1; n <= k; n++ {
					want = append(want, strings.Repeat("\x02", n))
				}
				checkSets(t, g, k, slices.Repeat([][]string{want}, names))
			}
		}
	}
}

// Follow sets are the smallest ones that contain what is behind the nonterminals of rules, and the empty word for nonterminal 0.
func TestSetsAreThoseOfTheRules(t *testing.T) {
	random := rand.New(rand.NewSource(214))
	for range 1000 {
		g := someGram(random, 1+random.Intn(8), 1+random.Intn(6), 5)
		for k := 1; k <= 4; k++ {
			after, errno := follow.Sets(g, k)
			if errno != api.OK {
				continue
			}
			begin, _ := first.Sets(g, k)
			all := make([][]string, len(g.Names))
			all[0] = []string{""}
			for _, r := range g.Rules {
				for at, sym := range r.Right {
					part, ok := follow.Behind(begin, after, k, r, at)
					if !ok {
						t.Fatalf("nothing is behind index %d of %v of %v with %d", at, r, g, k)
					}
					if sym >= 0 {
						all[sym] = append(all[sym], part...)
					}
				}
			}
			for n := range all {
				checkWords(t, after[n], ordered(all[n]), "Sets for %d with %d of %v", n, k, g)
			}
		}
	}
}

// Promise 21.1: errors.

func TestGrammarsThatAreNotReduced(t *testing.T) {
	for _, s := range []string{
		"S : S ;", "S : 'a' S ;", "S : 'a' | A ; A : A 'b' ;", "S : A ; A : A 'a' ;", // unproductive
		"S : 'a' ; B : 'b' ;", "S : ; A : ;", "S : 'a' ; A : S ;", "S : 'a' ; A : A ;", // unreachable
	} {
		for k := -1; k <= 6; k++ {
			checkError(t, read(t, s), k, api.ErrArg)
		}
	}
	for _, g := range []api.Gram{
		sized(1, 1, rule(0)), sized(1, 2, rule(0, -1)), sized(2, 1, rule(0, -1), rule(1)), // unreachable
		{}, sized(0, 1), sized(1, 0), sized(1, 1, rule(0, -1), rule(0, -1)), sized(1, 1, rule(0, -1), rule(1)), // not valid
		sized(1, 1, rule(0, -2)), sized(1, 1, rule(0, 1)), sized(2, 1, rule(0, 1, -1)), sized(1, 1, rule(0, -1), rule(-1)),
		sized(1, 1, rule(0, math.MinInt)), sized(1, 1, rule(0, math.MaxInt)), sized(1, 1, rule(math.MinInt, -1)), sized(1, 1, rule(math.MaxInt, -1)),
		sized(1, 1, rule(0, slices.Repeat([]int{-1}, api.MaxRight+1)...)),
		{Names: []string{"S"}, Terms: []string{""}, Rules: []api.Rule{rule(0, -1)}},
		{Names: []string{"1"}, Terms: []string{"a"}, Rules: []api.Rule{rule(0, -1)}},
		{Names: []string{"S", "S"}, Terms: []string{"a"}, Rules: []api.Rule{rule(0, 1), rule(1, -1)}},
		{Names: []string{"S"}, Terms: []string{"a", "a"}, Rules: []api.Rule{rule(0, -1, -2)}},
	} {
		for k := -1; k <= 6; k++ {
			checkError(t, g, k, api.ErrArg)
		}
	}
}

func TestEachK(t *testing.T) {
	g := read(t, "S : 'a' S 'a' | ;")
	for k := 1; k <= 4; k++ {
		checkSets(t, g, k, [][]string{allWords(1, k)})
	}
	for _, k := range []int{math.MinInt, math.MinInt32, -256, -4, -1, 0, 5, 6, 8, 255, 256, 257, 1 << 32, 1<<32 + 1, math.MaxInt} {
		checkError(t, g, k, api.ErrArg)
	}
}

// ErrArg comes first.
func TestLargeSetsOfGrammarsThatAreNotReduced(t *testing.T) {
	for _, large := range []api.Gram{
		with(2, 65, copies(1, 0, 65), []api.Rule{rule(0, 1, 1)}),
		with(2, 65, copies(1, 0, 65), []api.Rule{rule(0, -1, -2, 1, 1)}),
		with(2, 65, copies(1, 0, 65), []api.Rule{rule(0, 0, 1, 1), rule(0)}),
	} {
		checkError(t, large, 2, api.ErrLimit)
		for _, k := range []int{0, 5, -1} {
			checkError(t, large, k, api.ErrArg)
		}
		checkError(t, with(2, 66, large.Rules), 2, api.ErrArg)
		checkError(t, with(3, 65, large.Rules, []api.Rule{rule(2)}), 2, api.ErrArg)
		checkError(t, with(3, 65, large.Rules, []api.Rule{rule(0, 2), rule(2, 2)}), 2, api.ErrArg)
	}
}

// Promise 21.1: intermediate sets of exactly MaxWords words, and of one more.

// The intermediate sets of layer 20 count.
func TestTheLargestFirstSets(t *testing.T) {
	for _, c := range []struct{ one, two, words int }{{64, 64, 64}, {32, 128, 128}, {64, 65, 0}, {17, 241, 0}} {
		pairs := slices.Concat(copies(1, 0, c.one), copies(2, 0, c.two))
		for _, g := range orders(with(3, max(c.one, c.two), pairs, []api.Rule{rule(0, 1, 2)})) {
			checkSize(t, g, 1, 1, c.two)
			for k := 2; k <= 4; k++ {
				checkSize(t, g, k, 1, c.words)
			}
		}
		// The right side begins with too many words, or pairs of it, but is one of few words with two terminals.
		pairs = slices.Concat(copies(1, 0, c.one), copies(2, 0, c.two-1), []api.Rule{rule(2)})
		for _, g := range orders(with(3, max(c.one, c.two-1), pairs, []api.Rule{rule(0, 1, 2, -1)})) {
			checkSize(t, g, 1, 1, c.two-1)
			for k := 2; k <= 4; k++ {
				checkSize(t, g, k, 1, c.words)
			}
		}
	}
}

func TestTheLargestFollowSet(t *testing.T) {
	halves := [][]api.Rule{copies(2, 0, 64), copies(3, 0, 32), copies(4, 32, 64), {rule(1, -65), rule(0, -65, -65, -65, 1, 2, 3), rule(0, -66, -66, -66, 1, 2, 4)}}
	check := func(heads, words int, more ...api.Rule) {
		t.Helper()
		for _, g := range orders(with(5, 66, append(halves, more)...)) {
			checkSize(t, g, 1, 1, heads)
			for k := 2; k <= 4; k++ {
				checkSize(t, g, k, 1, words)
			}
		}
	}
	check(64, api.MaxWords)
	// Words that follow already do not count.
	check(64, api.MaxWords, rule(0, -64, -64, -64, 1, 2, 3), rule(0, -63, -63, -63, 1, -1, -2))
	// One more follows, and one more.
	check(64, 0, rule(0, -64, -64, -64, 1, -1))
	check(65, 0, rule(0, -64, -64, -64, 1, -65, -65))
	check(65, 0, rule(0, -64, -64, -64, 1))
	check(66, 0, rule(0, -64, -64, -64, 1), rule(0, -63, -63, -63, 1, -65, -65))
}

func TestTheLargestFollowSetOfTheStart(t *testing.T) {
	for last, words := range map[int]int{63: api.MaxWords, 64: 0} {
		pairs := [][]api.Rule{copies(2, 0, 64), copies(3, 0, 32), copies(4, 0, 64), copies(5, 32, 63), copies(6, 0, last), copies(7, 63, 64)}
		more := []api.Rule{rule(0, 0, 1), rule(0, -1), rule(1, 2, 3), rule(1, 4, 5), rule(1, 6, 7)}
		for _, g := range orders(with(8, 64, append(pairs, more)...)) {
			checkSize(t, g, 1, 0, 65)
			checkSize(t, g, 2, 0, words)
			checkSize(t, g, 3, 0, 0)
			checkSize(t, g, 4, 0, 0)
		}
	}
}

// The first sets of what stands behind a symbol count up to any position, although those up to the end are smaller: behind the first symbol, others, terminals and nonterminals.
func TestTheLargestFirstSetBehindASymbol(t *testing.T) {
	for _, front := range [][]int{{-1}, {-1, -1}, {-1, -1, -1, -1, -1}, {3}, {3, 3}, {-1, 3, -1}} {
		for _, c := range []struct{ one, two, words int }{{64, 63, 64}, {32, 127, 128}, {17, 239, 240}, {17, 240, 0}, {241, 16, 0}} {
			pairs := slices.Concat(copies(1, 0, c.one), copies(2, 0, c.two), []api.Rule{rule(2), rule(3, -1, -1, -1, -1)})
			right := slices.Concat(front, []int{1, 2, -1})
			for _, g := range orders(with(4, max(c.one, c.two), pairs, []api.Rule{rule(0, right...), rule(0, 3)})) {
				checkSize(t, g, 1, 1, c.two)
				checkSize(t, g, 2, 1, c.words)
			}
		}
	}
}

// The products of first sets with follow sets count, also behind terminals.
func TestTheLargestProductWithAFollowSet(t *testing.T) {
	for _, front := range [][]int{{-1}, {-1, -2}, {4}, {4, -1}, {-1, -2, -3, -4}} {
		for _, c := range []struct{ one, two, words int }{{64, 64, 64}, {32, 128, 128}, {17, 240, 240}, {17, 241, 0}, {241, 17, 0}} {
			pairs := slices.Concat(copies(2, 0, c.one), copies(3, 0, c.two), []api.Rule{rule(4, -1, -1, -1), rule(0, 4, -1, -1)})
			for _, g := range orders(with(5, max(c.one, c.two), pairs, []api.Rule{rule(0, -1, -1, 1, 3), rule(1, append(front, 2)...)})) {
				checkSize(t, g, 1, 1, c.two)
				checkSize(t, g, 2, 1, c.words)
			}
		}
	}
}

// Whole right sides stand behind no symbol, so their products with follow sets do not count.
func TestWholeRightSidesCanBeLarger(t *testing.T) {
	g := with(7, 67, copies(2, 0, 64), copies(3, 0, 33), copies(4, 33, 65), []api.Rule{
		rule(0, -66, -66, 5), rule(0, -67, -67, 6), rule(5, 1, 3), rule(6, 1, 4), rule(1, 2),
	})
	for _, h := range orders(g) {
		for k := 1; k <= 3; k++ {
			checkSize(t, h, k, 1, 65)
			checkSize(t, h, k, 2, 65)
			begin, _ := first.Sets(h, k)
			after, _ := follow.Sets(h, k)
			if k == 1 {
				checkBehind(t, letters(0, 64), begin, after, k, rule(1, 2), -1)
			} else {
				checkNone(t, begin, after, k, rule(1, 2), -1)
			}
			checkBehind(t, letters(0, 65), begin, after, k, rule(1, 2), 0)
		}
	}
}

// Promise 21.1: the largest grammars.

func TestTheMostRules(t *testing.T) {
	g := sized(1, 64, rule(0))
	for i := range api.MaxRules - 1 {
		r := rule(0, -1-i%64)
		for at := range api.MaxRight - 3 {
			r.Right = append(r.Right, -1-i/64*(at/32))
		}
		g.Rules = append(g.Rules, rule(0, append(r.Right, 0, -1-i%7)...))
	}
	for k := 1; k <= 4; k++ {
		checkSets(t, g, k, [][]string{ordered(allWords(7, k))})
	}
}

func TestTheMostSymbols(t *testing.T) {
	empty := with(256, 0, []api.Rule{rule(255)})
	for n := range 255 {
		empty.Rules = append(empty.Rules, rule(n, slices.Repeat([]int{n + 1}, 64)...))
	}
	for _, g := range orders(empty) {
		for k := 1; k <= 4; k++ {
			checkSets(t, g, k, slices.Repeat([][]string{{""}}, 256))
		}
	}
	terms := with(1, 255, []api.Rule{rule(0)})
	for n := range 255 {
		terms.Rules = append(terms.Rules, rule(0, 0, -1-n))
	}
	for _, g := range orders(terms) {
		checkSets(t, g, 1, [][]string{allWords(255, 1)})
		checkError(t, g, 2, api.ErrLimit)
	}
}

// In long right sides that can be empty, everything follows everything.
func TestLongRightSidesThatCanBeEmpty(t *testing.T) {
	random := rand.New(rand.NewSource(215))
	g := sized(60, 7)
	for n := range g.Names {
		g.Rules = append(g.Rules, rule(n), rule(n, -1-n%7))
		for range 3 {
			r := rule(n, (n+1)%60)
			for range api.MaxRight - 1 {
				r.Right = append(r.Right, random.Intn(60))
			}
			g.Rules = append(g.Rules, r)
		}
	}
	for k := 1; k <= 4; k++ {
		checkSets(t, g, k, slices.Repeat([][]string{ordered(allWords(7, k))}, 60))
	}
}

// Promise 21.2: rules written out.

// letter is the terminal whose number is that of a letter.
func letter(c byte) int { return -1 - int(c) }

func TestBehindWrittenOut(t *testing.T) {
	begin := [][]string{{"", "a", "ab"}, {"b"}, {""}, nil}
	after := [][]string{{"", "x"}, {"y"}, {"xy", "z"}, nil}
	for _, c := range []struct {
		k    int
		r    api.Rule
		at   int
		want string
	}{
		{1, rule(0), -1, ". x"},
		{4, rule(0), -1, ". x"},
		{2, rule(1), -1, "y"},
		{1, rule(2), -1, "x z"},
		{2, rule(2), -1, "xy z"},
		{1, rule(0, 0), -1, ". a x"},
		{2, rule(0, 0), -1, ". a ab ax x"},
		{3, rule(0, 0), -1, ". a ab abx ax x"},
		{1, rule(0, 0), 0, ". x"},
		{1, rule(1, 0, 1), -1, "a b"},
		{2, rule(1, 0, 1), -1, "ab by"},
		{3, rule(1, 0, 1), -1, "abb aby by"},
		{4, rule(1, 0, 1), -1, "abby aby by"},
		{1, rule(1, 0, 1), 0, "b"},
		{2, rule(1, 0, 1), 0, "by"},
		{4, rule(1, 0, 1), 0, "by"},
		{1, rule(1, 0, 1), 1, "y"},
		{2, rule(1, 0, 1), 1, "y"},
		{2, rule(2, letter('a'), 2, letter('b')), -1, "ab"},
		{3, rule(2, letter('a'), 2, letter('b')), -1, "abx abz"},
		{4, rule(2, letter('a'), 2, letter('b')), -1, "abxy abz"},
		{3, rule(2, letter('a'), 2, letter('b')), 0, "bxy bz"},
		{3, rule(2, letter('a'), 2, letter('b')), 1, "bxy bz"},
		{3, rule(2, letter('a'), 2, letter('b')), 2, "xy z"},
		{1, rule(2, letter('a'), 2, letter('b')), 2, "x z"},
		{2, rule(0, letter('c'), 0), 0, ". a ab ax x"},
		{2, rule(0, letter('c'), 0), 1, ". x"},
		{2, rule(3), -1, ""},
		{2, rule(3, -1), 0, ""},
		{2, rule(3, -1, -1, -1), -1, ""},
		{2, rule(0, 3), -1, ""},
		{2, rule(0, 3), 0, ". x"},
		{1, rule(0, -1, 3), -1, ""},
		{0, rule(0, -1, 1), -1, "."},
		{-1, rule(0, -1, 1), 0, "."},
	} {
		var want []string
		for _, w := range strings.Fields(c.want) {
			want = append(want, strings.Trim(w, "."))
		}
		checkBehind(t, want, begin, after, c.k, c.r, c.at)
	}
}

func TestBehindByTheDefinition(t *testing.T) {
	random := rand.New(rand.NewSource(216))
	for range 1500 {
		var begin, after [][]string
		for range 1 + random.Intn(4) {
			begin, after = append(begin, someSet(random, 3, 4)), append(after, someSet(random, 3, 4))
		}
		r := rule(random.Intn(len(after)), someSyms(random, len(begin), 256, random.Intn(5))...)
		for k := -1; k <= 6; k++ {
			for at := -1; at < len(r.Right); at++ {
				want := product(k, folded(begin, k, r.Right[at+1:]...), after[r.Left])
				checkBehind(t, want, begin, after, k, r, at)
			}
		}
	}
}

// Right sides that are longer than those of grammars have the same behind their symbols.
func TestLongRightSides(t *testing.T) {
	begin, after := [][]string{{"", "a"}, {"b"}}, [][]string{{"", "x"}}
	for _, n := range []int{63, 64, 65, 1000, 100000} {
		nullable := rule(0, slices.Repeat([]int{0}, n)...)
		checkBehind(t, []string{"", "x"}, begin, after, 2, nullable, n-1)
		checkBehind(t, []string{"", "a", "ax", "x"}, begin, after, 2, nullable, n-2)
		checkBehind(t, []string{"", "a", "aa", "ax", "x"}, begin, after, 2, nullable, -1)
		checkBehind(t, []string{"bx", "b"}[1:], begin, [][]string{{""}}, 2, rule(0, slices.Repeat([]int{1}, n)...), n-2)
		checkBehind(t, []string{"bb"}, begin, after, 2, rule(0, slices.Repeat([]int{1}, n)...), 0)
		checkNone(t, begin, after, 2, nullable, n)
	}
}

// Promise 21.2: what is rejected.

func TestPlacesThatDoNotExist(t *testing.T) {
	begin, after := [][]string{{"", "a"}, {"b"}}, [][]string{{"", "x"}, {"y"}}
	for _, n := range []int{0, 1, 2, 3, 63, 64, 65} {
		r := rule(1, slices.Repeat([]int{0}, n)...)
		for at := -1; at < n; at++ {
			if _, ok := follow.Behind(begin, after, 2, r, at); !ok {
				t.Fatalf("index %d of %d does not exist", at, n)
			}
		}
		for _, at := range []int{math.MinInt, math.MinInt + 1, math.MinInt32, -65536, -256, -65, -3, -2, n, n + 1, n + 2, 256, 65535, 1 << 31, 1 << 32, math.MaxInt - 1, math.MaxInt} {
			for _, k := range allKs() {
				checkNone(t, begin, after, k, r, max(at, math.MinInt))
				// What stands behind the right side in memory is not a part of it.
				checkNone(t, begin, after, k, api.Rule{Left: 1, Right: append(r.Right, 0, 0, 0)[:n]}, at)
			}
		}
	}
}

func TestLeftSidesWithoutFollowSet(t *testing.T) {
	for _, begin := range [][][]string{nil, {{""}}, {{"a"}, {"b"}, {"c"}, {"d"}}} {
		for _, after := range [][][]string{nil, {}, {{""}}, {nil}, {{"x"}, {"y"}}} {
			for left := range after {
				checkBehind(t, after[left], begin, after, 1, rule(left), -1)
				checkBehind(t, after[left], begin, after, 1, rule(left, 0), 0)
			}
			for _, left := range []int{math.MinInt, math.MinInt32, -256, -2, -1, len(after), len(after) + 1, 255, 256, 1 << 32, math.MaxInt} {
				for _, k := range allKs() {
					checkNone(t, begin, after, k, rule(left), -1)
					checkNone(t, begin, after, k, rule(left, -1), -1)
					checkNone(t, begin, after, k, rule(left, -1), 0)
				}
			}
		}
	}
}

// Only what stands behind the symbol needs a first set.
func TestTailsWithoutFirstSet(t *testing.T) {
	after := [][]string{{"x"}}
	for _, begin := range [][][]string{nil, {{""}}, {{"", "a"}, {"b"}}, {nil, nil}} {
		for _, sym := range noSymbols(len(begin)) {
			for _, k := range allKs() {
				checkNone(t, begin, after, k, rule(0, sym), -1)
				checkNone(t, begin, after, k, rule(0, -1, sym), -1)
				checkNone(t, begin, after, k, rule(0, -1, sym), 0)
				checkNone(t, begin, after, k, rule(0, sym, sym), 0)
				checkNone(t, begin, after, k, rule(0, -1, -1, -1, -1, -1, sym), 0)
				checkBehind(t, product(k, after[0], []string{""}), begin, after, k, rule(0, sym), 0)
				checkBehind(t, product(k, after[0], []string{""}), begin, after, k, rule(0, -1, sym), 1)
				checkBehind(t, product(k, []string{"\x04"}, after[0]), begin, after, k, rule(0, sym, sym, -5), 1)
			}
		}
	}
}

// numbers are words of two terminals for the numbers from one to another.
func numbers(from, to int) []string {
	var list []string
	for n := from; n < to; n++ {
		list = append(list, string([]byte{byte(n / 256), byte(n)}))
	}
	return list
}

// Promise 21.2: products of exactly MaxWords words, and of one more.
func TestTheLargestProductBehind(t *testing.T) {
	begin := [][]string{letters(0, 64), letters(0, 17), append([]string{""}, letters(0, 64)...), numbers(0, api.MaxWords), numbers(0, api.MaxWords+1)}
	after := [][]string{letters(0, 64), letters(0, 241), {""}, {"z"}, numbers(0, api.MaxWords), numbers(0, api.MaxWords+1)}
	for _, k := range []int{2, 3, 4, 5, math.MaxInt} {
		checkBehind(t, product(2, begin[0], after[0]), begin, after, k, rule(0, 0), -1)
		checkBehind(t, product(2, begin[0], after[0]), begin, after, k, rule(0, 4, 0), 0)
		checkNone(t, begin, after, k, rule(1, 1), -1)
		checkNone(t, begin, after, k, rule(1, 4, 1), 0)
		checkBehind(t, after[1], begin, after, k, rule(1, 4, 1), 1)
		checkBehind(t, begin[3], begin, after, k, rule(2, 3), -1)
		checkNone(t, begin, after, k, rule(2, 4), -1)
		checkBehind(t, []string{""}, begin, after, k, rule(2, 4), 0)
		checkBehind(t, after[4], begin, after, k, rule(4), -1)
		checkBehind(t, after[4], begin, after, k, rule(4, 4), 0)
		checkNone(t, begin, after, k, rule(5), -1)
		checkNone(t, begin, after, k, rule(5, 4), 0)
	}
	// The first set is too large, although few words would be left of it.
	checkNone(t, begin, after, 2, rule(0, 0, 2, -1), -1)
	checkNone(t, begin, after, 2, rule(3, 0, 2), -1)
	checkNone(t, begin, after, 2, rule(3, -1, 0, 2), 0)
	checkBehind(t, product(2, []string{"\x00"}, begin[0]), begin, after, 2, rule(3, -1, 0, 2), -1)
	// Cut to one terminal, or with terminals in front, the words of large sets are few.
	checkBehind(t, letters(0, 17), begin, after, 1, rule(5), -1)
	checkBehind(t, product(2, []string{"\x00"}, letters(0, 17)), begin, after, 2, rule(5, -1), -1)
	checkBehind(t, []string{""}, begin, after, 0, rule(5, -1), -1)
	// What stands elsewhere does not count.
	checkBehind(t, []string{"z"}, begin, after, 2, rule(3, 4, 4), 1)
}

// The rules R1, R3, R4 and R6 for promises 21.1 and 21.2.

// Lists that are no sets give no panic, and every call returns.
func TestListsThatAreNoSets(t *testing.T) {
	random := rand.New(rand.NewSource(217))
	for range 1000 {
		sets := [][]string{{"b", "a"}, {"", ""}, slices.Repeat([]string{"a", ""}, random.Intn(5000)), someSet(random, 5, 5)}
		random.Shuffle(len(sets[3]), func(i, j int) { sets[3][i], sets[3][j] = sets[3][j], sets[3][i] })
		for _, k := range allKs() {
			r := rule(random.Intn(4), someSyms(random, len(sets), 256, random.Intn(4))...)
			follow.Behind(sets, sets, k, r, random.Intn(len(r.Right)+1)-1)
		}
	}
}

func TestArgumentsAreNotChanged(t *testing.T) {
	g := read(t, "S : A B 'c' ; A : 'a' A | ; B : 'b' | 'd' S ;")
	g.Names, g.Terms, g.Rules = spare(g.Names, "Spare"), spare(g.Terms, "spare"), spare(g.Rules, rule(7, 7))
	for i, r := range g.Rules {
		g.Rules[i].Right = spare(r.Right, 99)
	}
	copied := api.Gram{Names: slices.Clone(g.Names[:4]), Terms: slices.Clone(g.Terms[:5])}
	for _, r := range g.Rules {
		copied.Rules = append(copied.Rules, rule(r.Left, slices.Clone(r.Right[:len(r.Right)+1])...))
	}
	for k := 0; k <= 5; k++ {
		follow.Sets(g, k)
	}
	if !slices.Equal(g.Names[:4], copied.Names) || !slices.Equal(g.Terms[:5], copied.Terms) || g.Rules[:6][5].Left != 7 {
		t.Fatalf("the grammar became %v", g)
	}
	for i, r := range g.Rules {
		if r.Left != copied.Rules[i].Left || !slices.Equal(r.Right[:len(r.Right)+1], copied.Rules[i].Right) {
			t.Fatalf("rule %d became %v", i, r)
		}
	}
	begin := spare([][]string{spare([]string{"", "a", "ab"}, "x"), spare([]string{"b", "ba"}, "y")}, []string{"spare"})
	after := spare([][]string{spare([]string{"", "c", "cd"}, "v"), spare([]string{"e", "ef"}, "w")}, []string{"other"})
	r := rule(1, spare([]int{0, -1, 1, 0}, 77)...)
	for k := -1; k <= 6; k++ {
		for at := -2; at <= 5; at++ {
			follow.Behind(begin, after, k, r, at)
			follow.Behind(begin, after, k, rule(0, r.Right[:2]...), at)
		}
	}
	if !slices.Equal(begin[0][:4], []string{"", "a", "ab", "x"}) || !slices.Equal(begin[1][:3], []string{"b", "ba", "y"}) ||
		!slices.Equal(after[0][:4], []string{"", "c", "cd", "v"}) || !slices.Equal(after[1][:3], []string{"e", "ef", "w"}) ||
		!slices.Equal(begin[:3][2], []string{"spare"}) || !slices.Equal(after[:3][2], []string{"other"}) || !slices.Equal(r.Right[:5], []int{0, -1, 1, 0, 77}) {
		t.Fatalf("the arguments became %q, %q and %v", begin, after, r)
	}
}

// Neither a changed result nor a changed argument is seen elsewhere.
func TestResultsAreNewMemory(t *testing.T) {
	g := read(t, "S : 'a' A ; A : B 'b' | B ; B : C ; C : 'c' S 'd' | 'e' ;")
	one, _ := follow.Sets(g, 2)
	two, _ := follow.Sets(g, 2)
	want := [][]string{set(g, ". b bd d db dd"), set(g, ". b bd d db dd"), nil, nil}
	for n := range want {
		want[n] = slices.Clone(two[n])
	}
	for n := range want {
		scribble(one[n])
		for other := range want {
			checkWords(t, two[other], want[other], "Sets, again")
			if other > n {
				checkWords(t, one[other], want[other], "another one of the sets")
			}
		}
	}
	checkSets(t, g, 2, want)
	for _, right := range [][]int{nil, {0}, {1}, {1, 2}, {2, 1}, {-1}, {-1, 2}, {1, -1}, {2, 0, 2}, {0, 0}} {
		for at := -1; at < len(right); at++ {
			for left := range 3 {
				begin, after := [][]string{{"", "a", "aa"}, {"b", "bb"}, {""}}, [][]string{{"", "c"}, {"dd"}, {""}}
				want := product(2, folded(begin, 2, right[at+1:]...), after[left])
				one, _ := follow.Behind(begin, after, 2, rule(left, right...), at)
				two, _ := follow.Behind(begin, after, 2, rule(left, right...), at)
				scribble(one)
				checkWords(t, two, want, "Behind, again")
				for n, l := range [][]string{{"", "a", "aa"}, {"b", "bb"}, {""}} {
					checkWords(t, begin[n], l, "the first sets")
				}
				for n, l := range [][]string{{"", "c"}, {"dd"}, {""}} {
					checkWords(t, after[n], l, "the follow sets")
				}
				scribble(begin...)
				scribble(after...)
				checkWords(t, two, want, "Behind with changed arguments")
			}
		}
	}
}

func TestResultsAreTheSameEachTime(t *testing.T) {
	g := read(t, "E : T F ; F : '+' T F | ; T : U V ; V : '*' U V | ; U : '(' E ')' | 'n' ;")
	for k := 1; k <= 4; k++ {
		begin, _ := first.Sets(g, k)
		want, _ := follow.Sets(g, k)
		behind, _ := follow.Behind(begin, want, k, g.Rules[1], 1)
		for range 20 {
			checkSets(t, g, k, want)
			checkBehind(t, behind, begin, want, k, g.Rules[1], 1)
		}
	}
}
