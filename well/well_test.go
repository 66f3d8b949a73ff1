package well_test

import (
	"fmt"
	"math"
	"math/rand"
	"slices"
	"strings"
	"testing"

	"repertory/api"
	"repertory/gram"
	"repertory/parse"
	"repertory/well"
)

// facts are what the functions tell of a valid grammar.
type facts struct {
	shortest []int
	reached  []bool
	errno    api.Errno
}

func rule(left int, right ...int) api.Rule { return api.Rule{Left: left, Right: right} }

// of is a grammar; its names and terminals are the words of two texts.
func of(names, terms string, rules ...api.Rule) api.Gram {
	return api.Gram{Names: strings.Fields(names), Terms: strings.Fields(terms), Rules: rules}
}

// read is the grammar of a text.
func read(t *testing.T, s string) api.Gram {
	t.Helper()
	l, _, errno := parse.All(s)
	if errno != api.OK {
		t.Fatalf("%q is no grammar text", s)
	}
	g, errno := gram.Resolve(l...)
	if errno != api.OK {
		t.Fatalf("%q gives no grammar: %d", s, errno)
	}
	return g
}

// numbered are different texts.
func numbered(prefix string, n int) []string {
	var list []string
	for i := range n {
		list = append(list, fmt.Sprint(prefix, i))
	}
	return list
}

// sized is a grammar with this many names and terminals.
func sized(names, terms int, rules ...api.Rule) api.Gram {
	return api.Gram{Names: numbered("N", names), Terms: numbered("t", terms), Rules: rules}
}

// orders are the same grammar with its rules in several orders.
func orders(g api.Gram) []api.Gram {
	back := slices.Clone(g.Rules)
	slices.Reverse(back)
	mixed := slices.Clone(g.Rules)
	rand.New(rand.NewSource(15)).Shuffle(len(mixed), func(i, j int) { mixed[i], mixed[j] = mixed[j], mixed[i] })
	list := []api.Gram{g}
	for _, rules := range [][]api.Rule{back, mixed} {
		list = append(list, api.Gram{Names: g.Names, Terms: g.Terms, Rules: rules})
	}
	return list
}

// bits are bools, written as digits.
func bits(s string) []bool {
	var list []bool
	for _, c := range s {
		list = append(list, c == '1')
	}
	return list
}

// checkFacts expects all functions to tell the facts of g.
func checkFacts(t *testing.T, g api.Gram, want facts) {
	t.Helper()
	var productive []bool
	for _, n := range want.shortest {
		productive = append(productive, n >= 0)
	}
	if got := well.Shortest(g); !slices.Equal(got, want.shortest) {
		t.Fatalf("Shortest of %.300v is %v, not %v", g, got, want.shortest)
	}
	if got := well.Productive(g); !slices.Equal(got, productive) {
		t.Fatalf("Productive of %.300v is %v, not %v", g, got, productive)
	}
	if got := well.Reached(g); !slices.Equal(got, want.reached) {
		t.Fatalf("Reached of %.300v is %v, not %v", g, got, want.reached)
	}
	if got := well.Check(g); got != want.errno {
		t.Fatalf("Check of %.300v is %d, not %d", g, got, want.errno)
	}
}

// checkInvalid expects all functions to reject g.
func checkInvalid(t *testing.T, g api.Gram) {
	t.Helper()
	if well.Shortest(g) != nil || well.Productive(g) != nil || well.Reached(g) != nil || well.Check(g) != api.ErrArg {
		t.Fatalf("%.300v: %v, %v, %v, %d", g, well.Shortest(g), well.Productive(g), well.Reached(g), well.Check(g))
	}
}

// errnoOf is what Check returns for a valid grammar of which this is known.
func errnoOf(shortest []int, names, terms []bool) api.Errno {
	if slices.Contains(shortest, -1) {
		return api.ErrEmpty
	}
	if slices.Contains(names, false) || slices.Contains(terms, false) {
		return api.ErrUnreached
	}
	return api.OK
}

// Promises 15.1 and 15.2: grammars written out.

func TestTextsWrittenOut(t *testing.T) {
	for s, want := range map[string]facts{
		"S : ;":                                           {[]int{0}, bits("1"), api.OK},
		"S : 'a' ;":                                       {[]int{1}, bits("1"), api.OK},
		"S : 'a' S | ;":                                   {[]int{0}, bits("1"), api.OK},
		"S : 'a' S | 'b' ;":                               {[]int{1}, bits("1"), api.OK},
		"S : 'a' 'a' 'a' | 'b' 'b' | S S ;":               {[]int{2}, bits("1"), api.OK},
		"S : S ;":                                         {[]int{-1}, bits("1"), api.ErrEmpty},
		"S : 'a' S | S 'b' S | S ;":                       {[]int{-1}, bits("1"), api.ErrEmpty},
		"S : A ; A : A 'a' ;":                             {[]int{-1, -1}, bits("11"), api.ErrEmpty},
		"S : 'a' | A ; A : A 'b' ;":                       {[]int{1, -1}, bits("11"), api.ErrEmpty},
		"S : A B ; A : 'a' ; B : A B ;":                   {[]int{-1, 1, -1}, bits("111"), api.ErrEmpty},
		"S : 'a' | A B ; A : A ; B : 'b' ;":               {[]int{1, -1, 1}, bits("111"), api.ErrEmpty},
		"S : A | ; A : B ; B : A ;":                       {[]int{0, -1, -1}, bits("111"), api.ErrEmpty},
		"S : 'a' ; B : 'b' ;":                             {[]int{1, 1}, bits("10"), api.ErrUnreached},
		"S : ; A : ;":                                     {[]int{0, 0}, bits("10"), api.ErrUnreached},
		"S : 'a' ; A : S ;":                               {[]int{1, 1}, bits("10"), api.ErrUnreached},
		"S : 'a' ; A : B S ; B : A | 'a' 'a' ;":           {[]int{1, 3, 2}, bits("100"), api.ErrUnreached},
		"S : B ; A : S B ; B : ;":                         {[]int{0, 0, 0}, bits("101"), api.ErrUnreached},
		"S : 'a' ; A : A ;":                               {[]int{1, -1}, bits("10"), api.ErrEmpty},
		"S : S ; A : 'a' ;":                               {[]int{-1, 1}, bits("10"), api.ErrEmpty},
		"S : A ; A : 'a' B ; B : | B 'c' ;":               {[]int{1, 1, 0}, bits("111"), api.OK},
		"S : C B A ; A : B 'x' ; B : C 'y' ; C : ;":       {[]int{3, 2, 1, 0}, bits("1111"), api.OK},
		"S : A A 'x' | B ; A : 'a' 'b' | B ; B : B 'c' ;": {[]int{5, 2, -1}, bits("111"), api.ErrEmpty},
		"S : 'a' S 'b' | A 'c' ; A : 'a' A | B B ; B : 'b' | 'c' 'c' ;":             {[]int{3, 2, 1}, bits("111"), api.OK},
		"E : T F ; F : '+' T F | ; T : U V ; V : '*' U V | ; U : '(' E ')' | 'n' ;": {[]int{1, 0, 1, 0, 1}, bits("11111"), api.OK},
		"S : '(' T ')' ; T : '[' U ']' ; U : S | T | 'x' 'y' ;":                     {[]int{6, 4, 2}, bits("111"), api.OK},
	} {
		for _, g := range orders(read(t, s)) {
			checkFacts(t, g, want)
		}
	}
}

// Each terminal has to be reachable, but only Check tells; nonterminals that are not reachable do not make it so.
func TestTerminalsThatAreNotReachable(t *testing.T) {
	for _, c := range []struct {
		g    api.Gram
		want facts
	}{
		{of("S", "a", rule(0)), facts{[]int{0}, bits("1"), api.ErrUnreached}},
		{of("S", "a", rule(0, -1)), facts{[]int{1}, bits("1"), api.OK}},
		{of("S", "a b", rule(0, -1)), facts{[]int{1}, bits("1"), api.ErrUnreached}},
		{of("S", "a b", rule(0, -2)), facts{[]int{1}, bits("1"), api.ErrUnreached}},
		{of("S", "a b", rule(0, -2, -1)), facts{[]int{2}, bits("1"), api.OK}},
		{of("S", "a b c", rule(0, -1, 0, -3), rule(0)), facts{[]int{0}, bits("1"), api.ErrUnreached}},
		{of("S", "a b c", rule(0, -1, 0, -3), rule(0), rule(0, 0, -2)), facts{[]int{0}, bits("1"), api.OK}},
		{of("S A", "a", rule(0), rule(1, -1)), facts{[]int{0, 1}, bits("10"), api.ErrUnreached}},
		{of("S A", "a", rule(0, 1), rule(1)), facts{[]int{0, 0}, bits("11"), api.ErrUnreached}},
		{of("S A", "a", rule(0, 1), rule(1, -1)), facts{[]int{1, 1}, bits("11"), api.OK}},
		{of("S A", "a b", rule(1, -2), rule(0, 1), rule(0, -1)), facts{[]int{1, 1}, bits("11"), api.OK}},
		{of("S A B", "a b", rule(2, -2), rule(1, 2), rule(0, 1, -1)), facts{[]int{2, 1, 1}, bits("111"), api.OK}},
		{of("S A B", "a b", rule(2, -2), rule(1, 1), rule(1), rule(0, 1, -1)), facts{[]int{1, 0, 1}, bits("110"), api.ErrUnreached}},
		{of("S", "a b", rule(0, 0, -1)), facts{[]int{-1}, bits("1"), api.ErrEmpty}},
		{of("S", "a b", rule(0, 0, -1), rule(0, 0, -2)), facts{[]int{-1}, bits("1"), api.ErrEmpty}},
	} {
		for _, g := range orders(c.g) {
			checkFacts(t, g, c.want)
		}
	}
}

// Promises 15.1 and 15.2: grammars compared with the definitions.

// derived are the strings of at most limit symbols (as texts, a byte each) that a nonterminal derives through such strings.
func derived(g api.Gram, n, limit int) []string {
	list := []string{string([]byte{byte(n)})}
	known := map[string]bool{list[0]: true}
	for i := 0; i < len(list); i++ {
		for at := range len(list[i]) {
			for _, r := range g.Rules {
				if int(list[i][at]) != r.Left || len(list[i])-1+len(r.Right) > limit {
					continue
				}
				s := []byte(list[i][:at])
				for _, sym := range r.Right {
					s = append(s, byte(sym))
				}
				if next := string(s) + list[i][at+1:]; !known[next] {
					known[next] = true
					list = append(list, next)
				}
			}
		}
	}
	return list
}

// factsByStrings are the facts by the definition, for grammars for which the strings of at most limit symbols show them.
func factsByStrings(g api.Gram, limit int) facts {
	var f facts
	for n := range g.Names {
		length := -1
		for _, s := range derived(g, n, limit) {
			if !strings.ContainsFunc(s, func(c rune) bool { return int(c) < len(g.Names) }) && (length < 0 || len(s) < length) {
				length = len(s)
			}
		}
		f.shortest = append(f.shortest, length)
	}
	all := strings.Join(derived(g, 0, limit), "")
	var terms []bool
	for n := range g.Names {
		f.reached = append(f.reached, strings.IndexByte(all, byte(n)) >= 0)
	}
	for term := range g.Terms {
		terms = append(terms, strings.IndexByte(all, byte(-1-term)) >= 0)
	}
	f.errno = errnoOf(f.shortest, f.reached, terms)
	return f
}

// rights are all right sides of at most two symbols, of this many nonterminals and the terminal -1.
func rights(names int) [][]int {
	list := [][]int{nil}
	for a := -1; a < names; a++ {
		list = append(list, []int{a})
		for b := -1; b < names; b++ {
			list = append(list, []int{a, b})
		}
	}
	return list
}

// rulesOf are all lists of one rule, or of two different ones, with the same left side.
func rulesOf(left, names int) [][]api.Rule {
	var list [][]api.Rule
	all := rights(names)
	for i, right := range all {
		list = append(list, []api.Rule{rule(left, right...)})
		for _, other := range all[:i] {
			list = append(list, []api.Rule{rule(left, right...), rule(left, other...)})
		}
	}
	return list
}

func TestEverySmallGrammar(t *testing.T) {
	count := map[api.Errno]int{}
	for _, first := range rulesOf(0, 1) {
		g := of("S", "a", first...)
		checkFacts(t, g, factsByStrings(g, 4))
	}
	for _, first := range rulesOf(0, 2) {
		for _, second := range rulesOf(1, 2) {
			// Two nonterminals derive shortest strings of at most 4 symbols.
			g := of("S A", "a", slices.Concat(second, first)...)
			want := factsByStrings(g, 4)
			checkFacts(t, g, want)
			count[want.errno]++
		}
	}
	if count[api.OK] < 2000 || count[api.ErrEmpty] < 2000 || count[api.ErrUnreached] < 500 || len(count) != 3 {
		t.Fatal(count)
	}
}

func TestSmallGrammarsOfThreeNonterminals(t *testing.T) {
	random := rand.New(rand.NewSource(151))
	all := rights(3)
	for range 3000 {
		g := of("S A B", "a")
		for n := range 3 {
			for _, i := range random.Perm(len(all))[:1+random.Intn(2)] {
				g.Rules = append(g.Rules, rule(n, all[i]...))
			}
		}
		random.Shuffle(len(g.Rules), func(i, j int) { g.Rules[i], g.Rules[j] = g.Rules[j], g.Rules[i] })
		if slices.Max(byHeights(g)) > 5 {
			continue // Longer strings than the model has.
		}
		checkFacts(t, g, factsByStrings(g, 6))
	}
}

// byHeights are the lengths of the shortest strings, found in the derivation trees that are not higher than the grammar has nonterminals, level by level.
func byHeights(g api.Gram) []int {
	const endless = 2000000
	list := slices.Repeat([]int{endless}, len(g.Names))
	for range g.Names {
		next := slices.Repeat([]int{endless}, len(g.Names))
		for _, r := range g.Rules {
			sum := 0
			for _, sym := range r.Right {
				if sym < 0 {
					sum++
				} else {
					sum += list[sym]
					if list[sym] == endless {
						sum = math.MinInt32
					}
				}
			}
			if sum >= 0 {
				next[r.Left] = min(next[r.Left], sum, 1000000)
			}
		}
		list = next
	}
	for n := range list {
		if list[n] == endless {
			list[n] = -1
		}
	}
	return list
}

// visit marks the symbols below a nonterminal.
func visit(g api.Gram, n int, names, terms []bool) {
	names[n] = true
	for _, r := range g.Rules {
		for _, sym := range r.Right {
			if r.Left == n && sym < 0 {
				terms[-1-sym] = true
			} else if r.Left == n && !names[sym] {
				visit(g, sym, names, terms)
			}
		}
	}
}

// factsOf are the facts of a valid grammar.
func factsOf(g api.Gram) facts {
	names, terms := make([]bool, len(g.Names)), make([]bool, len(g.Terms))
	visit(g, 0, names, terms)
	shortest := byHeights(g)
	return facts{shortest, names, errnoOf(shortest, names, terms)}
}

// someGram is a grammar of at most this many names and terminals; it is valid if its rules differ.
func someGram(random *rand.Rand, most int) api.Gram {
	g := sized(1+random.Intn(most), random.Intn(most))
	for n := range g.Names {
		for range 1 + random.Intn(3) {
			r := rule(n)
			for range random.Intn(5) {
				if len(g.Terms) > 0 && random.Intn(2) == 0 {
					r.Right = append(r.Right, -1-random.Intn(len(g.Terms)))
				} else {
					r.Right = append(r.Right, random.Intn(len(g.Names)))
				}
			}
			g.Rules = append(g.Rules, r)
		}
	}
	random.Shuffle(len(g.Rules), func(i, j int) { g.Rules[i], g.Rules[j] = g.Rules[j], g.Rules[i] })
	return g
}

func TestByTheDefinition(t *testing.T) {
	random := rand.New(rand.NewSource(152))
	count := map[api.Errno]int{}
	for i := range 20000 {
		g := someGram(random, []int{4, 8, 40}[i%3])
		if !gram.Valid(g) {
			checkInvalid(t, g)
			count[api.ErrArg]++
			continue
		}
		want := factsOf(g)
		checkFacts(t, g, want)
		count[want.errno]++
	}
	if count[api.OK] < 1000 || count[api.ErrEmpty] < 3000 || count[api.ErrUnreached] < 3000 || count[api.ErrArg] < 500 {
		t.Fatal(count)
	}
}

// Promise 15.1: the limits.

// binary is a grammar whose nonterminals derive only strings of this length, of half of it, and so on.
func binary(length int) (api.Gram, []int) {
	g := api.Gram{Terms: []string{"a"}}
	var lengths []int
	for n := 0; ; n++ {
		g.Names = append(g.Names, fmt.Sprint("N", n))
		lengths = append(lengths, min(length, 1000000))
		if length < 2 {
			g.Rules = append(g.Rules, rule(n, slices.Repeat([]int{-1}, length)...))
			return g, lengths
		}
		g.Rules = append(g.Rules, rule(n, append([]int{n + 1, n + 1}, slices.Repeat([]int{-1}, length%2)...)...))
		length /= 2
	}
}

func TestLengthsAboveAMillion(t *testing.T) {
	lengths := []int{1, 2, 3, 63, 64, 65, 255, 256, 257, 65535, 65536, 65537, 999999, 1000000, 1000001, 1048575, 1048576, 1999999, 2000000, 2000001,
		1<<31 - 1, 1 << 31, 1<<32 - 1, 1 << 32, 1<<32 + 1, 1 << 62, math.MaxInt}
	for n := range 400 {
		lengths = append(lengths, 999800+n)
	}
	for _, length := range lengths {
		g, want := binary(length)
		for _, h := range orders(g) {
			checkFacts(t, h, facts{want, slices.Repeat([]bool{true}, len(want)), api.OK})
		}
	}
}

// Lengths far beyond what an int holds are reported as 1000000, too, and do not hide shorter ones.
func TestLengthsBeyondNumbers(t *testing.T) {
	g := sized(255, 1, rule(254, -1))
	want := []int{1}
	for n := range 254 {
		g.Rules = append(g.Rules, rule(n, slices.Repeat([]int{n + 1}, 64)...))
		want = append(want, min(want[n]*64, 1000000))
	}
	slices.Reverse(want)
	all := slices.Repeat([]bool{true}, 255)
	for _, h := range orders(g) {
		checkFacts(t, h, facts{want, all, api.OK})
	}
	g.Rules = append(g.Rules, rule(50, -1, -1, -1))
	copy(want[46:], []int{1000000, 786432, 12288, 192, 3})
	for _, h := range orders(g) {
		checkFacts(t, h, facts{want, all, api.OK})
	}
	g.Rules = append(g.Rules, rule(100))
	clear(want[:101])
	for _, h := range orders(g) {
		checkFacts(t, h, facts{want, all, api.OK})
	}
}

func TestTheShortestOfLongOnes(t *testing.T) {
	million, lengths := binary(1000000)
	n := len(million.Names)
	base := func(rules ...api.Rule) api.Gram {
		return sized(n+1, 1, slices.Concat(rules, million.Rules)...)
	}
	for _, c := range []struct {
		rules  []api.Rule
		length int
	}{
		{[]api.Rule{rule(n, 0)}, 1000000},
		{[]api.Rule{rule(n, 0, -1)}, 1000000},
		{[]api.Rule{rule(n, -1, 0)}, 1000000},
		{[]api.Rule{rule(n, 0, 0)}, 1000000},
		{[]api.Rule{rule(n, slices.Repeat([]int{0}, 64)...)}, 1000000},
		{[]api.Rule{rule(n, 0, 0), rule(n, 0)}, 1000000},
		{[]api.Rule{rule(n, 0, -1), rule(n, 1, 1)}, 1000000},
		{[]api.Rule{rule(n, 0, 0), rule(n, 1, 2, -1)}, 750001},
		{[]api.Rule{rule(n, 1, 2, 3), rule(n, 0)}, 875000},
		{[]api.Rule{rule(n, 0, 0), rule(n, n, 0), rule(n, -1)}, 1},
		{[]api.Rule{rule(n, 0, 0), rule(n)}, 0},
		{[]api.Rule{rule(n, 0, n)}, -1},
	} {
		want := append(slices.Clone(lengths), c.length)
		for _, g := range orders(base(c.rules...)) {
			reached := append(slices.Repeat([]bool{true}, n), false)
			errno := api.ErrUnreached
			if c.length < 0 {
				errno = api.ErrEmpty
			}
			checkFacts(t, g, facts{want, reached, errno})
		}
	}
}

// chain is a grammar in which each nonterminal derives the next one, with something before it, and the last one last.
func chain(names int, before []int, last ...int) api.Gram {
	g := sized(names, 1)
	for n := range names - 1 {
		g.Rules = append(g.Rules, rule(n, append(slices.Clone(before), n+1)...))
	}
	g.Rules = append(g.Rules, rule(names-1, last...))
	return g
}

// Properties are propagated through as many nonterminals as a grammar can have, in whatever order the rules are.
func TestLongChains(t *testing.T) {
	for _, names := range []int{1, 2, 3, 64, 254, 255} {
		all := slices.Repeat([]bool{true}, names)
		var down []int
		for n := range names {
			down = append(down, names-n)
		}
		for _, h := range orders(chain(names, []int{-1}, -1)) {
			checkFacts(t, h, facts{down, all, api.OK})
		}
		// The terminal is reachable only through all nonterminals.
		for _, h := range orders(chain(names, nil, -1)) {
			checkFacts(t, h, facts{slices.Repeat([]int{1}, names), all, api.OK})
		}
		for _, h := range orders(chain(names, nil)) {
			checkFacts(t, h, facts{make([]int, names), all, api.ErrUnreached})
		}
		for _, h := range orders(chain(names, []int{-1}, names-1)) {
			checkFacts(t, h, facts{slices.Repeat([]int{-1}, names), all, api.ErrEmpty})
		}
	}
}

func TestTheMostNonterminals(t *testing.T) {
	g := sized(256, 0)
	for n := range 255 {
		g.Rules = append(g.Rules, rule(n, n+1))
	}
	all := slices.Repeat([]bool{true}, 256)
	for _, last := range []struct {
		right []int
		want  facts
	}{
		{nil, facts{make([]int, 256), all, api.OK}},
		{[]int{255}, facts{slices.Repeat([]int{-1}, 256), all, api.ErrEmpty}},
		{[]int{0}, facts{slices.Repeat([]int{-1}, 256), all, api.ErrEmpty}},
	} {
		whole := api.Gram{Names: g.Names, Rules: append(slices.Clone(g.Rules), rule(255, last.right...))}
		for _, h := range orders(whole) {
			checkFacts(t, h, last.want)
		}
	}
}

// A chain that is cut at a nonterminal is reachable up to it, and productive behind it.
func TestChainsThatAreCut(t *testing.T) {
	for _, at := range []int{0, 1, 2, 100, 127, 128, 253, 254} {
		for _, h := range orders(chain(255, []int{-1}, -1)) {
			cut := slices.IndexFunc(h.Rules, func(r api.Rule) bool { return r.Left == at })
			var want facts
			for n := range 255 {
				want.shortest = append(want.shortest, 255-n)
				want.reached = append(want.reached, n <= at)
			}
			h.Rules = slices.Clone(h.Rules)
			h.Rules[cut] = rule(at, -1)
			for n := range at + 1 {
				want.shortest[n] = at - n + 1
			}
			if at < 254 {
				want.errno = api.ErrUnreached
			}
			checkFacts(t, h, want)
			h.Rules[cut] = rule(at, at, -1)
			for n := range at + 1 {
				want.shortest[n] = -1
			}
			want.errno = api.ErrEmpty
			checkFacts(t, h, want)
		}
	}
}

// Each nonterminal has a string at once, but a shorter one only when all others behind it do.
func TestLengthsThatImproveLate(t *testing.T) {
	g := sized(255, 1)
	for n := range 254 {
		g.Rules = append(g.Rules, rule(n, slices.Repeat([]int{-1}, 64)...), rule(n, n+1))
	}
	g.Rules = append(g.Rules, rule(254, -1))
	want := facts{slices.Repeat([]int{1}, 255), slices.Repeat([]bool{true}, 255), api.OK}
	for _, h := range orders(g) {
		checkFacts(t, h, want)
	}
	for i, r := range g.Rules {
		if len(r.Right) == 1 && r.Left < 254 {
			g.Rules[i].Right = []int{r.Left + 1, r.Left + 1}
		}
	}
	for n := range 254 {
		want.shortest[n] = min(64, 1<<min(254-n, 7))
	}
	for _, h := range orders(g) {
		checkFacts(t, h, want)
	}
}

// Rounds that shorten some strings, and show a way to others, mix.
func TestLargeGrammarsByTheDefinition(t *testing.T) {
	random := rand.New(rand.NewSource(153))
	for range 60 {
		names := 200 + random.Intn(50)
		g := sized(names, 256-names)
		for n := range names {
			g.Rules = append(g.Rules, rule(n, n, -1-random.Intn(256-names)))
			if n < names-1 && random.Intn(30) > 0 {
				g.Rules = append(g.Rules, rule(n, min(names-1, n+1+random.Intn(4)), -1-random.Intn(256-names)))
			}
			if random.Intn(20) == 0 {
				g.Rules = append(g.Rules, rule(n, slices.Repeat([]int{-1}, 3+random.Intn(60))...))
			}
			if random.Intn(10) == 0 {
				g.Rules = append(g.Rules, rule(n, slices.Repeat([]int{random.Intn(names)}, 3+random.Intn(60))...))
			}
		}
		if !gram.Valid(g) {
			t.Fatal("not valid")
		}
		for _, h := range orders(g) {
			checkFacts(t, h, factsOf(g))
		}
	}
}

// The most rules, of the most symbols each: 4096 different right sides of 64 symbols.
func TestTheMostRules(t *testing.T) {
	g := sized(240, 16)
	for i := range 4096 {
		right := slices.Repeat([]int{(i + 1) % 240}, 64)
		right[0], right[1] = -1-i/240%16, -1-i/3840
		g.Rules = append(g.Rules, rule(i%240, right...))
	}
	for _, h := range orders(g) {
		checkFacts(t, h, facts{slices.Repeat([]int{-1}, 240), slices.Repeat([]bool{true}, 240), api.ErrEmpty})
	}
	g.Rules[3839] = rule(239, -1)
	g.Rules[239] = rule(239, -2)
	want := factsOf(g)
	if want.errno != api.OK || want.shortest[0] != 1000000 || want.shortest[238] != 64 || want.shortest[239] != 1 {
		t.Fatal(want)
	}
	for _, h := range orders(g) {
		checkFacts(t, h, want)
	}
}

// Promise 15.2: the limits.

func TestEachTerminalIsRequired(t *testing.T) {
	for _, terms := range []int{1, 2, 63, 64, 65, 128, 254, 255} {
		var rules []api.Rule
		for n := range terms {
			rules = append(rules, rule(0, -1-n))
		}
		g := sized(1, terms, rules...)
		checkFacts(t, g, facts{[]int{1}, bits("1"), api.OK})
		for n := range terms {
			g.Rules = slices.Clone(rules)
			g.Rules[n] = rule(0, slices.Repeat([]int{-1 - (n+1)%terms}, 2)...)
			if errno := well.Check(g); (errno == api.OK) != (terms == 1) || terms > 1 && errno != api.ErrUnreached {
				t.Fatalf("without terminal %d of %d: %d", n, terms, errno)
			}
			g.Rules = append(g.Rules, rule(0, 0, -1-n))
			if errno := well.Check(g); errno != api.OK {
				t.Fatalf("with terminal %d of %d: %d", n, terms, errno)
			}
		}
	}
}

func TestEachNonterminalIsRequired(t *testing.T) {
	for _, names := range []int{2, 3, 128, 255, 256} {
		for n := range names {
			g := sized(names, 0)
			for other := range names {
				g.Rules = append(g.Rules, rule(other))
				if other != n {
					g.Rules = append(g.Rules, rule(0, other))
				}
			}
			want := api.ErrUnreached
			if n == 0 {
				want = api.OK
			}
			if errno := well.Check(g); errno != want || well.Reached(g)[n] != (n == 0) {
				t.Fatalf("nonterminal %d of %d is not reachable: %d", n, names, errno)
			}
			g.Rules = append(g.Rules, rule((n+names-1)%names, n, n))
			if well.Check(g) != api.OK || !well.Reached(g)[n] {
				t.Fatalf("nonterminal %d of %d is reachable: %d", n, names, well.Check(g))
			}
			for i, r := range g.Rules {
				if r.Left == n && len(r.Right) == 0 {
					g.Rules[i].Right = []int{n, n}
				}
			}
			if n > 0 && (well.Check(g) != api.ErrEmpty || well.Productive(g)[n] || well.Shortest(g)[n] != -1) {
				t.Fatalf("nonterminal %d of %d is not productive: %d", n, names, well.Check(g))
			}
		}
	}
}

func TestOrderOfErrors(t *testing.T) {
	for set := range 16 {
		g := of("S", "a", rule(0, -1))
		want := api.OK
		add := func(bit int, errno api.Errno, change func()) {
			if set>>bit&1 == 1 {
				change()
				want = errno
			}
		}
		add(0, api.ErrUnreached, func() { g.Terms = append(g.Terms, "free") })
		add(1, api.ErrUnreached, func() {
			g.Rules = append(g.Rules, rule(len(g.Names)))
			g.Names = append(g.Names, "Free")
		})
		add(2, api.ErrEmpty, func() {
			g.Rules = append(g.Rules, rule(len(g.Names), len(g.Names)), rule(0, len(g.Names)))
			g.Names = append(g.Names, "Endless")
		})
		add(3, api.ErrArg, func() { g.Rules = append(g.Rules, rule(0, -1)) })
		for _, h := range orders(g) {
			if got := well.Check(h); got != want {
				t.Fatalf("Check of %v is %d, not %d", h, got, want)
			}
		}
	}
	for _, s := range []string{"S : 'a' ; A : A ;", "S : S ; A : ;", "S : 'a' | B ; A : 'b' ; B : B ;"} {
		if errno := well.Check(read(t, s)); errno != api.ErrEmpty {
			t.Fatalf("%q: %d", s, errno)
		}
	}
}

// Promises 15.1 and 15.2: invalid grammars.

func TestInvalidGrammars(t *testing.T) {
	for _, g := range []api.Gram{
		{},
		{Terms: []string{"a"}},
		{Rules: []api.Rule{{}}},
		of("", "a", rule(0, -1)),
		of("S", "a"),
		of("S A", "a", rule(0, -1)),
		of("S A", "a", rule(0, -1, 1)),
		of("S S", "a", rule(0, 1), rule(1, -1)),
		of("S", "a a", rule(0, -1, -2)),
		of("S", "a", rule(0, -1), rule(0, -1)),
		of("S", "", rule(0), rule(0)),
		of("S", "a", rule(0, -1), rule(1, -1)),
		of("S", "a", rule(0, -1), rule(-1, -1)),
		of("S", "a", rule(0, -1), rule(math.MaxInt)),
		of("S", "a", rule(0, -1), rule(math.MinInt)),
		of("S", "a", rule(0, -2)),
		of("S", "a", rule(0, -1, 1)),
		of("S", "a", rule(0, -1), rule(0, math.MaxInt)),
		of("S", "a", rule(0, -1), rule(0, math.MinInt)),
		of("S", "a", rule(0, -1), rule(0, 256)),
		of("S", "a", rule(0, -1), rule(0, -257)),
		of("1", "a", rule(0, -1)),
		of("S", "'", rule(0, -1)),
		of("S", "\\", rule(0, -1)),
		of(strings.Repeat("n", 33), "a", rule(0, -1)),
		of("S", strings.Repeat("t", 33), rule(0, -1)),
		{Names: []string{""}, Rules: []api.Rule{{}}},
		{Names: []string{"S"}, Terms: []string{""}, Rules: []api.Rule{rule(0, -1)}},
	} {
		checkInvalid(t, g)
	}
}

// Reduced grammars that are one larger than a valid one are rejected.
func TestGrammarsThatAreTooLarge(t *testing.T) {
	for _, more := range []int{0, 1} {
		var reduced []api.Gram
		var star, long []api.Rule
		for n := range 255 + more {
			star = append(star, rule(0, -1-n))
		}
		reduced = append(reduced, sized(1, 255+more, star...))
		reduced = append(reduced, chain(255+more, []int{-1}, -1))
		for i := range 4096 + more {
			right := make([]int, 13)
			for bit := range right {
				right[bit] = -1 - i>>bit&1
			}
			long = append(long, rule(0, right...))
		}
		reduced = append(reduced, sized(1, 2, long...))
		reduced = append(reduced, of("S", "a", rule(0, slices.Repeat([]int{-1}, 64+more)...)))
		reduced = append(reduced, of(strings.Repeat("n", 32+more), strings.Repeat("t", 32+more), rule(0, -1)))
		for _, g := range reduced {
			if more == 1 {
				checkInvalid(t, g)
			} else if errno := well.Check(g); errno != api.OK {
				t.Fatalf("Check of %.300v is %d", g, errno)
			} else {
				checkFacts(t, g, factsOf(g))
			}
		}
	}
}

// Rules R3 and R4: arguments are not changed, results are new memory, and the same each time.

func clone(g api.Gram) api.Gram {
	h := api.Gram{Names: slices.Clone(g.Names), Terms: slices.Clone(g.Terms)}
	for _, r := range g.Rules {
		h.Rules = append(h.Rules, rule(r.Left, r.Right...))
		h.Rules[len(h.Rules)-1].Right = slices.Clone(r.Right)
	}
	return h
}

func TestArgumentsAreNotChanged(t *testing.T) {
	random := rand.New(rand.NewSource(154))
	for range 2000 {
		g := someGram(random, 8)
		kept := clone(g)
		well.Shortest(g)
		well.Productive(g)
		well.Reached(g)
		well.Check(g)
		if !gram.Same(g, kept) {
			t.Fatalf("%v was changed to %v", kept, g)
		}
	}
}

func TestResultsAreNewMemory(t *testing.T) {
	g := of("S A B", "a b", rule(0, 1, -1), rule(1, -1, -2), rule(2, 2))
	want := facts{[]int{3, 2, -1}, bits("110"), api.ErrEmpty}
	for range 3 {
		shortest, productive, reached := well.Shortest(g), well.Productive(g), well.Reached(g)
		well.Check(of("S A B", "", rule(0), rule(1), rule(2)))
		checkFacts(t, g, want)
		if !slices.Equal(shortest, want.shortest) || !slices.Equal(productive, bits("110")) || !slices.Equal(reached, want.reached) {
			t.Fatal(shortest, productive, reached)
		}
		_, _, _ = append(shortest, 7), append(productive, true), append(reached, true)
		clear(shortest)
		clear(productive)
		clear(reached)
	}
	checkFacts(t, g, want)
}
