package gram_test

import (
	"fmt"
	"math"
	"math/rand"
	"regexp"
	"slices"
	"strings"
	"testing"

	"repertory/api"
	"repertory/gram"
	"repertory/parse"
)

// The texts of names and terminals, as the chapter of lex defines them.
var (
	aName = regexp.MustCompile(`^[a-zA-Z][a-zA-Z0-9_]{0,31}$`)
	aTerm = regexp.MustCompile(`^[\x20-\x26\x28-\x5b\x5d-\x7e]{1,32}$`)
)

// differ tells whether no two elements of a list are equal.
func differ[E any](list []E, equal func(a, b E) bool) bool {
	for i, a := range list {
		if slices.ContainsFunc(list[i+1:], func(b E) bool { return equal(a, b) }) {
			return false
		}
	}
	return true
}

func equalTexts(a, b string) bool { return a == b }

func equalRules(a, b api.Rule) bool { return a.Left == b.Left && slices.Equal(a.Right, b.Right) }

func equalLines(a, b parse.Line) bool {
	return a.Name == b.Name && slices.EqualFunc(a.Alts, b.Alts, slices.Equal[[]parse.Item])
}

func equal(a, b api.Gram) bool {
	return slices.Equal(a.Names, b.Names) && slices.Equal(a.Terms, b.Terms) && slices.EqualFunc(a.Rules, b.Rules, equalRules)
}

// isValid is what Valid returns, by the definition.
func isValid(g api.Gram) bool {
	for _, name := range g.Names {
		if !aName.MatchString(name) {
			return false
		}
	}
	for _, term := range g.Terms {
		if !aTerm.MatchString(term) {
			return false
		}
	}
	for _, r := range g.Rules {
		if r.Left < 0 || r.Left >= len(g.Names) || len(r.Right) > 64 {
			return false
		}
		for _, sym := range r.Right {
			if sym >= len(g.Names) || sym < -len(g.Terms) {
				return false
			}
		}
	}
	for n := range g.Names {
		if !slices.ContainsFunc(g.Rules, func(r api.Rule) bool { return r.Left == n }) {
			return false
		}
	}
	return len(g.Names) >= 1 && len(g.Names)+len(g.Terms) <= 256 && len(g.Rules) <= 4096 &&
		differ(g.Names, equalTexts) && differ(g.Terms, equalTexts) && differ(g.Rules, equalRules)
}

// resolved is what Resolve returns, by the definition.
func resolved(l ...parse.Line) (api.Gram, api.Errno) {
	var names, terms []string
	var alts [][]parse.Item
	var lefts []int
	for n, line := range l {
		names = append(names, line.Name)
		alts = append(alts, line.Alts...)
		lefts = append(lefts, slices.Repeat([]int{n}, len(line.Alts))...)
	}
	if len(l) > 256 || len(alts) > 4096 || slices.ContainsFunc(alts, func(alt []parse.Item) bool { return len(alt) > 64 }) {
		return api.Gram{}, api.ErrBound
	}
	if !differ(names, equalTexts) {
		return api.Gram{}, api.ErrTwice
	}
	for _, item := range slices.Concat(alts...) {
		if !item.Term && !slices.Contains(names, item.Text) {
			return api.Gram{}, api.ErrUndefined
		}
		if item.Term && !slices.Contains(terms, item.Text) {
			terms = append(terms, item.Text)
		}
	}
	if len(names)+len(terms) > 256 {
		return api.Gram{}, api.ErrBound
	}
	var rules []api.Rule
	for i, alt := range alts {
		r := api.Rule{Left: lefts[i]}
		for _, item := range alt {
			sym := slices.Index(names, item.Text)
			if item.Term {
				sym = -1 - slices.Index(terms, item.Text)
			}
			r.Right = append(r.Right, sym)
		}
		rules = append(rules, r)
	}
	if !differ(rules, equalRules) {
		return api.Gram{}, api.ErrTwice
	}
	return api.Gram{Names: names, Terms: terms, Rules: rules}, api.OK
}

// linesOf is what Lines returns, by the definition.
func linesOf(g api.Gram) []parse.Line {
	if !isValid(g) {
		return nil
	}
	var l []parse.Line
	for n, name := range g.Names {
		line := parse.Line{Name: name}
		for _, r := range g.Rules {
			if r.Left != n {
				continue
			}
			var alt []parse.Item
			for _, sym := range r.Right {
				if sym >= 0 {
					alt = append(alt, parse.Item{Text: g.Names[sym]})
				} else {
					alt = append(alt, parse.Item{Term: true, Text: g.Terms[-sym-1]})
				}
			}
			line.Alts = append(line.Alts, alt)
		}
		l = append(l, line)
	}
	return l
}

func rule(left int, right ...int) api.Rule { return api.Rule{Left: left, Right: right} }

// of is a grammar; its names and terminals are the words of two texts.
func of(names, terms string, rules ...api.Rule) api.Gram {
	return api.Gram{Names: strings.Fields(names), Terms: strings.Fields(terms), Rules: rules}
}

// line is a rule with its alternatives.
func line(name string, alts ...[]parse.Item) parse.Line { return parse.Line{Name: name, Alts: alts} }

// alt is an alternative, of which the words in quotes are terminals.
func alt(words ...string) []parse.Item {
	var list []parse.Item
	for _, w := range words {
		text := strings.Trim(w, "'")
		list = append(list, parse.Item{Term: text != w, Text: text})
	}
	return list
}

// lines are the rules of a grammar text.
func lines(t *testing.T, s string) []parse.Line {
	t.Helper()
	l, at, errno := parse.All(s)
	if errno != api.OK {
		t.Fatalf("%.100q is no grammar text: %d at %d", s, errno, at)
	}
	return l
}

// numbered are different texts.
func numbered(prefix string, n int) []string {
	var list []string
	for i := range n {
		list = append(list, fmt.Sprint(prefix, i))
	}
	return list
}

// grid is a valid grammar with this many names, each with one rule, and terminals.
func grid(names, terms int) api.Gram {
	g := api.Gram{Names: numbered("N", names), Terms: numbered("t", terms)}
	for n := range names {
		g.Rules = append(g.Rules, rule(n))
	}
	return g
}

// rights are different right sides of symbols -1 and 0.
func rights(n int) [][]int {
	list := [][]int{nil}
	for i := 0; len(list) < n; i++ {
		list = append(list, append(slices.Clone(list[i]), -1), append(slices.Clone(list[i]), 0))
	}
	return list[:n]
}

// checkValid expects g to be valid, or not, and Lines to know it.
func checkValid(t *testing.T, g api.Gram, want bool) {
	t.Helper()
	if gram.Valid(g) != want {
		t.Fatalf("%.300v is valid: %v", g, !want)
	}
	if l := gram.Lines(g); (len(l) > 0) != want {
		t.Fatalf("%.300v has the lines %.300v", g, l)
	}
}

// Promise 14.1.

func TestValidGrammars(t *testing.T) {
	for _, g := range []api.Gram{
		of("S", "", rule(0)),
		of("S", "a", rule(0)),
		of("S", "a", rule(0, -1)),
		of("S", "", rule(0, 0)),
		of("S", "a", rule(0, -1, 0), rule(0)),
		of("S", "a", rule(0), rule(0, -1), rule(0, 0), rule(0, -1, -1), rule(0, -1, 0), rule(0, 0, -1), rule(0, 0, 0)),
		of("S A", "", rule(0), rule(1)),
		of("S A", "", rule(1), rule(0)),
		of("S A B", "x y", rule(1, 2, -2), rule(0, 1), rule(2), rule(1, -1), rule(0), rule(2, 0, 0)),
		of("b a S", "z y", rule(2, -1), rule(1, -2), rule(0, 1, 2)),
		of("S s S_ S1", "S s S_ S1 + ( ) #", rule(0), rule(1), rule(2), rule(3)),
		{Names: []string{"S"}, Terms: []string{" ", "  ", "a b", "\""}, Rules: []api.Rule{{}}},
	} {
		checkValid(t, g, true)
	}
}

func TestInvalidGrammars(t *testing.T) {
	for _, g := range []api.Gram{
		{},
		of("", "a"),
		of("", "", rule(0)),
		of("S", ""),
		of("S", "a"),
		of("S A", "", rule(0)),
		of("S A", "", rule(1)),
		of("S A", "", rule(0, 1), rule(0)),
		of("S A B", "", rule(0), rule(2)),
		of("S S", "", rule(0), rule(1)),
		of("S A S", "", rule(0), rule(1), rule(2)),
		of("S", "a a", rule(0)),
		of("S", "a b a", rule(0)),
		of("S", "", rule(0), rule(0)),
		of("S", "", rule(0), api.Rule{Right: []int{}}),
		of("S", "a", rule(0, -1), rule(0, -1)),
		of("S", "a", rule(0, -1, 0), rule(0), rule(0, -1, 0)),
		of("S A", "", rule(0, 1), rule(1), rule(0, 1)),
		of("S", "", rule(0), rule(1)),
		of("S", "", rule(0), rule(-1)),
		of("S", "a", rule(0), rule(-1)),
		of("S", "", rule(0, 1)),
		of("S", "", rule(0, -1)),
		of("S", "a", rule(0, -2)),
		of("S", "a", rule(0, 0, -1, 1)),
		of("S_ 1", "", rule(0), rule(1)),
		of("'a'", "", rule(0)),
		of("S", "'", rule(0)),
		of("S", "a \\", rule(0)),
		{Names: []string{""}, Rules: []api.Rule{{}}},
		{Names: []string{"S", "A B"}, Rules: []api.Rule{{}, {Left: 1}}},
		{Names: []string{"S"}, Terms: []string{""}, Rules: []api.Rule{{}}},
		{Names: []string{"S"}, Terms: []string{"a", "\n"}, Rules: []api.Rule{{}}},
	} {
		checkValid(t, g, false)
	}
}

func TestEveryByteInNamesAndTerminals(t *testing.T) {
	for c := range 256 {
		for _, s := range []string{string([]byte{byte(c)}), string([]byte{'a', byte(c)}), string([]byte{byte(c), 'a'})} {
			checkValid(t, api.Gram{Names: []string{"S", s}, Rules: []api.Rule{rule(0), rule(1)}}, s != "S" && aName.MatchString(s))
			checkValid(t, api.Gram{Names: []string{"S"}, Terms: []string{s, "zz"}, Rules: []api.Rule{rule(0)}}, aTerm.MatchString(s))
		}
	}
}

func TestLengthsOfNamesAndTerminals(t *testing.T) {
	for n := range 70 {
		s := strings.Repeat("y", n)
		ok := n >= 1 && n <= 32
		checkValid(t, api.Gram{Names: []string{s}, Rules: []api.Rule{rule(0)}}, ok)
		checkValid(t, api.Gram{Names: []string{"S", s}, Rules: []api.Rule{rule(0), rule(1)}}, ok)
		checkValid(t, api.Gram{Names: []string{"S"}, Terms: []string{s}, Rules: []api.Rule{rule(0)}}, ok)
		checkValid(t, api.Gram{Names: []string{"S"}, Terms: []string{"a", s}, Rules: []api.Rule{rule(0)}}, ok)
	}
}

func TestNumbersOfSymbols(t *testing.T) {
	for _, names := range []int{1, 2, 3, 100, 128, 254, 255, 256, 257, 300} {
		for _, terms := range []int{0, 1, 2, 3, 100, 128, 155, 156, 157, 254, 255, 256, 257, 300} {
			checkValid(t, grid(names, terms), names+terms <= 256)
		}
	}
}

func TestNumbersOfRules(t *testing.T) {
	all := rights(5000)
	for _, n := range []int{1, 2, 255, 256, 257, 4095, 4096, 4097, 5000} {
		g := of("S", "a")
		for _, right := range all[:n] {
			g.Rules = append(g.Rules, rule(0, right...))
		}
		checkValid(t, g, n <= 4096)
		g.Rules = g.Rules[:min(n, 4096)]
		g.Rules[len(g.Rules)-1] = g.Rules[0]
		checkValid(t, g, n == 1)
	}
}

func TestLengthsOfRightSides(t *testing.T) {
	for n := range 130 {
		for _, sym := range []int{-1, 0} {
			right := slices.Repeat([]int{sym}, n)
			checkValid(t, of("S", "a", rule(0, right...)), n <= 64)
			checkValid(t, of("S A", "a b", rule(0, 1, -2), rule(1), rule(0, right...)), n <= 64)
		}
	}
}

// outside are numbers that no grammar has; some are symbols if their highest bits are lost.
func outside() []int {
	return []int{math.MinInt, math.MinInt + 1, math.MaxInt, math.MaxInt - 1, math.MinInt32, math.MaxInt32, 1 << 32, 1<<32 - 1, -1 << 32,
		256, 257, 65535, 65536, 65537, -257, -258, -65535, -65536, -65537, 1 << 16, 1 << 24, 1 << 40, 1 << 62, -1 << 62}
}

func TestSymbolsOfGrammars(t *testing.T) {
	for names := 1; names <= 4; names++ {
		for terms := range 4 {
			for _, sym := range append(outside(), -6, -5, -4, -3, -2, -1, 0, 1, 2, 3, 4, 5, 6) {
				for at := range 3 {
					g := grid(names, terms)
					right := []int{0, 0, 0}
					right[at] = sym
					g.Rules = append(g.Rules, rule(0, right...))
					checkValid(t, g, sym >= -terms && sym < names)
				}
				g := grid(names, terms)
				g.Rules = append(g.Rules, rule(sym, 0))
				checkValid(t, g, sym >= 0 && sym < names)
			}
		}
	}
	for _, g := range []api.Gram{grid(1, 255), grid(128, 128), grid(255, 1), grid(256, 0)} {
		for sym := -300; sym <= 300; sym++ {
			changed := api.Gram{Names: g.Names, Terms: g.Terms, Rules: append(slices.Clone(g.Rules), rule(0, sym))}
			checkValid(t, changed, sym >= -len(g.Terms) && sym < len(g.Names))
		}
	}
}

func TestEachNonterminalHasARule(t *testing.T) {
	for _, names := range []int{1, 2, 7, 256} {
		for n := range names {
			g := grid(names, 0)
			checkValid(t, g, true)
			g.Rules = slices.Delete(g.Rules, n, n+1)
			checkValid(t, g, false)
			g.Rules = append(g.Rules, rule((n+1)%names, n))
			checkValid(t, g, names == 1)
			g.Rules = append(g.Rules, rule(n, 0, 0))
			checkValid(t, g, true)
		}
	}
}

// Rules differ if one number of them does, whatever their other numbers are.
func TestRulesAreComparedWhole(t *testing.T) {
	base := grid(128, 128)
	syms := []int{0, 1, 2, 44, 127, -1, -2, -44, -127, -128}
	var all []api.Rule
	for _, left := range []int{0, 1, 44, 127} {
		for _, a := range syms {
			all = append(all, rule(left, a))
			for _, b := range syms {
				all = append(all, rule(left, a, b))
			}
		}
	}
	g := api.Gram{Names: base.Names, Terms: base.Terms, Rules: slices.Concat(base.Rules, all)}
	checkValid(t, g, true)
	for i, r := range all {
		if i%7 == 0 {
			twice := api.Gram{Names: base.Names, Terms: base.Terms, Rules: slices.Concat(g.Rules, []api.Rule{r})}
			checkValid(t, twice, false)
		}
	}
	g = grid(256, 0)
	for n := range 256 {
		g.Rules = append(g.Rules, rule(n, n), rule(255-n, n, n))
	}
	checkValid(t, g, true)
	g = grid(1, 255)
	for n := range 255 {
		g.Rules = append(g.Rules, rule(0, -1-n), rule(0, -1-n, 0), rule(0, 0, -1-n))
	}
	checkValid(t, g, true)
}

// someGram is a small grammar, often a valid one.
func someGram(random *rand.Rand) api.Gram {
	names := []string{"S", "A", "B", "a", "x_1", strings.Repeat("n", 32)}
	terms := []string{"a", "b", "S", "+", " ", strings.Repeat("t", 32)}
	if random.Intn(8) == 0 {
		names = append(names, "S", "", "1", "A B", strings.Repeat("n", 33))
		terms = append(terms, "a", "", "'", "\n", strings.Repeat("t", 33))
	}
	random.Shuffle(len(names), func(i, j int) { names[i], names[j] = names[j], names[i] })
	random.Shuffle(len(terms), func(i, j int) { terms[i], terms[j] = terms[j], terms[i] })
	g := api.Gram{Names: names[:1+random.Intn(4)], Terms: terms[:random.Intn(4)]}
	wide := 0
	if random.Intn(8) == 0 {
		wide = 1
	}
	low, high := -len(g.Terms)-wide, len(g.Names)+wide
	for n := range g.Names {
		if random.Intn(20) > 0 {
			g.Rules = append(g.Rules, rule(n))
		}
	}
	for range random.Intn(6) {
		r := api.Rule{Left: random.Intn(high+wide) - wide}
		for range random.Intn(4) {
			r.Right = append(r.Right, low+random.Intn(high-low))
		}
		g.Rules = append(g.Rules, r)
	}
	random.Shuffle(len(g.Rules), func(i, j int) { g.Rules[i], g.Rules[j] = g.Rules[j], g.Rules[i] })
	return g
}

func TestValidByTheDefinition(t *testing.T) {
	random := rand.New(rand.NewSource(141))
	count := map[bool]int{}
	for range 20000 {
		g := someGram(random)
		checkValid(t, g, isValid(g))
		count[isValid(g)]++
	}
	if count[true] < 4000 || count[false] < 4000 {
		t.Fatal(count)
	}
}

func TestSame(t *testing.T) {
	all := []api.Gram{
		{},
		of("S", ""),
		of("", "S"),
		of("", "", rule(0)),
		of("S", "a", rule(0, -1), rule(0)),
		of("S", "a", rule(0), rule(0, -1)),
		of("S", "a", rule(0, -1)),
		of("S", "a", rule(0, -1), rule(0), rule(0)),
		of("S", "a", rule(0, -1), rule(0, -1)),
		of("S", "a", rule(0, -1), rule(1)),
		of("S", "a", rule(0, -2), rule(0)),
		of("S", "a", rule(0, -1, -1), rule(0)),
		of("S", "b", rule(0, -1), rule(0)),
		of("T", "a", rule(0, -1), rule(0)),
		of("S", "a b", rule(0, -1), rule(0)),
		of("S A", "a", rule(0, -1), rule(0)),
		of("S A", "a b", rule(0, -1), rule(1)),
		of("A S", "a b", rule(0, -1), rule(1)),
		of("S A", "b a", rule(0, -1), rule(1)),
		of("S A", "a b", rule(0, 65535), rule(1)),
		of("S A", "a b", rule(65536, -1), rule(1)),
	}
	for i, a := range all {
		for j, b := range all {
			if gram.Same(a, b) != (i == j) {
				t.Errorf("%v and %v are the same: %v", a, b, i != j)
			}
		}
	}
	if !gram.Same(api.Gram{Names: []string{}, Terms: []string{}, Rules: []api.Rule{}}, api.Gram{}) {
		t.Error("nil and empty lists are not the same")
	}
	if !gram.Same(of("S", "", api.Rule{Right: []int{}}), of("S", "", rule(0))) {
		t.Error("nil and empty right sides are not the same")
	}
}

func TestSameByTheDefinition(t *testing.T) {
	random := rand.New(rand.NewSource(1412))
	for range 5000 {
		a, b := someGram(random), someGram(random)
		if random.Intn(2) == 0 {
			b = clone(a)
		}
		switch random.Intn(6) {
		case 0:
			b.Names[random.Intn(len(b.Names))] += "x"
		case 1:
			b.Terms = append(b.Terms, "x")
		case 2:
			b.Rules = append(b.Rules, rule(0, random.Intn(5)))
		}
		if gram.Same(a, b) != equal(a, b) || gram.Same(b, a) != equal(a, b) || !gram.Same(a, clone(a)) {
			t.Fatalf("%v and %v are the same: %v", a, b, gram.Same(a, b))
		}
	}
}

// clone is a copy that shares no memory.
func clone(g api.Gram) api.Gram {
	c := api.Gram{Names: slices.Clone(g.Names), Terms: slices.Clone(g.Terms)}
	for _, r := range g.Rules {
		c.Rules = append(c.Rules, api.Rule{Left: r.Left, Right: slices.Clone(r.Right)})
	}
	return c
}

func TestRulesOfANonterminal(t *testing.T) {
	g := of("E X T", "+ n ( )", rule(0, 2, 1), rule(1, -1, 2, 1), rule(1), rule(2, -2), rule(2, -3, 0, -4))
	mixed := of("S A B", "", rule(1), rule(0), rule(1, 0), rule(2), rule(0, 1), rule(1, 1))
	for _, c := range []struct {
		g    api.Gram
		left int
		want []int
	}{
		{g, 0, []int{0}}, {g, 1, []int{1, 2}}, {g, 2, []int{3, 4}}, {g, 3, nil}, {g, -1, nil}, {g, math.MaxInt, nil}, {g, math.MinInt, nil}, {g, 256, nil}, {g, 65536, nil},
		{mixed, 0, []int{1, 4}}, {mixed, 1, []int{0, 2, 5}}, {mixed, 2, []int{3}}, {mixed, 3, nil},
		{api.Gram{}, 0, nil}, {of("S", ""), 0, nil},
		// Of names no condition, so rules with a left side that the grammar has not are found, too.
		{of("", "", rule(0), rule(0)), 0, []int{0, 1}}, {of("S", "", rule(7), rule(0), rule(-1), rule(7)), 7, []int{0, 3}}, {of("S", "", rule(7), rule(0), rule(-1)), -1, []int{2}},
	} {
		if got := gram.Of(c.g, c.left); !slices.Equal(got, c.want) {
			t.Errorf("the rules of %d in %v are %v, not %v", c.left, c.g, got, c.want)
		}
	}
}

func TestRulesOfEachNonterminal(t *testing.T) {
	random := rand.New(rand.NewSource(1413))
	for range 3000 {
		g := someGram(random)
		for left := -3; left < 8; left++ {
			var want []int
			for i, r := range g.Rules {
				if r.Left == left {
					want = append(want, i)
				}
			}
			if got := gram.Of(g, left); !slices.Equal(got, want) {
				t.Fatalf("the rules of %d in %v are %v, not %v", left, g, got, want)
			}
		}
	}
	g := of("S A", "a")
	var odd []int
	for i, right := range rights(4096) {
		g.Rules = append(g.Rules, rule(i%2, right...))
		if i%2 == 1 {
			odd = append(odd, i)
		}
	}
	if !slices.Equal(gram.Of(g, 1), odd) || len(gram.Of(g, 0)) != 2048 {
		t.Fatal("the rules of a large grammar")
	}
}

func TestTerminalsAreNegative(t *testing.T) {
	for sym := -600; sym <= 600; sym++ {
		if gram.IsTerm(sym) != (sym < 0) {
			t.Errorf("%d is a terminal: %v", sym, sym >= 0)
		}
	}
	for _, sym := range outside() {
		if gram.IsTerm(sym) != (sym < 0) {
			t.Errorf("%d is a terminal: %v", sym, sym >= 0)
		}
	}
}

// Promise 14.2.

// checkLines expects Resolve to make g of l.
func checkLines(t *testing.T, g api.Gram, l ...parse.Line) {
	t.Helper()
	got, errno := gram.Resolve(l...)
	if errno != api.OK || !equal(got, g) {
		t.Fatalf("the grammar of %.300v is %.300v, %d, not %.300v", l, got, errno, g)
	}
}

// checkError expects l to have no grammar.
func checkError(t *testing.T, want api.Errno, l ...parse.Line) {
	t.Helper()
	got, errno := gram.Resolve(l...)
	if errno != want || !equal(got, api.Gram{}) {
		t.Fatalf("the grammar of %.300v (%d lines) is %.300v, %d, not an error %d", l, len(l), got, errno, want)
	}
}

func TestGrammarsOfTexts(t *testing.T) {
	for s, g := range map[string]api.Gram{
		"S : ;":                               of("S", "", rule(0)),
		"S : 'a' S | ;":                       of("S", "a", rule(0, -1, 0), rule(0)),
		"S : S ;":                             of("S", "", rule(0, 0)),
		"a : 'a' a ;":                         of("a", "a", rule(0, -1, 0)),
		"S : 'b' 'a' 'b' ;":                   of("S", "b a", rule(0, -1, -2, -1)),
		"S : A ; A : S ;":                     of("S A", "", rule(0, 1), rule(1, 0)),
		"B : A ; A : ;":                       of("B A", "", rule(0, 1), rule(1)),
		"S : A B ; B: ; A : ;":                of("S B A", "", rule(0, 2, 1), rule(1), rule(2)),
		"S : | 'a' | A | 'a' A ; A : | 'a' ;": of("S A", "a", rule(0), rule(0, -1), rule(0, 1), rule(0, -1, 1), rule(1), rule(1, -1)),
		"E : T X ; X : '+' T X | ; T : 'n' | '(' E ')' ;":       of("E X T", "+ n ( )", rule(0, 2, 1), rule(1, -1, 2, 1), rule(1), rule(2, -2), rule(2, -3, 0, -4)),
		"S : 'z' A 'y' ; A : 'x' | 'y' S 'w' | 'z' 'v' ;":       of("S A", "z y x w v", rule(0, -1, 1, -2), rule(1, -3), rule(1, -2, 0, -4), rule(1, -1, -5)),
		"S : 'A' A 'S' S ; A : 'S' ;":                           of("S A", "A S", rule(0, -1, 1, -2, 0), rule(1, -2)),
		"S : s 'x' ; s : 'X' ;":                                 of("S s", "x X", rule(0, 1, -1), rule(1, -2)),
		"S : 'a' | 'b' ; A : 'a' | 'b' ; B : 'b' | 'a' | 'c' ;": of("S A B", "a b c", rule(0, -1), rule(0, -2), rule(1, -1), rule(1, -2), rule(2, -2), rule(2, -1), rule(2, -3)),
	} {
		checkLines(t, g, lines(t, s)...)
	}
}

func TestErrorsOfTexts(t *testing.T) {
	for s, errno := range map[string]api.Errno{
		"S : 'a' ; S : 'b' ;":                         api.ErrTwice,
		"S : ; A : ; S : 'b' ;":                       api.ErrTwice,
		"S : ; A : ; B : ; A : S ;":                   api.ErrTwice,
		"S : A ;":                                     api.ErrUndefined,
		"S : 'a' | 'b' A | S ;":                       api.ErrUndefined,
		"S : ; A : S B ;":                             api.ErrUndefined,
		"S : 's' s ;":                                 api.ErrUndefined,
		"S : 'A' ; B : A ;":                           api.ErrUndefined,
		"S : 'a' | 'b' | 'a' ;":                       api.ErrTwice,
		"S : | ;":                                     api.ErrTwice,
		"S : A | A ; A : ;":                           api.ErrTwice,
		"S : ; A : | 'a' S | 'a' S ;":                 api.ErrTwice,
		"S : 'a' ; A : 'a' | 'a' ;":                   api.ErrTwice,
		"S : ; A : 'b' | 'a' 'b' | ; B : A | | S | ;": api.ErrTwice,
	} {
		checkError(t, errno, lines(t, s)...)
	}
}

// Resolve names no condition on texts and on the number of lines and alternatives.
func TestGrammarsOfOddLines(t *testing.T) {
	checkLines(t, api.Gram{})
	checkLines(t, of("S", ""), line("S"))
	checkLines(t, of("S A", "", rule(0, 1)), line("S", alt("A")), line("A"))
	odd := []parse.Item{{Text: ""}, {Text: "a b"}, {Term: true, Text: ""}, {Term: true, Text: "'"}, {Term: true, Text: "a b"}, {Term: true, Text: ""}}
	g := api.Gram{Names: []string{"a b", ""}, Terms: []string{"", "'", "a b"}, Rules: []api.Rule{rule(0, 1, 0, -1, -2, -3, -1)}}
	checkLines(t, g, line("a b", odd), line(""))
	long := strings.Repeat("y", 1000)
	checkLines(t, api.Gram{Names: []string{long}, Terms: []string{long}, Rules: []api.Rule{rule(0, -1, 0)}}, line(long, alt("'"+long+"'", long)))
	checkError(t, api.ErrTwice, line(""), line(""))
	checkError(t, api.ErrUndefined, line("S", []parse.Item{{}}))
	checkError(t, api.ErrTwice, line("", nil, []parse.Item{}))
}

func TestLimitOfItems(t *testing.T) {
	for n := 60; n < 70; n++ {
		for _, word := range []string{"'a'", "S"} {
			for _, l := range [][]parse.Line{
				{line("S", slices.Repeat(alt(word), n))},
				{line("S", alt("'a'"), slices.Repeat(alt(word), n), alt())},
				{line("S", alt()), line("A", alt(), alt("S"), slices.Repeat(alt(word), n)), line("B", alt())},
			} {
				if g, errno := resolved(l...); n <= 64 && errno == api.OK {
					checkLines(t, g, l...)
				} else {
					checkError(t, api.ErrBound, l...)
				}
			}
		}
	}
}

// At its limits a bound is checked before all else, too.
func TestBoundsComeFirst(t *testing.T) {
	all := manyAlts(4096)
	for _, l := range [][]parse.Line{
		{line("S", all...), line("S", alt("'a'"))},
		{line("S", all...), line("A", alt("Nowhere"))},
		{line("S", alt("Nowhere")), line("S", all...)},
		append(manyLines("N", 256), line("N0")),
		append(manyLines("N", 255), line("A", alt("Nowhere")), line("B")),
		{line("S", alt("Nowhere")), line("S", slices.Repeat(alt("'a'"), 65))},
	} {
		checkError(t, api.ErrBound, l...)
	}
	checkError(t, api.ErrTwice, line("S", all[:4095]...), line("S", alt("'a'")))
	checkError(t, api.ErrUndefined, line("S", all[:4095]...), line("A", alt("Nowhere")))
	checkError(t, api.ErrTwice, append(manyLines("N", 255), line("N0"))...)
	checkError(t, api.ErrUndefined, append(manyLines("N", 255), line("A", alt("Nowhere")))...)
	checkError(t, api.ErrUndefined, manyTerms("S", 256), line("A", alt("Nowhere")))
}

// manyAlts are different alternatives.
func manyAlts(n int) [][]parse.Item {
	var list [][]parse.Item
	for _, right := range rights(n) {
		var alt []parse.Item
		for _, sym := range right {
			alt = append(alt, parse.Item{Term: true, Text: "ab"[-sym : 1-sym]})
		}
		list = append(list, alt)
	}
	return list
}

func TestLimitOfAlternatives(t *testing.T) {
	all := manyAlts(5000)
	for _, n := range []int{4095, 4096, 4097, 5000} {
		for _, l := range [][]parse.Line{
			{line("S", all[:n]...)},
			{line("S", alt()), line("A", all[1:n]...)},
			{line("S", all[:2000]...), line("A", all[:2000]...), line("B", all[:n-4000]...)},
			{line("S", all[:n-1]...), line("A"), line("B", alt()), line("C")},
		} {
			g, errno := gram.Resolve(l...)
			if n > 4096 {
				checkError(t, api.ErrBound, l...)
			} else if errno != api.OK || len(g.Rules) != n || len(g.Names) != len(l) {
				t.Fatalf("%d alternatives give %d rules, %d", n, len(g.Rules), errno)
			}
		}
	}
}

func manyLines(prefix string, n int) []parse.Line {
	var list []parse.Line
	for _, name := range numbered(prefix, n) {
		list = append(list, line(name, alt()))
	}
	return list
}

func TestLimitOfLines(t *testing.T) {
	for _, n := range []int{1, 2, 255, 256} {
		checkLines(t, grid(n, 0), manyLines("N", n)...)
	}
	for _, n := range []int{257, 258, 512, 4096, 5000} {
		checkError(t, api.ErrBound, manyLines("N", n)...)
		checkError(t, api.ErrBound, slices.Repeat([]parse.Line{line("S")}, n)...)
	}
}

// manyTerms is a line with different terminals, some in each alternative.
func manyTerms(name string, n int) parse.Line {
	l := line(name)
	for some := range slices.Chunk(numbered("t", n), 10) {
		var alt []parse.Item
		for _, text := range some {
			alt = append(alt, parse.Item{Term: true, Text: text}, parse.Item{Text: name})
		}
		l.Alts = append(l.Alts, alt)
	}
	return l
}

func TestLimitOfSymbols(t *testing.T) {
	for _, names := range []int{1, 2, 100, 128, 255, 256} {
		for terms := 256 - names; terms < 260-names; terms++ {
			l := append(manyLines("N", names-1), manyTerms("S", terms))
			if names+terms > 256 {
				checkError(t, api.ErrBound, l...)
				continue
			}
			g, _ := resolved(l...)
			checkLines(t, g, l...)
			if len(g.Terms) != terms {
				t.Fatalf("%d terminals, not %d", len(g.Terms), terms)
			}
		}
	}
	// The same terminals again are no more of them.
	l := []parse.Line{manyTerms("S", 254), manyTerms("A", 254)}
	if g, errno := gram.Resolve(l...); errno != api.OK || len(g.Terms) != 254 || g.Terms[253] != "t253" {
		t.Fatal(len(g.Terms), errno)
	}
	checkError(t, api.ErrBound, append(l, line("B"))...)
	checkError(t, api.ErrBound, append(l, line("B", alt("'t0'")))...)
	checkError(t, api.ErrBound, manyTerms("S", 4000))
}

// Of several errors the one that the chapter names first is returned, wherever in the lines they are.
func TestOrderOfErrors(t *testing.T) {
	faults := []struct {
		errno api.Errno
		lines []parse.Line
	}{
		{api.ErrBound, []parse.Line{line("L", alt(), slices.Repeat(alt("'a'"), 65))}},
		{api.ErrBound, []parse.Line{line("M", manyAlts(4097)...)}},
		{api.ErrBound, manyLines("N", 257)},
		{api.ErrTwice, []parse.Line{line("D", alt("'a'")), line("D", alt("'b'"))}},
		{api.ErrUndefined, []parse.Line{line("U", alt("Nowhere"))}},
		{api.ErrBound, []parse.Line{manyTerms("T", 256)}},
		{api.ErrTwice, []parse.Line{line("E", alt("'a'"), alt("'b'"), alt("'a'"))}},
	}
	for set := 1; set < 1<<len(faults); set++ {
		l := []parse.Line{line("S", alt("'a'"))}
		back := []parse.Line{line("S", alt("'b'"))}
		want := api.OK
		for i, f := range faults {
			if set>>i&1 == 1 {
				l = append(l, f.lines...)
				back = slices.Insert(back, 1, f.lines...)
				if want == api.OK {
					want = f.errno
				}
			}
		}
		checkError(t, want, l...)
		checkError(t, want, back...)
		checkError(t, want, append(back[1:len(back):len(back)], back[0])...)
	}
}

func TestResolveByTheDefinition(t *testing.T) {
	random := rand.New(rand.NewSource(142))
	texts := []string{"S", "A", "B", "a", "b", "", "' x", "x_1"}
	count := map[api.Errno]int{}
	for range 30000 {
		kinds := 2 + random.Intn(len(texts)-1)
		defined := 1 + random.Intn(kinds)
		l := make([]parse.Line, random.Intn(5))
		for i := range l {
			l[i].Name = texts[i]
			if random.Intn(10) == 0 {
				l[i].Name = texts[random.Intn(kinds)]
			}
			for range random.Intn(4) {
				var alt []parse.Item
				for range random.Intn(5) {
					item := parse.Item{Term: true, Text: texts[random.Intn(kinds)]}
					if random.Intn(2) == 0 {
						item = parse.Item{Text: texts[random.Intn(min(defined, len(l)))]}
					}
					alt = append(alt, item)
				}
				l[i].Alts = append(l[i].Alts, alt)
			}
		}
		g, errno := resolved(l...)
		count[errno]++
		if errno != api.OK {
			checkError(t, errno, l...)
		} else {
			checkLines(t, g, l...)
		}
	}
	if count[api.OK] < 5000 || count[api.ErrTwice] < 2000 || count[api.ErrUndefined] < 500 {
		t.Fatal(count)
	}
}

// Promise 14.3.

// checkLinesOf expects the lines of g to be l.
func checkLinesOf(t *testing.T, g api.Gram, l ...parse.Line) {
	t.Helper()
	if got := gram.Lines(g); !slices.EqualFunc(got, l, equalLines) {
		t.Fatalf("the lines of %.300v are %.300v, not %.300v", g, got, l)
	}
}

func TestLinesWrittenOut(t *testing.T) {
	checkLinesOf(t, of("S", "", rule(0)), line("S", alt()))
	checkLinesOf(t, of("S", "a", rule(0, -1, 0), rule(0)), line("S", alt("'a'", "S"), alt()))
	checkLinesOf(t, of("S", "a", rule(0), rule(0, -1, 0)), line("S", alt(), alt("'a'", "S")))
	checkLinesOf(t, of("S", "b a", rule(0, -2), rule(0, -1)), line("S", alt("'a'"), alt("'b'")))
	checkLinesOf(t, of("S A", "a S", rule(1), rule(0, 1, -1), rule(1, -2), rule(0, 0, 1, -2)),
		line("S", alt("A", "'a'"), alt("S", "A", "'S'")), line("A", alt(), alt("'S'")))
	checkLinesOf(t, of("C B A", "z", rule(2, 0), rule(1, 2), rule(0, 1), rule(2), rule(1), rule(0)),
		line("C", alt("B"), alt()), line("B", alt("A"), alt()), line("A", alt("C"), alt()))
	checkLinesOf(t, of("S", "unused", rule(0)), line("S", alt()))
}

func TestLinesOfInvalidGrammars(t *testing.T) {
	for _, g := range []api.Gram{{}, of("", "a"), of("S", ""), of("S S", "", rule(0), rule(1)), of("S", "", rule(0), rule(0)), of("S", "", rule(0, 1)), of("S", "", rule(0, -1)),
		of("S", "'", rule(0)), of("1", "", rule(0)), of("S", "", rule(0), rule(-1)), of("S", "", rule(0), rule(1)), grid(257, 0), grid(1, 256), of("S", "", rule(0, make([]int, 65)...))} {
		checkLinesOf(t, g)
	}
}

func TestLinesByTheDefinition(t *testing.T) {
	random := rand.New(rand.NewSource(143))
	for range 10000 {
		g := someGram(random)
		checkLinesOf(t, g, linesOf(g)...)
	}
	checkLinesOf(t, grid(256, 0), linesOf(grid(256, 0))...)
	checkLinesOf(t, grid(1, 255), linesOf(grid(1, 255))...)
	g := grid(200, 56)
	for n := range 200 {
		g.Rules = append(g.Rules, rule(n, slices.Repeat([]int{-1 - n%56, 199 - n}, 32)...))
	}
	checkLinesOf(t, g, linesOf(g)...)
}

func TestLinesOfTheMostRules(t *testing.T) {
	g := of("S A", "a")
	for i, right := range rights(2048) {
		g.Rules = append(g.Rules, rule(i%2, right...), rule(1-i%2, right...))
	}
	l := gram.Lines(g)
	if len(l) != 2 || len(l[0].Alts) != 2048 || len(l[1].Alts) != 2048 || !slices.EqualFunc(l, linesOf(g)[:2], equalLines) {
		t.Fatal("the lines of 4096 rules")
	}
}

// Promise 14.4.

func TestGrammarsOfTextsAreValid(t *testing.T) {
	random := rand.New(rand.NewSource(144))
	valid := 0
	for range 20000 {
		s := ""
		for _, name := range []string{"S", "A", "B_1"}[:1+random.Intn(3)] {
			s += name + " :"
			for range random.Intn(8) {
				s += []string{" S", " A", " B_1", " |", " |", " 'a'", " 'A'", " '" + strings.Repeat("t", 32) + "'"}[random.Intn(8)]
			}
			s += " ; "
		}
		g, errno := gram.Resolve(lines(t, s)...)
		if (errno == api.OK) != isValid(g) || gram.Valid(g) != isValid(g) {
			t.Fatalf("the grammar of %q is %v, %d, and valid: %v", s, g, errno, gram.Valid(g))
		}
		if gram.Valid(g) {
			valid++
		}
	}
	if valid < 5000 {
		t.Fatalf("only %d texts have grammars", valid)
	}
}

// inOrder tells whether rules are sorted by left side, and terminals by their first occurrence, without others.
func inOrder(g api.Gram) bool {
	var terms []int
	for _, r := range g.Rules {
		for _, sym := range r.Right {
			if sym < 0 && !slices.Contains(terms, -1-sym) {
				terms = append(terms, -1-sym)
			}
		}
	}
	return len(terms) == len(g.Terms) && slices.IsSorted(terms) && slices.IsSortedFunc(g.Rules, func(a, b api.Rule) int { return a.Left - b.Left })
}

// Resolve of the lines gives the same grammar exactly if it is in order.
func TestResolvingLinesAgain(t *testing.T) {
	random := rand.New(rand.NewSource(1442))
	again := 0
	for range 30000 {
		g := someGram(random)
		if random.Intn(2) == 0 {
			slices.SortStableFunc(g.Rules, func(a, b api.Rule) int { return a.Left - b.Left })
		}
		if !gram.Valid(g) {
			continue
		}
		h, errno := gram.Resolve(gram.Lines(g)...)
		if errno != api.OK || !gram.Valid(h) || gram.Same(g, h) != inOrder(g) {
			t.Fatalf("the grammar of the lines of %v is %v, %d", g, h, errno)
		}
		if inOrder(g) {
			again++
			checkLines(t, g, gram.Lines(g)...)
		}
	}
	if again < 1500 {
		t.Fatalf("only %d grammars are in order", again)
	}
}

func TestResolvingLargeLinesAgain(t *testing.T) {
	for _, l := range [][]parse.Line{manyLines("N", 256), {line("S", manyAlts(4096)...)}, {manyTerms("S", 255)}, {manyTerms("S", 254), manyTerms("A", 254)}, {line("S", slices.Repeat(alt("'a'"), 64), slices.Repeat(alt("S"), 64))}} {
		g, errno := gram.Resolve(l...)
		if errno != api.OK || !gram.Valid(g) {
			t.Fatalf("%.200v: %d", l, errno)
		}
		checkLines(t, g, gram.Lines(g)...)
	}
}

// Rule R3: arguments are not changed, and results are new memory.

func TestArgumentsAreNotChanged(t *testing.T) {
	random := rand.New(rand.NewSource(14))
	for range 2000 {
		g := someGram(random)
		kept := clone(g)
		gram.Valid(g)
		gram.Lines(g)
		gram.Of(g, 0)
		gram.Same(g, kept)
		if !equal(g, kept) {
			t.Fatalf("%v was changed to %v", kept, g)
		}
		l, again := linesOf(g), linesOf(g)
		gram.Resolve(l...)
		if !slices.EqualFunc(l, again, equalLines) {
			t.Fatalf("%v were changed to %v", again, l)
		}
	}
}

func TestGrammarsShareNoMemory(t *testing.T) {
	const s = "S : 'a' S 'b' | A | ; A : 'c' 'd' | S S ;"
	l := lines(t, s)
	want, _ := resolved(l...)
	got, _ := gram.Resolve(l...)
	for i := range got.Rules {
		_ = append(got.Rules[i].Right, 7, 7, 7)
	}
	_, _ = append(got.Names, "x", "y"), append(got.Terms, "x", "y")
	if !equal(got, want) {
		t.Fatalf("it is %v now, not %v", got, want)
	}
	for _, r := range got.Rules {
		clear(r.Right)
	}
	clear(got.Names)
	clear(got.Terms)
	clear(got.Rules)
	checkLines(t, want, l...)
}

func TestLinesShareNoMemory(t *testing.T) {
	g := of("S A", "a b c d", rule(0, -1, 0, -2), rule(0, 1), rule(1), rule(0), rule(1, -3, -4), rule(1, 0, 0))
	want := linesOf(g)
	got := gram.Lines(g)
	for i := range got {
		for j := range got[i].Alts {
			_ = append(got[i].Alts[j], alt("x", "y", "z")...)
		}
		_ = append(got[i].Alts, alt("x"), alt("y"))
	}
	if !slices.EqualFunc(got, want, equalLines) {
		t.Fatalf("they are %v now, not %v", got, want)
	}
	for _, l := range got {
		for _, alt := range l.Alts {
			clear(alt)
		}
		clear(l.Alts)
	}
	clear(got)
	checkLinesOf(t, g, want...)
	clear(gram.Of(g, 1))
	if !slices.Equal(gram.Of(g, 1), []int{2, 4, 5}) {
		t.Fatal(gram.Of(g, 1))
	}
}
