package canon_test

import (
	"fmt"
	"math"
	"math/rand"
	"slices"
	"strings"
	"testing"

	"repertory/api"
	"repertory/canon"
	"repertory/gram"
	"repertory/parse"
)

func rule(left int, right ...int) api.Rule { return api.Rule{Left: left, Right: right} }

// of is a grammar; its names and terminals are the words of two texts.
func of(names, terms string, rules ...api.Rule) api.Gram {
	return api.Gram{Names: strings.Fields(names), Terms: strings.Fields(terms), Rules: rules}
}

// numbered are different texts.
func numbered(prefix string, n int) []string {
	var list []string
	for i := range n {
		list = append(list, fmt.Sprint(prefix, i))
	}
	return list
}

// sized is a grammar with this many names and terminals, whose names do not ascend where there are more than ten.
func sized(names, terms int, rules ...api.Rule) api.Gram {
	return api.Gram{Names: numbered("N", names), Terms: numbered("t", terms), Rules: rules}
}

// read is the grammar of a text, as it is written.
func read(t *testing.T, s string) api.Gram {
	t.Helper()
	l, _, errno := parse.All(s)
	if errno != api.OK {
		t.Fatalf("%.300q is no grammar text", s)
	}
	g, errno := gram.Resolve(l...)
	if errno != api.OK {
		t.Fatalf("%.300q gives no grammar: %d", s, errno)
	}
	return g
}

// renumbered is a grammar whose names and terminals get other numbers, and whose rules stand in another order.
func renumbered(g api.Gram, names, terms, rules []int) api.Gram {
	h := api.Gram{Names: make([]string, len(g.Names)), Terms: make([]string, len(g.Terms)), Rules: make([]api.Rule, len(g.Rules))}
	for n, name := range g.Names {
		h.Names[names[n]] = name
	}
	for n, term := range g.Terms {
		h.Terms[terms[n]] = term
	}
	for i, r := range g.Rules {
		var right []int
		for _, sym := range r.Right {
			if sym >= 0 {
				right = append(right, names[sym])
			} else {
				right = append(right, -1-terms[-1-sym])
			}
		}
		h.Rules[rules[i]] = rule(names[r.Left], right...)
	}
	return h
}

// permuted are all lists of the numbers below n.
func permuted(n int) [][]int {
	if n == 0 {
		return [][]int{nil}
	}
	var list [][]int
	for _, p := range permuted(n - 1) {
		for at := range n {
			list = append(list, slices.Insert(slices.Clone(p), at, n-1))
		}
	}
	return list
}

// everyOrder are all grammars that differ from g only in the order of names, except for the first one, terminals and rules.
func everyOrder(g api.Gram) []api.Gram {
	var list []api.Gram
	for _, names := range permuted(len(g.Names)) {
		if names[0] != 0 {
			continue
		}
		for _, terms := range permuted(len(g.Terms)) {
			for _, rules := range permuted(len(g.Rules)) {
				list = append(list, renumbered(g, names, terms, rules))
			}
		}
	}
	return list
}

// otherOrder is a grammar that differs from g only in the order of names, except for the first one, terminals and rules.
func otherOrder(random *rand.Rand, g api.Gram) api.Gram {
	names := append([]int{0}, random.Perm(len(g.Names)-1)...)
	for i := range names[1:] {
		names[i+1]++
	}
	return renumbered(g, names, random.Perm(len(g.Terms)), random.Perm(len(g.Rules)))
}

// kind is 0 for what stands where a right side has ended, 1 for a terminal and 2 for a nonterminal.
func kind(right []int, at int) int {
	switch {
	case at == len(right):
		return 0
	case right[at] < 0:
		return 1
	}
	return 2
}

// precedes tells whether a rule precedes another one, by the definition.
func precedes(a, b api.Rule) bool {
	if a.Left != b.Left {
		return a.Left < b.Left
	}
	at := 0
	for at < len(a.Right) && at < len(b.Right) && a.Right[at] == b.Right[at] {
		at++
	}
	ka, kb := kind(a.Right, at), kind(b.Right, at)
	switch {
	case ka != kb:
		return ka < kb
	case ka == 1:
		return -1-a.Right[at] < -1-b.Right[at]
	}
	return ka == 2 && a.Right[at] < b.Right[at]
}

// before is how many elements of a list precede one.
func before[E any](list []E, e E, precedes func(a, b E) bool) int {
	n := 0
	for _, other := range list {
		if precedes(other, e) {
			n++
		}
	}
	return n
}

func lessText(a, b string) bool { return a < b }

// canonical is the canonical grammar of a valid one: everything stands behind what precedes it.
func canonical(g api.Gram) api.Gram {
	names := []int{0}
	for _, name := range g.Names[1:] {
		names = append(names, 1+before(g.Names[1:], name, lessText))
	}
	var terms, rules, still []int
	for _, term := range g.Terms {
		terms = append(terms, before(g.Terms, term, lessText))
	}
	for i := range g.Rules {
		still = append(still, i)
	}
	h := renumbered(g, names, terms, still)
	for _, r := range h.Rules {
		rules = append(rules, before(h.Rules, r, precedes))
	}
	return renumbered(g, names, terms, rules)
}

// textOf is the text of a grammar whose rules are sorted by left side.
func textOf(g api.Gram) string {
	s := ""
	for n, name := range g.Names {
		var alts []string
		for _, r := range g.Rules {
			if r.Left == n {
				alts = append(alts, ruleText(g, r))
			}
		}
		s += name + " :" + strings.Join(alts, " |") + " ;\n"
	}
	return s
}

// ruleText is the right side of a rule, in terms of names and texts.
func ruleText(g api.Gram, r api.Rule) string {
	s := ""
	for _, sym := range r.Right {
		if sym < 0 {
			s += " '" + g.Terms[-1-sym] + "'"
		} else {
			s += " " + g.Names[sym]
		}
	}
	return s
}

// equivalent tells whether two valid grammars are equivalent, by the definition.
func equivalent(a, b api.Gram) bool {
	rules := func(g api.Gram) []string {
		var list []string
		for _, r := range g.Rules {
			list = append(list, g.Names[r.Left]+" :"+ruleText(g, r))
		}
		return list
	}
	return a.Names[0] == b.Names[0] && sameSet(a.Names, b.Names) && sameSet(a.Terms, b.Terms) && sameSet(rules(a), rules(b))
}

func sameSet(a, b []string) bool {
	a, b = slices.Clone(a), slices.Clone(b)
	slices.Sort(a)
	slices.Sort(b)
	return slices.Equal(a, b)
}

// checkCanon expects all functions to tell the canonical grammar of g.
func checkCanon(t *testing.T, g, want api.Gram) {
	t.Helper()
	if !gram.Valid(g) || !gram.Valid(want) {
		t.Fatalf("not valid: %.300v or %.300v", g, want)
	}
	if got := canon.Of(g); !gram.Same(got, want) {
		t.Fatalf("Of %.300v is %.300v, not %.300v", g, got, want)
	}
	if got := canon.Is(g); got != gram.Same(g, want) {
		t.Fatalf("Is of %.300v is %t", g, got)
	}
	if got := canon.Text(g); got != textOf(want) {
		t.Fatalf("Text of %.300v is %.300q, not %.300q", g, got, textOf(want))
	}
}

// checkRead expects Read to return a grammar, or none with an error.
func checkRead(t *testing.T, s string, want api.Gram, at int, errno api.Errno) {
	t.Helper()
	g, gotAt, gotErrno := canon.Read(s)
	if !gram.Same(g, want) || gotAt != at || gotErrno != errno {
		t.Fatalf("Read of %.300q is %.300v, %d, %d, not %.300v, %d, %d", s, g, gotAt, gotErrno, want, at, errno)
	}
	if errno != api.OK && (g.Names != nil || g.Terms != nil || g.Rules != nil) {
		t.Fatalf("Read of %.300q with error %d: %#v", s, errno, g)
	}
}

// checkReadError expects Read to return no grammar and an error.
func checkReadError(t *testing.T, s string, at int, errno api.Errno) {
	t.Helper()
	checkRead(t, s, api.Gram{}, at, errno)
}

// checkInvalid expects all functions to reject g.
func checkInvalid(t *testing.T, g api.Gram) {
	t.Helper()
	of := canon.Of(g)
	if of.Names != nil || of.Terms != nil || of.Rules != nil || canon.Is(g) || canon.Text(g) != "" {
		t.Fatalf("%.300v: %v, %t, %q", g, of, canon.Is(g), canon.Text(g))
	}
}

// someGram is a grammar, mostly a valid one, whose texts come from a few letters.
func someGram(random *rand.Rand) api.Gram {
	text := func(letters string) string {
		b := []byte{letters[random.Intn(len(letters)-2)]}
		for range random.Intn(3) {
			b = append(b, letters[random.Intn(len(letters))])
		}
		return string(b)
	}
	var g api.Gram
	for range 1 + random.Intn(5) {
		g.Names = append(g.Names, text("AaZz_9"))
	}
	for range random.Intn(5) {
		g.Terms = append(g.Terms, text("a+A~ !"))
	}
	symbol := func() int { return random.Intn(len(g.Names)+len(g.Terms)) - len(g.Terms) }
	some := func(left int) {
		r := api.Rule{Left: left}
		for range random.Intn(4) {
			r.Right = append(r.Right, symbol())
		}
		g.Rules = append(g.Rules, r)
	}
	for n := range g.Names {
		some(n)
	}
	for range random.Intn(6) {
		some(random.Intn(len(g.Names)))
	}
	random.Shuffle(len(g.Rules), func(i, j int) { g.Rules[i], g.Rules[j] = g.Rules[j], g.Rules[i] })
	return g
}

// someValid is a valid grammar.
func someValid(random *rand.Rand) api.Gram {
	for {
		if g := someGram(random); gram.Valid(g) {
			return g
		}
	}
}

// Promises 16.1 and 16.2: texts and grammars written out.

func TestTextsWrittenOut(t *testing.T) {
	for s, want := range map[string]string{
		"S : S 'b' | 'a' ;":     "S : 'a' | S 'b' ;\n",
		"S:;":                   "S : ;\n",
		"S:|'a'S;":              "S : | 'a' S ;\n",
		"S : 'a' S | ;":         "S : | 'a' S ;\n",
		"S : S | 'b' | 'a' | ;": "S : | 'a' | 'b' | S ;\n",
		"# c\nS\t:\r'a' # ;\n;": "S : 'a' ;\n",

		"S : 'a' 'a' | 'a' | 'a' 'a' 'a' | ;":   "S : | 'a' | 'a' 'a' | 'a' 'a' 'a' ;\n",
		"S : S S | S | S 'a' | ;":               "S : | S | S 'a' | S S ;\n",
		"S : 'b' 'a' | 'a' 'c' | 'a' S | 'b' ;": "S : 'a' 'c' | 'a' S | 'b' | 'b' 'a' ;\n",

		"S : B A ; B : ; A : ;":             "S : B A ;\nA : ;\nB : ;\n",
		"Z : A B ; B : 'b' ; A : 'a' ;":     "Z : A B ;\nA : 'a' ;\nB : 'b' ;\n",
		"A : C B ; C : 'c' ; B : 'b' A ;":   "A : C B ;\nB : 'b' A ;\nC : 'c' ;\n",
		"M : Z M A ; Z : ; A : M ;":         "M : Z M A ;\nA : M ;\nZ : ;\n",
		"S : Z | A | S ; A : S | A ; Z : ;": "S : S | A | Z ;\nA : S | A ;\nZ : ;\n",
		"Z : A | Z | B ; B : ; A : A | Z ;": "Z : Z | A | B ;\nA : Z | A ;\nB : ;\n",

		"S : a | B | A | b ; b : ; B : ; a : ; A : ;":         "S : A | B | a | b ;\nA : ;\nB : ;\na : ;\nb : ;\n",
		"S : A_ | Aa | A1 | A | AA ; Aa:; A_:; A1:; AA:; A:;": "S : A | A1 | AA | A_ | Aa ;\nA : ;\nA1 : ;\nAA : ;\nA_ : ;\nAa : ;\n",
		"S : A2 | A10 | A1 ; A2:; A10:; A1:;":                 "S : A1 | A10 | A2 ;\nA1 : ;\nA10 : ;\nA2 : ;\n",

		"S : 'b' | 'a' | 'B' | 'A' | '1' | '_' | '~' | ' ' ;": "S : ' ' | '1' | 'A' | 'B' | '_' | 'a' | 'b' | '~' ;\n",
		"S : 'ab' | 'a' | 'aa' | 'a ' | ' a' | '  ' | ' ' ;":  "S : ' ' | '  ' | ' a' | 'a' | 'a ' | 'aa' | 'ab' ;\n",
		"S : 't2' | 't10' | 't1' ;":                           "S : 't1' | 't10' | 't2' ;\n",
		"S : 'ab' 'a' | 'a' 'ab' | 'a' 'b' | 'ab' ;":          "S : 'a' 'ab' | 'a' 'b' | 'ab' | 'ab' 'a' ;\n",
		"S : '#' | ';' | ':' | '|' ;":                         "S : '#' | ':' | ';' | '|' ;\n",
		"S : S 'S' | 'S' S | S | 'S' ;":                       "S : 'S' | 'S' S | S | S 'S' ;\n",

		"E : E '+' T | T ; T : T '*' F | F ; F : '(' E ')' | 'id' ;": "E : E '+' T | T ;\nF : '(' E ')' | 'id' ;\nT : F | T '*' F ;\n",
		"T : E E ; E : E '*' | F '+' | '-' ; F : T | 'f' ;":          "T : E E ;\nE : '-' | E '*' | F '+' ;\nF : 'f' | T ;\n",
	} {
		g, at, errno := canon.Read(s)
		if at != 0 || errno != api.OK || canon.Text(g) != want || !canon.Is(g) {
			t.Fatalf("Read of %q is %v, %d, %d, with the text %q", s, g, at, errno, canon.Text(g))
		}
		written := read(t, s)
		if canon.Text(written) != want || !gram.Same(canon.Of(written), g) {
			t.Fatalf("%q: %q, %v", s, canon.Text(written), canon.Of(written))
		}
		checkRead(t, want, g, 0, api.OK) // Since all terminals occur in rules.
	}
}

func TestGrammarsWrittenOut(t *testing.T) {
	for _, c := range []struct{ g, want api.Gram }{
		{of("S", "", rule(0)), of("S", "", rule(0))},
		{of("S", "a", rule(0)), of("S", "a", rule(0))},
		{of("S", "b a", rule(0)), of("S", "a b", rule(0))},
		{of("S", "b a", rule(0, -1, -2)), of("S", "a b", rule(0, -2, -1))},
		{of("S", "a b", rule(0, -2), rule(0, -1)), of("S", "a b", rule(0, -1), rule(0, -2))},
		{of("S", "b a", rule(0, -2), rule(0, -1)), of("S", "a b", rule(0, -1), rule(0, -2))},
		{of("S", "b a", rule(0, -1), rule(0, -2)), of("S", "a b", rule(0, -1), rule(0, -2))},
		{of("S", "c a b", rule(0, -1, 0, -2, -3)), of("S", "a b c", rule(0, -3, 0, -1, -2))},
		{of("S", "a", rule(0, 0), rule(0, -1), rule(0)), of("S", "a", rule(0), rule(0, -1), rule(0, 0))},
		{of("S B A", "", rule(0, 1, 2), rule(1), rule(2, 0)), of("S A B", "", rule(0, 2, 1), rule(1, 0), rule(2))},
		{of("B C A", "", rule(2), rule(1, 2), rule(0, 1)), of("B A C", "", rule(0, 2), rule(1), rule(2, 1))},
		{of("A B C", "", rule(2), rule(1), rule(0)), of("A B C", "", rule(0), rule(1), rule(2))},
		{of("C B A", "", rule(2), rule(1), rule(0)), of("C A B", "", rule(0), rule(1), rule(2))},
		{of("S D B C A", "", rule(0, 1, 2, 3, 4), rule(1), rule(2), rule(3), rule(4, 1)),
			of("S A B C D", "", rule(0, 4, 2, 3, 1), rule(1, 4), rule(2), rule(3), rule(4))},
		{of("S B A", "y x", rule(0, 1), rule(0, 2), rule(0, -1), rule(0, -2), rule(1, -1), rule(2, -2)),
			of("S A B", "x y", rule(0, -1), rule(0, -2), rule(0, 1), rule(0, 2), rule(1, -1), rule(2, -2))},
	} {
		checkCanon(t, c.g, c.want)
		checkCanon(t, c.want, c.want)
	}
	if canon.Is(of("S", "a b", rule(0, -2), rule(0, -1))) || canon.Is(of("S", "b a", rule(0))) || canon.Is(of("S B A", "", rule(0), rule(1), rule(2))) {
		t.Fatal("canonical")
	}
}

// All right sides of this list are in ascending order.
func TestOrderOfRightSides(t *testing.T) {
	rights := [][]int{
		{}, {-1}, {-1, -1}, {-1, -1, -1}, {-1, -1, 2}, {-1, -2}, {-1, -3}, {-1, 0}, {-1, 0, -3}, {-1, 0, 0}, {-1, 1}, {-1, 2},
		{-2}, {-2, -1}, {-2, 2}, {-3}, {-3, -1}, {-3, -3, -3}, {-3, 2, 2},
		{0}, {0, -1}, {0, -3}, {0, 0}, {0, 0, -1}, {0, 0, -2}, {0, 0, 1}, {0, 2}, {1}, {1, -1}, {1, 1}, {2}, {2, -3}, {2, 2}, {2, 2, 2},
	}
	for left := range 3 {
		g := of("S A B", "a b c")
		for i, right := range rights {
			g.Rules = append(g.Rules, rule(left, right...))
			for _, other := range rights[:i] {
				pair := []api.Rule{rule(left, other...), rule(left, right...)}
				for n := range 3 {
					if n != left {
						pair = append(pair, rule(n, 0))
					}
				}
				slices.SortStableFunc(pair, func(a, b api.Rule) int { return a.Left - b.Left })
				want := of("S A B", "a b c", pair...)
				for _, order := range permuted(len(pair)) {
					checkCanon(t, renumbered(want, []int{0, 1, 2}, []int{0, 1, 2}, order), want)
				}
			}
		}
		for n := range 3 {
			if n != left {
				g.Rules = append(g.Rules, rule(n))
			}
		}
		slices.SortStableFunc(g.Rules, func(a, b api.Rule) int { return a.Left - b.Left })
		checkCanon(t, g, g)
		random := rand.New(rand.NewSource(161))
		for range 50 {
			checkCanon(t, otherOrder(random, g), g)
		}
	}
}

// Promise 16.1: every order, compared with the definition.

func TestEveryOrder(t *testing.T) {
	for _, g := range []api.Gram{
		of("S", "", rule(0)),
		of("S", "a b c", rule(0)),
		of("S", "a b", rule(0), rule(0, -1), rule(0, -2), rule(0, 0)),
		of("S A", "a b", rule(0, -1, -2), rule(0, -2, -1), rule(1, 0), rule(1, 1)),
		of("A S", "a b", rule(0, -1), rule(0, 0), rule(0, 1), rule(1)),
		of("B A C", "x", rule(0, 1), rule(0, 2), rule(1, -1), rule(2, -1), rule(2, 0)),
		of("S A B", "x y", rule(0, 1, 2), rule(0, 2, 1), rule(1, -1, -2), rule(2, -2), rule(2)),
		of("S A B C D", "", rule(0, 1, 2, 3, 4), rule(1, 2), rule(2, 3), rule(3, 4), rule(4, 1)),
		of("D A B C E", "", rule(0, 4), rule(1), rule(2), rule(3), rule(4, 0)),
		of("S", "a b c d", rule(0, -1), rule(0, -2, -4), rule(0, -3), rule(0, -4, -1)),
	} {
		want := canonical(g)
		canonicals := 0
		for _, h := range everyOrder(g) {
			checkCanon(t, h, want)
			if canon.Is(h) {
				canonicals++
			}
		}
		if canonicals != 1 {
			t.Fatalf("%d orders of %v are canonical", canonicals, g)
		}
	}
}

func TestSomeGrammarsByTheDefinition(t *testing.T) {
	random := rand.New(rand.NewSource(162))
	valid, is := 0, 0
	for range 20000 {
		g := someGram(random)
		if !gram.Valid(g) {
			checkInvalid(t, g)
			continue
		}
		valid++
		want := canonical(g)
		checkCanon(t, g, want)
		checkCanon(t, want, want)
		for range 3 {
			checkCanon(t, otherOrder(random, g), want)
		}
		if canon.Is(g) {
			is++
		}
	}
	if valid < 5000 || valid > 19000 || is < 200 || is > valid/2 {
		t.Fatal(valid, is)
	}
}

// Each single change of the order of a canonical grammar makes one that is not canonical.
func TestGrammarsThatAreAlmostCanonical(t *testing.T) {
	random := rand.New(rand.NewSource(163))
	for range 1000 {
		g := someValid(random)
		g = canonical(g)
		swapped := func(n, i int) []int {
			list := make([]int, n)
			for at := range list {
				list[at] = at
			}
			if i >= 0 {
				list[i], list[i+1] = i+1, i
			}
			return list
		}
		still := func(n int) []int { return swapped(n, -1) }
		for i := range len(g.Rules) - 1 {
			checkCanon(t, renumbered(g, still(len(g.Names)), still(len(g.Terms)), swapped(len(g.Rules), i)), g)
		}
		for i := range max(0, len(g.Terms)-1) {
			checkCanon(t, renumbered(g, still(len(g.Names)), swapped(len(g.Terms), i), still(len(g.Rules))), g)
		}
		for i := range len(g.Names) - 1 {
			h := renumbered(g, swapped(len(g.Names), i), still(len(g.Terms)), still(len(g.Rules)))
			checkCanon(t, h, canonical(h))
			if i > 0 && canon.Is(h) {
				t.Fatalf("%v is canonical", h)
			}
		}
	}
}

// Promise 16.1: the limits, and all bytes.

// checkOrders expects that other orders of a canonical grammar have it as the canonical one.
func checkOrders(t *testing.T, g api.Gram) {
	t.Helper()
	checkCanon(t, g, g)
	random := rand.New(rand.NewSource(164))
	for range 5 {
		checkCanon(t, otherOrder(random, g), g)
	}
	back := func(n int) []int {
		var list []int
		for i := range n {
			list = append(list, n-1-i)
		}
		return list
	}
	names := back(len(g.Names))
	names = append(names[len(names)-1:], names[:len(names)-1]...)
	checkCanon(t, renumbered(g, names, back(len(g.Terms)), back(len(g.Rules))), g)
}

const (
	nameBytes = "0123456789ABCDEFGHIJKLMNOPQRSTUVWXYZ_abcdefghijklmnopqrstuvwxyz"
	termBytes = " !\"#$%&()*+,-./0123456789:;<=>?@ABCDEFGHIJKLMNOPQRSTUVWXYZ[]^_`abcdefghijklmnopqrstuvwxyz{|}~"
)

func TestOrderOfAllBytes(t *testing.T) {
	for _, before := range []string{"", "A", "z_", strings.Repeat("N", 31)} {
		g := api.Gram{Names: []string{"Start"}, Rules: []api.Rule{rule(0)}}
		for i := range len(nameBytes) {
			if before == "" && (nameBytes[i] <= '9' || nameBytes[i] == '_') {
				continue
			}
			g.Rules = append(g.Rules, rule(len(g.Names), len(g.Names)))
			g.Names = append(g.Names, before+nameBytes[i:i+1])
		}
		checkOrders(t, g)
	}
	for _, before := range []string{"", " ", "~", strings.Repeat("t", 31)} {
		g := api.Gram{Names: []string{"S"}}
		for i := range len(termBytes) {
			g.Rules = append(g.Rules, rule(0, -1-i))
			g.Terms = append(g.Terms, before+termBytes[i:i+1])
		}
		checkOrders(t, g)
	}
}

// Texts of all lengths, each of which is a prefix of the next one.
func TestPrefixesFirst(t *testing.T) {
	g := api.Gram{Names: []string{"a"}, Rules: []api.Rule{rule(0, 0)}}
	for n := range 32 {
		g.Rules = append(g.Rules, rule(len(g.Names), len(g.Names)))
		g.Names = append(g.Names, strings.Repeat("Z", n+1))
		g.Terms = append(g.Terms, strings.Repeat(" ", n+1))
	}
	checkOrders(t, g)
	g = of("S", "a b")
	for n := range 65 {
		g.Rules = append(g.Rules, rule(0, slices.Repeat([]int{-1}, n)...))
	}
	checkOrders(t, g)
	g.Rules = nil
	for n := range 65 {
		g.Rules = append(g.Rules, rule(0, slices.Repeat([]int{0}, n)...))
	}
	checkOrders(t, g)
}

// Longer right sides that begin with what follows in the order precede nevertheless.
func TestLengthComesLast(t *testing.T) {
	g := of("S", "a b c")
	for _, first := range []int{-1, -2, -3, 0} {
		for n := range 63 {
			g.Rules = append(g.Rules, rule(0, append([]int{first}, slices.Repeat([]int{-2}, n)...)...))
		}
		g.Rules = append(g.Rules, rule(0, append([]int{first}, slices.Repeat([]int{-3}, 63)...)...), rule(0, first, 0))
	}
	checkOrders(t, g)
}

// Right sides of 64 symbols that differ only at one place, at each.
func TestEachPlaceOfARightSide(t *testing.T) {
	for at := range 64 {
		g := of("S A", "a b")
		for _, sym := range []int{-1, -2, 0, 1} {
			right := slices.Repeat([]int{1, -2}, 32)
			right[at] = sym
			g.Rules = append(g.Rules, rule(0, right...))
		}
		g.Rules = append(g.Rules, rule(1))
		checkOrders(t, g)
		// What differs first decides, whatever follows.
		for i := range 4 {
			for after := at + 1; after < 64; after++ {
				g.Rules[i].Right[after] = []int{1, 0, -2, -1}[i]
			}
		}
		checkOrders(t, g)
	}
}

func TestTheMostSymbols(t *testing.T) {
	for _, names := range []int{1, 2, 127, 128, 129, 255, 256} {
		g := sized(names, 256-names)
		for n := range names {
			g.Rules = append(g.Rules, rule(n, n), rule(0, n, n))
		}
		for n := range 256 - names {
			g.Rules = append(g.Rules, rule(n%names, -1-n))
		}
		checkOrders(t, canonical(g))
		checkCanon(t, g, canonical(g))
		checkInvalid(t, api.Gram{Names: g.Names, Terms: append(g.Terms, "more"), Rules: g.Rules})
		checkInvalid(t, api.Gram{Names: append(g.Names, "More"), Terms: g.Terms, Rules: append(g.Rules, rule(names))})
	}
}

// 4096 rules of 64 symbols, which differ from the 53rd one on.
func TestTheMostRules(t *testing.T) {
	g := of("S A", "a b", rule(1))
	for i := range 4095 {
		right := slices.Repeat([]int{0, -1, -2, 1}, 16)
		for bit := range 12 {
			if i>>(11-bit)&1 == 0 {
				right[52+bit] = -1 - bit%2
			} else {
				right[52+bit] = bit % 2
			}
		}
		g.Rules = append(g.Rules, rule(0, right...))
	}
	if !gram.Valid(g) {
		t.Fatal("not valid")
	}
	slices.SortFunc(g.Rules, func(a, b api.Rule) int {
		if precedes(a, b) {
			return -1
		}
		return 1
	})
	checkOrders(t, g)
	checkInvalid(t, api.Gram{Names: g.Names, Terms: g.Terms, Rules: append(g.Rules, rule(1, 0))})
}

func TestTheLongestTexts(t *testing.T) {
	for _, more := range []int{0, 1} {
		n, m := strings.Repeat("n", 31+more), strings.Repeat("-", 31+more)
		for _, g := range []api.Gram{
			of("S "+n+"0 "+n+"1", "a", rule(0, 1, 2, -1), rule(1), rule(2)),
			of("S", m+"0 "+m+"1", rule(0, -1), rule(0, -2)),
			of("S", "a", rule(0), rule(0, slices.Repeat([]int{-1}, 63)...), rule(0, slices.Repeat([]int{-1}, 64+more)...)),
		} {
			if more == 1 {
				checkInvalid(t, g)
			} else {
				checkOrders(t, g)
			}
		}
	}
}

// Promise 16.1: invalid grammars.

func TestInvalidGrammars(t *testing.T) {
	for _, g := range []api.Gram{
		{},
		{Terms: []string{"a"}},
		{Rules: []api.Rule{{}}},
		of("", "a", rule(0, -1)),
		of("S", "a"),
		of("S A", "a", rule(0, -1)),
		of("S A", "a", rule(0, -1, 1)),
		of("S S", "a", rule(0, 1), rule(1, -1)),
		of("S A A", "a", rule(0, 1), rule(1, -1), rule(2)),
		of("S", "a a", rule(0, -1, -2)),
		of("S", "a", rule(0, -1), rule(0, -1)),
		of("S", "a", rule(0), rule(0, -1), rule(0)),
		of("S", "", rule(0), rule(0)),
		of("S", "a", rule(0, -1), rule(1, -1)),
		of("S", "a", rule(0, -1), rule(-1, -1)),
		of("S", "a", rule(0, -1), rule(math.MaxInt)),
		of("S", "a", rule(0, -1), rule(math.MinInt)),
		of("S", "a", rule(0, -2)),
		of("S", "a", rule(0, -1, 1)),
		of("S", "a", rule(0, -1), rule(0, math.MaxInt)),
		of("S", "a", rule(0, -1), rule(0, math.MinInt)),
		of("S", "a", rule(0, -1), rule(0, 256)),
		of("S", "a", rule(0, -1), rule(0, -257)),
		of("1", "a", rule(0, -1)),
		of("S", "'", rule(0, -1)),
		of("S", "\\", rule(0, -1)),
		of("S", "\x7f", rule(0, -1)),
		{Names: []string{""}, Rules: []api.Rule{{}}},
		{Names: []string{"S"}, Terms: []string{""}, Rules: []api.Rule{rule(0, -1)}},
	} {
		checkInvalid(t, g)
	}
}

// Promise 16.2: errors.

func TestReadErrors(t *testing.T) {
	name, term := strings.Repeat("n", 33), "'"+strings.Repeat("t", 33)+"'"
	for _, c := range []struct {
		s     string
		at    int
		errno api.Errno
	}{
		{"S : $", 4, api.ErrText},
		{"$", 0, api.ErrText},
		{"S : 'a", 4, api.ErrText},
		{"S : 'a\\' ;", 4, api.ErrText},
		{"S : '' ;", 4, api.ErrText},
		{"S : 'a' ;\x00", 9, api.ErrText},
		{"S : " + name + " ;", 4, api.ErrBound},
		{"S : " + term + " ;", 4, api.ErrBound},
		{name, 0, api.ErrBound},
		{"", 0, api.ErrSyntax},
		{" # S : ;", 8, api.ErrSyntax},
		{"S", 1, api.ErrSyntax},
		{"S :", 3, api.ErrSyntax},
		{"S : 'a'", 7, api.ErrSyntax},
		{"S : 'a' ; A", 11, api.ErrSyntax},
		{"S : :", 4, api.ErrSyntax},
		{"S ;", 2, api.ErrSyntax},
		{"S : ; ;", 6, api.ErrSyntax},
		{"'a' : S ;", 0, api.ErrSyntax},
		{"S : A ;", 0, api.ErrUndefined},
		{"S : 'a' ; A : B ;", 0, api.ErrUndefined},
		{"S : s ;", 0, api.ErrUndefined},
		{"S : ; S : 'a' ;", 0, api.ErrTwice},
		{"S : 'a' | 'a' ;", 0, api.ErrTwice},
		{"S : | ;", 0, api.ErrTwice},
		{"S : A ; A : 'a' S | S | 'a' S ;", 0, api.ErrTwice},

		// The error of parse.All is the first one, and within each the first one of its chapter.
		{"S : A ; $", 8, api.ErrText},
		{"S : : $", 6, api.ErrText},
		{"S : | A ; S : | A", 17, api.ErrSyntax},
		{"S : 'a' | 'a' ; :", 16, api.ErrSyntax},
		{"S : A ; S : ;", 0, api.ErrTwice},
		{"S : A | 'a' | 'a' ;", 0, api.ErrUndefined},
		{"S : | ; A : B ;", 0, api.ErrUndefined},
		{"S :" + strings.Repeat(" A", 65) + " ;", 0, api.ErrBound},
		{"S :" + strings.Repeat(" S", 65) + " ; S : ;", 0, api.ErrBound},
	} {
		checkReadError(t, c.s, c.at, c.errno)
	}
}

// resolved is what Read returns, by the lower layers and the definition.
func resolved(s string) (api.Gram, int, api.Errno) {
	l, at, errno := parse.All(s)
	if errno != api.OK {
		return api.Gram{}, at, errno
	}
	g, errno := gram.Resolve(l...)
	if errno != api.OK {
		return api.Gram{}, 0, errno
	}
	return canonical(g), 0, api.OK
}

// checkText expects Read to return what the lower layers and the definition give, and counts errors.
func checkText(t *testing.T, s string, count map[api.Errno]int) {
	t.Helper()
	want, at, errno := resolved(s)
	checkRead(t, s, want, at, errno)
	count[errno]++
}

func TestBeginningsOfTexts(t *testing.T) {
	const s = "S : B 'x' S | 'y' A | ; # rules\nB : 'x' | S 'y' ; A : B A | 'x' B ; C : ;"
	count := map[api.Errno]int{}
	for n := range len(s) + 1 {
		checkText(t, s[:n], count)
	}
	if count[api.OK] < 2 || count[api.ErrSyntax] < 20 || count[api.ErrText] < 5 || count[api.ErrUndefined] < 5 {
		t.Fatal(count)
	}
}

func TestSomeTexts(t *testing.T) {
	random := rand.New(rand.NewSource(165))
	count := map[api.Errno]int{}
	parts := []string{"S", "A", "B", "'a'", "'b'", " ", "|", "|", ";", ":", "; A :", "; B :", "$"}
	for range 40000 {
		s := "S :"
		for range random.Intn(12) {
			s += " " + parts[random.Intn(len(parts)-random.Intn(2))]
		}
		for _, text := range []string{s, s + " ;", s + " ; A : 'a' ;", s + " ; A : ; B : A ;"} {
			checkText(t, text, count)
		}
	}
	for _, errno := range []api.Errno{api.OK, api.ErrText, api.ErrSyntax, api.ErrTwice, api.ErrUndefined} {
		if count[errno] < 1000 {
			t.Fatal(count)
		}
	}
}

// Promise 16.2: the limits of texts and grammars.

// listed are the texts of many rules without terminals, of many alternatives, and so on.
func listed(n int, text func(i int) string) string {
	var b strings.Builder
	for i := range n {
		b.WriteString(text(i))
	}
	return b.String()
}

func TestLimitsOfTexts(t *testing.T) {
	for _, c := range []struct {
		most  int
		text  func(n int) string
		at    int
		errno api.Errno
	}{
		{65536, func(n int) string { return "S : 'b' | 'a' ;" + strings.Repeat(" ", n-15) }, 0, api.ErrBound},
		{32, func(n int) string { return "S:;" + strings.Repeat("n", n) + ":S|;" }, 3, api.ErrBound},
		{32, func(n int) string { return "S:'b'|'" + strings.Repeat("a", n) + "';" }, 6, api.ErrBound},
		{64, func(n int) string { return "S:S|'b'" + strings.Repeat(" 'a'", n-1) + ";" }, 0, api.ErrBound},
		{256, func(n int) string { return listed(n, func(i int) string { return fmt.Sprintf("N%d:N%d|;", i, i) }) }, 0, api.ErrBound},
		{255, func(n int) string {
			return "S:" + listed(n, func(i int) string { return fmt.Sprintf("'%d'|", i) }) + ";"
		}, 0, api.ErrBound},
		{128, func(n int) string {
			return listed(n, func(i int) string { return fmt.Sprintf("N%d:'b%d'N%d|'a%d';", i, i/2, i, i/2) })
		}, 0, api.ErrBound},
		{4096, func(n int) string { return "S:" + listed(n-1, func(i int) string { return short(i) + "|" }) + ";" }, 0, api.ErrBound},
	} {
		count := map[api.Errno]int{}
		checkText(t, c.text(c.most), count)
		checkText(t, c.text(c.most-1), count)
		if count[api.OK] != 2 {
			t.Fatalf("%.300q: %v", c.text(c.most), count)
		}
		checkReadError(t, c.text(c.most+1), c.at, c.errno)
	}
}

// short is one of many different alternatives, so short that a text can contain 4096 of them.
func short(i int) string {
	s := ""
	for i++; i > 0; i = (i - 1) / 6 {
		s += []string{"S ", "'a'", "'b'", "'c'", "'d'", "'e'"}[(i-1)%6]
	}
	return s
}

// Promise 16.3.

// smallGrammars are all grammars of one or two of these names, up to one terminal, and few rules.
func smallGrammars() []api.Gram {
	var list []api.Gram
	add := func(g api.Gram) {
		if gram.Valid(g) {
			list = append(list, g)
		}
	}
	for _, terms := range []string{"", "x", "y", "x y", "y x"} {
		for _, names := range []string{"S", "A", "S A", "A S"} {
			g := of(names, terms)
			rights := [][]int{nil}
			for sym := -len(g.Terms); sym < len(g.Names); sym++ {
				rights = append(rights, []int{sym})
			}
			var all []api.Rule
			for n := range g.Names {
				for _, right := range rights {
					all = append(all, rule(n, right...))
				}
			}
			for _, one := range all {
				add(api.Gram{Names: g.Names, Terms: g.Terms, Rules: []api.Rule{one}})
				for _, two := range all {
					add(api.Gram{Names: g.Names, Terms: g.Terms, Rules: []api.Rule{one, two}})
				}
			}
		}
	}
	return list
}

func TestEquivalentGrammars(t *testing.T) {
	list := smallGrammars()
	var canons []api.Gram
	var texts []string
	for _, g := range list {
		canons = append(canons, canon.Of(g))
		texts = append(texts, canon.Text(g))
	}
	count := map[bool]int{}
	for i, g := range list {
		if !equivalent(g, canons[i]) || !canon.Is(canons[i]) || !gram.Same(canon.Of(canons[i]), canons[i]) {
			t.Fatalf("%v has the canonical grammar %v", g, canons[i])
		}
		for j, h := range list[:i] {
			want := equivalent(g, h)
			if gram.Same(canons[i], canons[j]) != want || want && texts[i] != texts[j] {
				t.Fatalf("%v and %v: %v, %v; %q, %q", g, h, canons[i], canons[j], texts[i], texts[j])
			}
			if sameSet(g.Terms, h.Terms) && (texts[i] == texts[j]) != want {
				t.Fatalf("%v and %v: %q, %q", g, h, texts[i], texts[j])
			}
			count[want]++
		}
	}
	if count[true] < 200 || count[false] < 10000 {
		t.Fatal(count)
	}
}

// Grammars that differ little from equivalent ones are not equivalent.
func TestGrammarsThatAreNotEquivalent(t *testing.T) {
	random := rand.New(rand.NewSource(166))
	count := map[bool]int{}
	for range 20000 {
		g := someValid(random)
		h := otherOrder(random, g)
		r := random.Intn(len(h.Rules))
		switch random.Intn(5) {
		case 0:
			h.Names[0], h.Names[len(h.Names)-1] = h.Names[len(h.Names)-1], h.Names[0]
		case 1:
			h.Names[random.Intn(len(h.Names))] += "A"
		case 2:
			h.Terms = append(h.Terms, "!")
		case 3:
			slices.Reverse(h.Rules[r].Right)
		case 4:
			h.Rules = append(h.Rules, rule(h.Rules[r].Left, append(slices.Clone(h.Rules[r].Right), 0)...))
		}
		if !gram.Valid(h) {
			continue
		}
		want := equivalent(g, h)
		if gram.Same(canon.Of(g), canon.Of(h)) != want {
			t.Fatalf("%v and %v: %v, %v", g, h, canon.Of(g), canon.Of(h))
		}
		if same := canon.Text(g) == canon.Text(h); sameSet(g.Terms, h.Terms) && same != want {
			t.Fatalf("%v and %v: %q, %q", g, h, canon.Text(g), canon.Text(h))
		}
		count[want]++
	}
	if count[true] < 1000 || count[false] < 3000 {
		t.Fatal(count)
	}
}

func TestReadOfCanonicalTexts(t *testing.T) {
	random := rand.New(rand.NewSource(167))
	count := map[bool]int{}
	for range 20000 {
		g := someValid(random)
		used := map[int]bool{}
		for _, r := range g.Rules {
			for _, sym := range r.Right {
				used[sym] = true
			}
		}
		want, all := canon.Of(g), true
		for n := range g.Terms {
			all = all && used[-1-n]
		}
		if !all {
			// The text does not contain the others: it is that of a grammar without them.
			h, _, _ := canon.Read(canon.Text(g))
			if gram.Same(h, want) || canon.Text(h) != canon.Text(g) || len(h.Terms) >= len(g.Terms) {
				t.Fatalf("%v: %v", g, h)
			}
		} else {
			checkRead(t, canon.Text(g), want, 0, api.OK)
		}
		count[all]++
	}
	if count[true] < 2000 || count[false] < 2000 {
		t.Fatal(count)
	}
}

// manyLong is a grammar with this many rules, in canonical order, of 64 symbols each.
func manyLong(names, terms string, rules int) api.Gram {
	g := of(names, terms)
	for i := range rules {
		right := slices.Repeat([]int{-1}, 64)
		for bit := range 12 {
			right[bit] = -1 - i>>(11-bit)&1
		}
		g.Rules = append(g.Rules, rule(0, right...))
	}
	return g
}

// Canonical texts can be longer than a text that is read may be.
func TestLongCanonicalTexts(t *testing.T) {
	random := rand.New(rand.NewSource(168))
	for _, c := range []struct {
		g      api.Gram
		length int
	}{
		{manyLong("S", "a b", 254), 65536},
		{manyLong("St", "a b", 254), 65537},
		{manyLong("S", strings.Repeat("a", 32)+" "+strings.Repeat("b", 32), 4096), 4096*(64*35+2) + 4},
	} {
		text := canon.Text(otherOrder(random, c.g))
		if len(text) != c.length || text != textOf(c.g) || !canon.Is(c.g) {
			t.Fatalf("%d bytes instead of %d: %.300q", len(text), c.length, text)
		}
		if c.length <= 65536 {
			checkRead(t, text, c.g, 0, api.OK)
		} else {
			checkReadError(t, text, 0, api.ErrBound)
		}
		// With fewer separators, it may be short enough.
		compact := strings.ReplaceAll(text, " ", "")
		if len(compact) <= 65536 {
			checkRead(t, compact, c.g, 0, api.OK)
		}
	}
}

// Rules R3 and R4: arguments are not changed, results are new memory, and the same each time.

func clone(g api.Gram) api.Gram {
	h := api.Gram{Names: slices.Clone(g.Names), Terms: slices.Clone(g.Terms)}
	for _, r := range g.Rules {
		h.Rules = append(h.Rules, rule(r.Left, slices.Clone(r.Right)...))
	}
	return h
}

func TestArgumentsAreNotChanged(t *testing.T) {
	random := rand.New(rand.NewSource(169))
	for range 3000 {
		g := someGram(random)
		kept := clone(g)
		for range 2 {
			canon.Of(g)
			canon.Is(g)
			canon.Text(g)
			if !gram.Same(g, kept) {
				t.Fatalf("%v was changed to %v", kept, g)
			}
		}
	}
}

// scribble writes to all memory of a grammar, also behind the ends of its lists.
func scribble(g api.Gram) {
	for _, r := range g.Rules {
		right := append(r.Right, 77, 78)
		for i := range right {
			right[i] = 99
		}
	}
	rules := append(g.Rules, api.Rule{}, api.Rule{})
	for i := range rules {
		rules[i] = rule(98, 97)
	}
	for _, texts := range [][]string{append(g.Names, "", ""), append(g.Terms, "", "")} {
		for i := range texts {
			texts[i] = "scribble"
		}
	}
}

func TestResultsAreNewMemory(t *testing.T) {
	const s = "S : A 'b' B | 'a' | 'a' A S ; B : 'b' | ; A : S B"
	for _, text := range []string{s + " ;", "S : 'a' ;", "S : ;", s + " | 'c' 'c' 'c' 'c' 'c' 'c' ;"} {
		g := read(t, text)
		kept, want := clone(g), canonical(g)
		for range 3 {
			first, second := canon.Of(g), canon.Of(want)
			third, _, _ := canon.Read(text)
			for _, h := range []api.Gram{first, second, third} {
				scribble(h)
			}
			if !gram.Same(g, kept) {
				t.Fatalf("%v was changed to %v", kept, g)
			}
			checkCanon(t, g, want)
			checkCanon(t, want, want)
			checkRead(t, text, want, 0, api.OK)
		}
	}
}

// No two lists of one answer share memory: appending to one leaves the others.
func TestListsDoNotShareMemory(t *testing.T) {
	random := rand.New(rand.NewSource(170))
	for range 2000 {
		g := someValid(random)
		want := canonical(g)
		got := canon.Of(g)
		for i := range got.Rules {
			right := append(got.Rules[i].Right, 5, 6, 7)
			for at := range right {
				right[at] = -99
			}
			copy(got.Rules[i].Right, want.Rules[i].Right)
			if !gram.Same(got, want) {
				t.Fatalf("rule %d of %v: %v", i, want, got)
			}
		}
		_, _ = append(got.Names, "more"), append(got.Terms, "more")
		if !gram.Same(got, want) {
			t.Fatalf("%v: %v", want, got)
		}
	}
}
