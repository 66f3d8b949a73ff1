package word_test

import (
	"fmt"
	"math"
	"math/rand"
	"slices"
	"strings"
	"testing"

	"repertory/api"
	"repertory/word"
)

// extremes are numbers far outside of every range.
func extremes() []int {
	return []int{math.MinInt, math.MinInt + 1, math.MinInt32, -65536, -4096, -256, math.MaxInt32, math.MaxInt - 1, math.MaxInt}
}

// numbers are those from one to another.
func numbers(from, to int) []int {
	var list []int
	for n := from; n <= to; n++ {
		list = append(list, n)
	}
	return list
}

// counting is a word whose bytes are 0, 1, 2, and so on, all of them from 256 bytes on.
func counting(n int) string {
	b := make([]byte, n)
	for i := range b {
		b[i] = byte(i)
	}
	return string(b)
}

// someWord is a word of n bytes, each one below the number of terminals.
func someWord(random *rand.Rand, n, terms int) string {
	b := make([]byte, n)
	for i := range b {
		b[i] = byte(random.Intn(terms))
	}
	return string(b)
}

// someWords are words of many lengths, the same ones each time.
func someWords() []string {
	random := rand.New(rand.NewSource(18))
	list := []string{"", "\x00", "\x00\x00", "\xff", "\xff\xff\xff", "a", "abc", "é", "a\u0301é", "\xc3", "\xed\xa0\x80", counting(256), counting(300)}
	for n := range 20 {
		list = append(list, someWord(random, n, 256), someWord(random, n, 2))
	}
	return list
}

// cut is w cut to k, by the definition, byte by byte.
func cut(w string, k int) string {
	var b []byte
	for i := 0; i < len(w) && i < k; i++ {
		b = append(b, w[i])
	}
	return string(b)
}

// valid tells whether a word is, by the definition.
func valid(w string, terms, k int) bool {
	return len(w) <= k && !slices.ContainsFunc([]byte(w), func(c byte) bool { return int(c) >= terms })
}

// checkCut expects w to be cut to a word, alone and as the only part.
func checkCut(t *testing.T, w string, k int, want string) {
	t.Helper()
	if got := word.Cut(w, k); got != want {
		t.Fatalf("%.300q cut to %d is %.300q, not %.300q", w, k, got, want)
	}
	checkCat(t, want, k, w)
}

// checkCat expects parts to give a word.
func checkCat(t *testing.T, want string, k int, parts ...string) {
	t.Helper()
	if got := word.Cat(k, parts...); got != want {
		t.Fatalf("%.300q cut to %d are %.300q, not %.300q", parts, k, got, want)
	}
}

// checkValid expects a word to be valid or not.
func checkValid(t *testing.T, w string, terms, k int, want bool) {
	t.Helper()
	if got := word.Valid(w, terms, k); got != want {
		t.Fatalf("that %.300q is valid for %d terminals and %d is %t", w, terms, k, got)
	}
}

// checkNone expects that there is no list of all words.
func checkNone(t *testing.T, terms, k int) {
	t.Helper()
	if got := word.All(terms, k); len(got) != 0 {
		t.Fatalf("there are %d words of %d terminals with %d", len(got), terms, k)
	}
}

// checkText expects a word to have a text.
func checkText(t *testing.T, w string, terms []string, want string) {
	t.Helper()
	if got := word.Text(w, terms); got != want {
		t.Fatalf("the text of %.300q with %.300q is %.300q, not %.300q", w, terms, got, want)
	}
}

// Promise 18.1: Cut.

func TestCutsWrittenOut(t *testing.T) {
	for _, c := range []struct {
		w    string
		k    int
		want string
	}{
		{"abc", 0, ""},
		{"abc", 1, "a"},
		{"abc", 2, "ab"},
		{"abc", 3, "abc"},
		{"abc", 4, "abc"},
		{"abc", 9, "abc"},
		{"abc", -1, ""},
		{"abc", -2, ""},
		{"abc", -3, ""},
		{"abcdefg", 4, "abcd"},
		{"abcdefg", 5, "abcde"},
		{"abcdefg", 6, "abcdef"},
		{"", 0, ""},
		{"", 1, ""},
		{"", 4, ""},
		{"", -1, ""},
		{"a", 0, ""},
		{"a", 1, "a"},
		{"aaaa", 2, "aa"},
		{"\x00", 1, "\x00"},
		{"\x00\x00\x00", 2, "\x00\x00"},
		{"\x00\x01\x02", 2, "\x00\x01"},
		{"\xff\xfe\xfd", 2, "\xff\xfe"},
		{"é", 1, "\xc3"},
		{"aé", 2, "a\xc3"},
		{"éa", 2, "é"},
		{"  a ", 3, "  a"},
	} {
		checkCut(t, c.w, c.k, c.want)
	}
}

func TestCutByTheDefinition(t *testing.T) {
	for _, w := range someWords() {
		for _, k := range append(numbers(-6, 310), extremes()...) {
			checkCut(t, w, k, cut(w, k))
		}
	}
}

func TestLongWordsCut(t *testing.T) {
	w := someWord(rand.New(rand.NewSource(181)), api.MaxFile+1, 256)
	for _, k := range []int{api.MaxK, api.MaxK + 1, api.MaxSyms, api.MaxSyms + 1, api.MaxWords, api.MaxWords + 1,
		api.MaxText - 1, api.MaxText, api.MaxText + 1, api.MaxFile - 1, api.MaxFile} {
		checkCut(t, w, k, w[:k])
	}
	for _, k := range []int{api.MaxFile + 1, api.MaxFile + 2, math.MaxInt32, math.MaxInt} {
		checkCut(t, w, k, w)
	}
	for _, k := range []int{0, -1, -api.MaxFile, math.MinInt} {
		checkCut(t, w, k, "")
	}
}

// Promise 18.1: Cat.

func TestConcatenationsWrittenOut(t *testing.T) {
	for _, c := range []struct {
		k     int
		want  string
		parts []string
	}{
		{3, "abc", []string{"ab", "cd"}},
		{4, "abcd", []string{"ab", "cd"}},
		{5, "abcd", []string{"ab", "cd"}},
		{2, "ab", []string{"ab", "cd"}},
		{1, "a", []string{"ab", "cd"}},
		{0, "", []string{"ab", "cd"}},
		{-1, "", []string{"ab", "cd"}},
		{-2, "", []string{"ab", "cd"}},
		{3, "cda", []string{"cd", "ab"}},
		{4, "abcd", []string{"ab", "", "cde"}},
		{5, "abcde", []string{"ab", "", "cde"}},
		{3, "abc", []string{"a", "b", "c", "d"}},
		{3, "cba", []string{"c", "b", "a"}},
		{2, "xy", []string{"", "", "xyz", "w"}},
		{4, "abcx", []string{"abc", "xyz", "uvw"}},
		{7, "abcxyzu", []string{"abc", "xyz", "uvw"}},
		{9, "abcxyzuvw", []string{"abc", "xyz", "uvw"}},
		{4, "aaaa", []string{"aaa", "aaa"}},
		{2, "\x00\x00", []string{"\x00", "\x00", "\x00"}},
		{3, "\x00\xff\x01", []string{"\x00\xff", "\x01\x02"}},
		{2, "é", []string{"\xc3", "\xa9"}},
		{1, "\xc3", []string{"é", "a"}},
		{math.MaxInt, "abcd", []string{"ab", "cd"}},
		{math.MinInt, "", []string{"ab", "cd"}},
		{2, "", []string{""}},
		{2, "", []string{"", "", ""}},
		{0, "", []string{"", "a"}},
		{2, "", nil},
		{0, "", nil},
		{-1, "", nil},
		{math.MaxInt, "", nil},
		{math.MinInt, "", nil},
	} {
		checkCat(t, c.want, c.k, c.parts...)
	}
}

func TestConcatenationsByTheDefinition(t *testing.T) {
	random := rand.New(rand.NewSource(182))
	words := someWords()
	for range 3000 {
		var parts []string
		for range random.Intn(6) {
			parts = append(parts, words[random.Intn(len(words))])
		}
		whole := strings.Join(parts, "")
		for _, k := range append(numbers(-2, 12), random.Intn(len(whole)+1), len(whole)-1, len(whole), len(whole)+1, math.MinInt, math.MaxInt) {
			checkCat(t, cut(whole, k), k, parts...)
		}
	}
}

// Each division of a word into three parts gives the same word.
func TestEveryDivisionOfAWord(t *testing.T) {
	const w = "\x00ab\xffcé\x00"
	for to := range len(w) + 1 {
		for from := range to + 1 {
			for _, k := range append(numbers(-2, len(w)+2), extremes()...) {
				checkCat(t, cut(w, k), k, w[:from], w[from:to], w[to:])
			}
		}
	}
}

func TestManyParts(t *testing.T) {
	parts := slices.Repeat([]string{"a", "", "bc"}, 30000)
	whole := strings.Repeat("abc", 30000)
	for _, k := range []int{0, 1, 2, 3, 4, 5, api.MaxWords, api.MaxText, api.MaxText + 1, len(whole) - 1} {
		checkCat(t, whole[:k], k, parts...)
	}
	checkCat(t, whole, len(whole), parts...)
	checkCat(t, whole, len(whole)+1, parts...)
	checkCat(t, whole, math.MaxInt, parts...)
	checkCat(t, "", -1, parts...)
	checkCat(t, "", math.MinInt, parts...)
}

// Promise 18.1: Valid.

func TestValidityWrittenOut(t *testing.T) {
	for _, c := range []struct {
		w        string
		terms, k int
		want     bool
	}{
		{"\x00\x01", 2, 2, true},
		{"\x00\x01", 2, 3, true},
		{"\x00\x01", 3, 2, true},
		{"\x00\x01", 2, 1, false},
		{"\x00\x01", 2, 0, false},
		{"\x00\x01", 1, 2, false},
		{"\x00\x02", 2, 2, false},
		{"\x02\x00", 2, 2, false},
		{"\x00\x02\x00", 2, 3, false},
		{"\x01\x00", 2, 2, true},
		{"\x01\x01", 2, 2, true},
		{"", 0, 0, true},
		{"", 0, 1, true},
		{"", 2, 0, true},
		{"", 256, 4, true},
		{"", 0, -1, false},
		{"", 2, -1, false},
		{"", 256, math.MinInt, false},
		{"\x00", 0, 1, false},
		{"\x00", 1, 1, true},
		{"\x00", 1, 0, false},
		{"\x00", 1, -1, false},
		{"\x00", -1, 1, false},
		{"\xff", 255, 1, false},
		{"\xff", 256, 1, true},
		{"\xff", 257, 1, true},
		{"\xff", -1, 1, false},
		{"\x80", 127, 1, false},
		{"\x80", 128, 1, false},
		{"\x80", 129, 1, true},
		{"\xc3\xa9", 196, 2, true},
		{"\xc3\xa9", 195, 2, false},
		{"\xc3\xa9", 256, 1, false},
		{"\xff\xff\xff\xff", 256, 4, true},
		{"\xff\xff\xff\xff\xff", 256, 4, false},
		{"\xff\xff\xff\xff\xff", 256, 5, true},
		{"01", 2, 2, false},
		{"\x00\x00", math.MaxInt, math.MaxInt, true},
		{"\x00\x00", math.MinInt, math.MaxInt, false},
		{"\x00\x00", math.MaxInt, math.MinInt, false},
	} {
		checkValid(t, c.w, c.terms, c.k, c.want)
	}
}

func TestEveryByteAndNumberOfTerminals(t *testing.T) {
	for c := range 256 {
		w := string([]byte{byte(c)})
		for _, terms := range append(numbers(-3, 600), extremes()...) {
			checkValid(t, w, terms, 1, c < terms)
			checkValid(t, w, terms, 0, false)
		}
	}
}

func TestEveryByteAtEachPlace(t *testing.T) {
	for at := range 6 {
		for c := range 256 {
			b := make([]byte, 6)
			b[at] = byte(c)
			for _, terms := range []int{1, 2, 10, 128, 195, 255, 256} {
				checkValid(t, string(b), terms, 6, c < terms)
				checkValid(t, string(b), terms, 5, false)
			}
		}
	}
}

func TestValidityOfSomeWords(t *testing.T) {
	for _, w := range someWords() {
		for _, terms := range []int{-1, 0, 1, 2, 98, 99, 100, 195, 196, 237, 238, 254, 255, 256, 257, 300} {
			for _, k := range []int{-1, 0, 1, 2, 3, 4, 5, 19, 20, 255, 256, 299, 300, 301} {
				checkValid(t, w, terms, k, valid(w, terms, k))
			}
		}
	}
}

func TestEveryLength(t *testing.T) {
	for _, n := range append(numbers(0, 70), 255, 256, 257, api.MaxWords, api.MaxText, api.MaxText+1) {
		w := strings.Repeat("\x00\x01", n)[:n]
		for _, k := range append([]int{n - 2, n - 1, n, n + 1, n + 2, 0, 1, 4, 5}, extremes()...) {
			checkValid(t, w, 2, k, n <= k)
			checkValid(t, w, 1, k, n <= k && n < 2)
		}
	}
}

// Promise 18.2.

func TestAllWordsWrittenOut(t *testing.T) {
	for _, c := range []struct {
		terms, k int
		want     []string
	}{
		{2, 2, []string{"", "\x00", "\x01", "\x00\x00", "\x00\x01", "\x01\x00", "\x01\x01"}},
		{2, 1, []string{"", "\x00", "\x01"}},
		{2, 0, []string{""}},
		{3, 1, []string{"", "\x00", "\x01", "\x02"}},
		{3, 2, []string{"", "\x00", "\x01", "\x02", "\x00\x00", "\x00\x01", "\x00\x02", "\x01\x00", "\x01\x01", "\x01\x02", "\x02\x00", "\x02\x01", "\x02\x02"}},
		{2, 3, []string{"", "\x00", "\x01", "\x00\x00", "\x00\x01", "\x01\x00", "\x01\x01",
			"\x00\x00\x00", "\x00\x00\x01", "\x00\x01\x00", "\x00\x01\x01", "\x01\x00\x00", "\x01\x00\x01", "\x01\x01\x00", "\x01\x01\x01"}},
		{1, 0, []string{""}},
		{1, 1, []string{"", "\x00"}},
		{1, 3, []string{"", "\x00", "\x00\x00", "\x00\x00\x00"}},
		{1, 5, []string{"", "\x00", "\x00\x00", "\x00\x00\x00", "\x00\x00\x00\x00", "\x00\x00\x00\x00\x00"}},
		{0, 0, []string{""}},
		{0, 1, []string{""}},
		{0, 4, []string{""}},
		{0, math.MaxInt, []string{""}},
		{256, 0, []string{""}},
	} {
		if got := word.All(c.terms, c.k); !slices.Equal(got, c.want) {
			t.Fatalf("the words of %d terminals with %d are %.300q, not %q", c.terms, c.k, got, c.want)
		}
	}
}

func TestAllSingleTerminals(t *testing.T) {
	for _, terms := range []int{127, 128, 129, 255, 256} {
		got := word.All(terms, 1)
		if len(got) != 1+terms || got[0] != "" {
			t.Fatalf("there are %d words of %d terminals with 1", len(got), terms)
		}
		for n, w := range got[1:] {
			if w != string([]byte{byte(n)}) {
				t.Fatalf("%q is the word of %d", w, n)
			}
		}
	}
}

// count is how many valid words there are, or 5000 if there are more.
func count(terms, k int) int {
	sum, power := 0, 1
	for n := 0; n <= k && power > 0 && sum < 5000; n++ {
		sum += power
		power *= terms
	}
	return min(sum, 5000)
}

// inOrder tells whether a word stands ahead of another one, if the shorter one or the one that precedes it by bytes does.
func inOrder(a, b string) bool {
	if len(a) != len(b) {
		return len(a) < len(b)
	}
	for i := range len(a) {
		if a[i] != b[i] {
			return a[i] < b[i]
		}
	}
	return false
}

// checkAll expects all words: as many valid ones as there are, none of them twice, in their order; or nothing, if they are too many.
func checkAll(t *testing.T, terms, k int) {
	t.Helper()
	n := count(terms, k)
	if n > 4096 {
		checkNone(t, terms, k)
		return
	}
	got := word.All(terms, k)
	if len(got) != n {
		t.Fatalf("%d of the %d words of %d terminals with %d", len(got), n, terms, k)
	}
	for i, w := range got {
		if !valid(w, terms, k) {
			t.Fatalf("%q is one of the words of %d terminals with %d", w, terms, k)
		}
		if i > 0 && !inOrder(got[i-1], w) {
			t.Fatalf("%q follows %q in the words of %d terminals with %d", w, got[i-1], terms, k)
		}
	}
}

func TestAllWordsByTheDefinition(t *testing.T) {
	for terms := range 257 {
		for k := range 15 {
			checkAll(t, terms, k)
		}
	}
	for k := range 130 {
		checkAll(t, 0, k)
		checkAll(t, 1, k)
	}
}

func TestNumbersOfWordsAtTheLimit(t *testing.T) {
	for _, c := range []struct{ terms, k, n int }{
		{1, 4095, 4096},
		{1, 4094, 4095},
		{2, 11, 4095},
		{3, 7, 3280},
		{4, 5, 1365},
		{5, 5, 3906},
		{7, 4, 2801},
		{15, 3, 3616},
		{63, 2, 4033},
		{256, 1, 257},
		{256, 0, 1},
	} {
		if got := word.All(c.terms, c.k); len(got) != c.n {
			t.Fatalf("there are %d words of %d terminals with %d, not %d", len(got), c.terms, c.k, c.n)
		}
		checkAll(t, c.terms, c.k)
	}
	for _, c := range [][2]int{
		{1, 4096}, {1, 4097}, {1, 65536}, {1, math.MaxInt32}, {1, math.MaxInt}, {2, 12}, {2, 62}, {2, 63}, {2, 64}, {2, math.MaxInt},
		{3, 8}, {4, 6}, {4, 32}, {5, 6}, {6, 5}, {7, 5}, {8, 4}, {16, 3}, {16, 16}, {64, 2}, {255, 2}, {256, 2}, {256, 4}, {256, 8}, {256, 9}, {256, math.MaxInt},
	} {
		checkNone(t, c[0], c[1])
	}
}

func TestNoWordsOfImpossibleNumbers(t *testing.T) {
	for _, k := range append(numbers(-3, 5), extremes()...) {
		for _, terms := range []int{-1, -2, -255, -256, 257, 258, 512, 4095, 4096, math.MinInt, math.MinInt32, math.MaxInt32, math.MaxInt} {
			checkNone(t, terms, k)
		}
	}
	for _, terms := range append(numbers(-3, 260), extremes()...) {
		for _, k := range []int{-1, -2, -4, -255, -256, -4096, math.MinInt, math.MinInt + 1, math.MinInt32} {
			checkNone(t, terms, k)
		}
	}
}

// No terminals give only the empty word, however long words may be.
func TestWordsOfNoTerminals(t *testing.T) {
	for _, k := range append(numbers(0, 300), 4095, 4096, 4097, math.MaxInt32, math.MaxInt-1, math.MaxInt) {
		if got := word.All(0, k); len(got) != 1 || got[0] != "" {
			t.Fatalf("the words of no terminals with %d are %q", k, got)
		}
	}
}

// Promise 18.3.

func TestTextsWrittenOut(t *testing.T) {
	ab := []string{"a", "b c"}
	for _, c := range []struct {
		w     string
		terms []string
		want  string
	}{
		{"\x01\x00", ab, "'b c' 'a'"},
		{"\x00\x01", ab, "'a' 'b c'"},
		{"\x00", ab, "'a'"},
		{"\x01", ab, "'b c'"},
		{"\x00\x00\x00", ab, "'a' 'a' 'a'"},
		{"\x01\x00\x00\x01", ab, "'b c' 'a' 'a' 'b c'"},
		{"\x00\x01\x00\x01\x00", ab, "'a' 'b c' 'a' 'b c' 'a'"},
		{"", ab, "end"},
		{"", []string{}, "end"},
		{"", nil, "end"},
		{"", []string{"end"}, "end"},
		{"\x00", []string{"end"}, "'end'"},
		{"\x00\x01\x02", []string{"(", "+", "id"}, "'(' '+' 'id'"},
		{"\x02\x02\x00", []string{"(", "+", "id"}, "'id' 'id' '('"},
		{"\x00\x01", []string{"", " "}, "'' ' '"},
		{"\x00\x01", []string{"'", "\\"}, "''' '\\'"},
		{"\x00\x01", []string{"é", "\xff\n"}, "'é' '\xff\n'"},
		{"\x00\x00", []string{"' '"}, "'' '' '' ''"},
		{"\x00\x01", []string{"a", "a"}, "'a' 'a'"},
		{"\x02", ab, ""},
		{"\x02\x00", ab, ""},
		{"\x00\x02", ab, ""},
		{"\x00\x02\x01", ab, ""},
		{"\xff", ab, ""},
		{"0", ab, ""},
		{"a", ab, ""},
		{"\x00", nil, ""},
		{"\x00", []string{}, ""},
		{"\xff", nil, ""},
		{"\x01", []string{""}, ""},
	} {
		checkText(t, c.w, c.terms, c.want)
	}
}

// named are n texts, each of them another one.
func named(n int) []string {
	list := make([]string, n)
	for i := range list {
		list[i] = fmt.Sprint("t ", i)
	}
	return list
}

// textOf is the text of a word, by the definition, whose texts are the named ones.
func textOf(w string, terms int) string {
	if w == "" {
		return "end"
	}
	var texts []string
	for _, c := range []byte(w) {
		if int(c) >= terms {
			return ""
		}
		texts = append(texts, fmt.Sprintf("'t %d'", c))
	}
	return strings.Join(texts, " ")
}

func TestTextOfEveryByte(t *testing.T) {
	for _, n := range append(numbers(0, 10), 127, 128, 129, 195, 255, 256, 257, 300, 1000) {
		terms := named(n)
		for c := range 256 {
			w := string([]byte{byte(c)})
			checkText(t, w, terms, textOf(w, n))
			checkText(t, w+"\x00", terms, textOf(w+"\x00", n))
			checkText(t, "\x00"+w, terms, textOf("\x00"+w, n))
			checkText(t, w+w+"\x00"+w, terms, textOf(w+w+"\x00"+w, n))
		}
	}
}

func TestTextsByTheDefinition(t *testing.T) {
	for _, n := range []int{0, 1, 2, 3, 100, 255, 256, 257} {
		for _, w := range someWords() {
			checkText(t, w, named(n), textOf(w, n))
		}
	}
}

func TestInvalidBytesAtEachPlace(t *testing.T) {
	terms := named(3)
	for n := 1; n < 8; n++ {
		w := strings.Repeat("\x02", n)
		checkText(t, w, terms, strings.Repeat("'t 2' ", n)[:6*n-1])
		for at := range n {
			for _, c := range []byte{3, 4, '0', 'a', 127, 128, 254, 255} {
				checkText(t, w[:at]+string([]byte{c})+w[at+1:], terms, "")
			}
		}
	}
}

func TestTextsOfLongWords(t *testing.T) {
	terms := []string{"a", strings.Repeat("b", 32)}
	for _, n := range []int{5, 256, 4096, api.MaxText, api.MaxText + 1} {
		w := strings.Repeat("\x00\x01", n)
		checkText(t, w, terms, strings.Repeat("'a' '"+terms[1]+"' ", n)[:39*n-1])
		checkText(t, w+"\x02", terms, "")
		checkText(t, "\x02"+w, terms, "")
	}
	long := strings.Repeat("x", api.MaxText+1)
	checkText(t, "\x00\x00", []string{long}, "'"+long+"' '"+long+"'")
}

// Promises 18.1 to 18.3 with rules R3 and R4.

func TestArgumentsStay(t *testing.T) {
	parts := append(make([]string, 0, 4), "ab", "cd", "ef")
	terms := append(make([]string, 0, 4), "x", "y", "z")
	for range 3 {
		checkCat(t, "abcde", 5, parts...)
		checkText(t, "\x02\x00", terms, "'z' 'x'")
		checkText(t, "\x02\x03", terms, "")
	}
	if !slices.Equal(parts[:4], []string{"ab", "cd", "ef", ""}) || !slices.Equal(terms[:4], []string{"x", "y", "z", ""}) {
		t.Fatalf("the arguments became %q and %q", parts[:4], terms[:4])
	}
}

func TestResultsAreNew(t *testing.T) {
	parts, terms := []string{"ab", "cd"}, []string{"x", "y"}
	w, text := word.Cat(3, parts...), word.Text("\x00\x01", terms)
	parts[0], terms[0] = "zz", "zz"
	if w != "abc" || text != "'x' 'y'" {
		t.Fatalf("the results became %q and %q", w, text)
	}
	one, two := word.All(2, 1), word.All(2, 1)
	one[0], one[2] = "x", "y"
	one = append(one, "z")
	want := []string{"", "\x00", "\x01"}
	if three := word.All(2, 1); !slices.Equal(two, want) || !slices.Equal(three, want) {
		t.Fatalf("changed words %q change other results: %q, %q", one, two, three)
	}
}
