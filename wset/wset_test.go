package wset_test

import (
	"bytes"
	"math"
	"math/rand"
	"slices"
	"strings"
	"testing"

	"repertory/api"
	"repertory/word"
	"repertory/wset"
)

// set is the given words, which stand in the order of a set.
func set(words ...string) []string { return words }

// before tells whether a word precedes another one, byte by byte.
func before(a, b string) bool {
	for i := 0; i < len(a) && i < len(b); i++ {
		if a[i] != b[i] {
			return a[i] < b[i]
		}
	}
	return len(a) < len(b)
}

// isSet tells whether a list is one, by the definition.
func isSet(l []string) bool {
	for i := range l {
		for j := range i {
			if !before(l[j], l[i]) {
				return false
			}
		}
	}
	return true
}

// isIn tells whether a word is one of a list.
func isIn(l []string, w string) bool {
	for _, x := range l {
		if bytes.Equal([]byte(x), []byte(w)) {
			return true
		}
	}
	return false
}

// setOf is the set of words, by the definition: each one is put in front of the first one that does not precede it.
func setOf(words ...string) []string {
	var list []string
	for _, w := range words {
		at := 0
		for at < len(list) && before(list[at], w) {
			at++
		}
		if at == len(list) || list[at] != w {
			list = slices.Insert(list, at, w)
		}
	}
	return list
}

// product is that of two sets, by the definition: all concatenations, each one cut.
func product(k int, a, b []string) []string {
	var words []string
	for _, x := range a {
		for _, y := range b {
			words = append(words, word.Cut(x+y, k))
		}
	}
	return setOf(words...)
}

// numbered are words for the numbers from one to another, in their order, of so many bytes each.
func numbered(from, to, size int) []string {
	list := make([]string, 0, to-from)
	for n := from; n < to; n++ {
		w := make([]byte, size)
		for i, rest := size-1, n; i >= 0; i, rest = i-1, rest/256 {
			w[i] = byte(rest)
		}
		list = append(list, string(w))
	}
	return list
}

// powers are the words that repeat a text from no times to n - 1 times.
func powers(text string, n int) []string {
	list := make([]string, n)
	for i := range list {
		list[i] = strings.Repeat(text, i)
	}
	return list
}

// choices are all sublists of a list; those of a set are sets.
func choices(l []string) [][]string {
	lists := make([][]string, 1<<len(l))
	for bits := range lists {
		for i, w := range l {
			if bits>>i&1 == 1 {
				lists[bits] = append(lists[bits], w)
			}
		}
	}
	return lists
}

// sequences are all lists of at most n words of a list, in every order, also with repetitions.
func sequences(l []string, n int) [][]string {
	lists := [][]string{nil}
	for at := 0; at < len(lists) && len(lists[at]) < n; at++ {
		for _, w := range l {
			lists = append(lists, append(slices.Clone(lists[at]), w))
		}
	}
	return lists
}

// few are words of which some are beginnings of others, as a set.
func few() []string { return set("", "\x00", "\x00\x00", "\x00\x01", "\x01", "\xff") }

// oddWords are words that are easily put in a wrong order, or taken for each other.
func oddWords() []string {
	return []string{"", "\x00", "\x00\x00", "\x00\x01", "\x01", "\x01\x00", "0", "1", "A", "B", "a", "aa", "ab", "b", "ba", "é", "e\u0301", "\xc3", "\xc3\x00",
		"\xff", "\xfe", "\xff\xff", "\xff\x00", "\ufffd", "\xed\xa0\x80", "\x7f", "\x80", "\x80\x7f", "z", "Z", "10", "9", "abc", "ab\x00", "ab\xff", " ", "a "}
}

// someWord is a word of at most so many bytes, with few different bytes.
func someWord(random *rand.Rand, most int) string {
	w := make([]byte, random.Intn(most+1))
	for i := range w {
		w[i] = []byte{0, 1, 127, 128, 255}[random.Intn(5)]
	}
	return string(w)
}

// someWords are at most so many words, in any order, also with repetitions.
func someWords(random *rand.Rand, count, most int) []string {
	l := make([]string, random.Intn(count+1))
	for i := range l {
		l[i] = someWord(random, most)
	}
	return l
}

// shuffled is a list in another order.
func shuffled(random *rand.Rand, l []string) []string {
	l = slices.Clone(l)
	random.Shuffle(len(l), func(i, j int) { l[i], l[j] = l[j], l[i] })
	return l
}

// checkSet expects a result to be a set of words; call tells which result it is.
func checkSet(t *testing.T, call string, got, want []string) {
	t.Helper()
	if len(got) != len(want) {
		t.Fatalf("%s has %d words, not %d: %.300q, not %.300q", call, len(got), len(want), got, want)
	}
	for i := range got {
		if got[i] != want[i] {
			t.Fatalf("%s has %.300q at %d, not %.300q", call, got[i], i, want[i])
		}
	}
}

// checkOf expects words to give a set, which is one.
func checkOf(t *testing.T, want []string, words ...string) {
	t.Helper()
	checkSet(t, "Of", wset.Of(words...), want)
	checkIs(t, want, true)
}

// checkIs expects a list to be a set or not.
func checkIs(t *testing.T, l []string, want bool) {
	t.Helper()
	if got := wset.Is(l); got != want {
		t.Fatalf("that %.300q is a set is %t", l, got)
	}
}

// checkHas expects a word to be in a list or not.
func checkHas(t *testing.T, l []string, w string, want bool) {
	t.Helper()
	if got := wset.Has(l, w); got != want {
		t.Fatalf("that %.300q has %.300q is %t", l, w, got)
	}
}

// checkSame expects two lists to be equal or not, whichever is the first one.
func checkSame(t *testing.T, a, b []string, want bool) {
	t.Helper()
	if one, two := wset.Same(a, b), wset.Same(b, a); one != want || two != want {
		t.Fatalf("that %.300q and %.300q are equal is %t and %t", a, b, one, two)
	}
}

// checkUnion expects sets to have a union.
func checkUnion(t *testing.T, want []string, sets ...[]string) {
	t.Helper()
	checkSet(t, "Union", wset.Union(sets...), want)
}

// checkMeet expects two sets to have words in common, whichever is the first one.
func checkMeet(t *testing.T, want, a, b []string) {
	t.Helper()
	checkSet(t, "Meet", wset.Meet(a, b), want)
	checkSet(t, "Meet of the sets in the other order", wset.Meet(b, a), want)
}

// checkCat expects two sets to have a product.
func checkCat(t *testing.T, want []string, k int, a, b []string) {
	t.Helper()
	got, ok := wset.Cat(k, a, b)
	if !ok {
		t.Fatalf("the product with %d of %.300q and %.300q is too large", k, a, b)
	}
	checkSet(t, "Cat", got, want)
}

// checkTooLarge expects the product of two sets to have too many words.
func checkTooLarge(t *testing.T, k int, a, b []string) {
	t.Helper()
	if got, ok := wset.Cat(k, a, b); ok || got != nil {
		t.Fatalf("the product with %d of %d and %d words has %d words, %t", k, len(a), len(b), len(got), ok)
	}
}

// Promise 19.1: Of.

func TestSetsWrittenOut(t *testing.T) {
	checkOf(t, nil)
	checkOf(t, set(""), "")
	checkOf(t, set(""), "", "", "")
	checkOf(t, set("a"), "a")
	checkOf(t, set("a", "b"), "a", "b")
	checkOf(t, set("a", "b"), "b", "a")
	checkOf(t, set("a", "b"), "b", "a", "b", "b", "a")
	checkOf(t, set("", "a", "ab", "b"), "b", "", "a", "b", "ab")
	checkOf(t, set("", "a", "aa", "aaa"), "aaa", "aa", "a", "")
	checkOf(t, set("a", "aa", "ab", "abc", "b"), "b", "abc", "ab", "aa", "a")
	checkOf(t, set("\x00", "\x00\x00", "\x00\x01", "\x01"), "\x01", "\x00\x01", "\x00\x00", "\x00")
	checkOf(t, set("\x7f", "\x80", "\xff", "\xff\x00"), "\xff\x00", "\x80", "\xff", "\x7f")
	checkOf(t, set("e\u0301", "\xc3", "é", "\xc3\xaa"), "é", "\xc3", "e\u0301", "\xc3\xaa", "\xc3\xa9")
	checkOf(t, set("10", "9", "A", "Z", "a", "z"), "a", "A", "z", "Z", "9", "10")
}

func TestSetsOfEveryListOfFewWords(t *testing.T) {
	for _, words := range sequences(few(), 5) {
		checkOf(t, setOf(words...), words...)
	}
}

func TestSetsByTheDefinition(t *testing.T) {
	random := rand.New(rand.NewSource(19))
	checkOf(t, setOf(oddWords()...), oddWords()...)
	for range 1000 {
		words := someWords(random, 100, 5)
		checkOf(t, setOf(words...), words...)
		odd := shuffled(random, oddWords())[random.Intn(30):]
		checkOf(t, setOf(odd...), append(odd, odd...)...)
	}
}

// There is no limit on the words of a list, only on those of a product.
func TestLargeSets(t *testing.T) {
	random := rand.New(rand.NewSource(190))
	for _, n := range []int{255, 256, 257, api.MaxWords - 1, api.MaxWords, api.MaxWords + 1, api.MaxText + 1, 300000} {
		want := numbered(0, n, 3)
		words := shuffled(random, append(shuffled(random, want), want[:n/2]...))
		if got := wset.Of(words...); !slices.Equal(got, want) {
			t.Fatalf("the set of %d words has %d words", n, len(got))
		}
		if !wset.Is(want) || wset.Is(words) {
			t.Fatalf("%d words are no set, or in any order are one", n)
		}
	}
	checkOf(t, set("a"), slices.Repeat([]string{"a"}, 300000)...)
}

func TestSetsOfLongWords(t *testing.T) {
	long := strings.Repeat("x", api.MaxFile+1)
	checkOf(t, set(long[1:], long, long+"\x00", long+"y", "y"), long+"y", "y", long, long[1:], long+"\x00", long)
}

// Promise 19.1: Is.

func TestListsThatAreSets(t *testing.T) {
	for _, l := range [][]string{
		nil, {}, {""}, {"a"}, {"\xff"}, {"", "a"}, {"", "\x00"}, {"a", "b"}, {"a", "aa"}, {"ab", "b"}, {"Z", "a"}, {"10", "9"},
		{"\x7f", "\x80"}, {"\xc3", "é"}, {"e\u0301", "é"}, {"é", "\ufffd", "\xff"}, {"", "a", "ab", "b"}, {"a", "a\x00", "a\x00\x00"},
	} {
		checkIs(t, l, true)
	}
	for _, l := range [][]string{
		{"", ""}, {"a", "a"}, {"\xff", "\xff"}, {"a", ""}, {"\x00", ""}, {"b", "a"}, {"aa", "a"}, {"b", "ab"}, {"a", "Z"}, {"9", "10"},
		{"\x80", "\x7f"}, {"é", "\xc3"}, {"é", "e\u0301"}, {"\xff", "\ufffd"}, {"", "a", "a", "b"}, {"", "a", "b", "ab"},
		{"", "b", "a"}, {"b", "", "c"}, {"a", "b", "a"}, {"", "a", "b", "b"}, {"", "", "a"}, {"", "a", ""}, {"c", "a", "b"},
	} {
		checkIs(t, l, false)
	}
}

func TestEveryListOfFewWords(t *testing.T) {
	for _, l := range sequences(few(), 5) {
		checkIs(t, l, isSet(l))
	}
	odd := oddWords()
	for _, a := range odd {
		for _, b := range odd {
			checkIs(t, []string{a, b}, before(a, b))
		}
	}
}

// A list is no set if two neighbors are equal or in the wrong order, wherever they are.
func TestOneDefectAtEachPlace(t *testing.T) {
	for _, n := range []int{2, 3, 4, 5, 100, 256, 257} {
		l := numbered(0, n, 2)
		checkIs(t, l, true)
		for at := 1; at < n; at++ {
			wrong := slices.Clone(l)
			wrong[at] = l[at-1]
			checkIs(t, wrong, false)
			wrong[at-1], wrong[at] = l[at], l[at-1]
			checkIs(t, wrong, false)
			wrong[at-1], wrong[at] = l[at-1], l[at]
			wrong[0], wrong[at] = l[at], l[0]
			checkIs(t, wrong, false)
		}
	}
}

// Promise 19.1: Has.

func TestWordsInLists(t *testing.T) {
	l := []string{"b", "", "ab", "b", "\xff\x00", "é"}
	for _, w := range []string{"b", "", "ab", "\xff\x00", "é"} {
		checkHas(t, l, w, true)
	}
	for _, w := range []string{"a", "B", "bb", "ba", "abc", "\x00", "\xff", "\x00\xff", "\xff\x00\x00", "\xc3", "e\u0301", "e", " ", "b "} {
		checkHas(t, l, w, false)
	}
	for _, w := range oddWords() {
		checkHas(t, nil, w, false)
		checkHas(t, []string{}, w, false)
		checkHas(t, []string{w}, w, true)
		checkHas(t, []string{w + "\x00"}, w, false)
	}
}

// Lists that are no sets, in any order, are searched, too.
func TestWordsInEveryListOfFewWords(t *testing.T) {
	for _, l := range sequences(few(), 4) {
		for _, w := range append(few(), "\x00\x00\x00", "\x02", "\xff\xff") {
			checkHas(t, l, w, isIn(l, w))
		}
	}
}

func TestWordsAtEachPlace(t *testing.T) {
	random := rand.New(rand.NewSource(191))
	for _, n := range []int{1, 2, 3, 255, 256, 257, api.MaxWords, api.MaxWords + 1} {
		ordered := numbered(0, n, 3)
		for _, l := range [][]string{ordered, shuffled(random, ordered)} {
			for at, step := 0, max(1, n/300); at < n; at += step {
				checkHas(t, l, l[at], true)
				checkHas(t, l, l[at][:2], false)
				checkHas(t, l, l[at]+"\x00", false)
			}
			checkHas(t, l, l[n-1], true)
			checkHas(t, l, "\xff\xff\xff", false)
			checkHas(t, l, "", false)
		}
	}
}

// Promise 19.1: Same.

func TestEqualLists(t *testing.T) {
	for _, c := range []struct {
		a, b []string
		want bool
	}{
		{nil, nil, true},
		{nil, []string{}, true},
		{[]string{}, []string{}, true},
		{nil, []string{""}, false},
		{[]string{}, []string{""}, false},
		{[]string{""}, []string{"", ""}, false},
		{[]string{""}, []string{"\x00"}, false},
		{[]string{"a"}, []string{"a"}, true},
		{[]string{"a"}, []string{"b"}, false},
		{[]string{"a"}, []string{"A"}, false},
		{[]string{"a"}, []string{"a", "a"}, false},
		{[]string{"a", "b"}, []string{"a"}, false},
		{[]string{"a", "b"}, []string{"b"}, false},
		{[]string{"a", "b"}, []string{"a", "b"}, true},
		{[]string{"a", "b"}, []string{"b", "a"}, false},
		{[]string{"b", "a"}, []string{"b", "a"}, true},
		{[]string{"a", "b", "b"}, []string{"a", "a", "b"}, false},
		{[]string{"ab"}, []string{"a", "b"}, false},
		{[]string{"ab", ""}, []string{"a", "b"}, false},
		{[]string{"a", "bc"}, []string{"ab", "c"}, false},
		{[]string{"é"}, []string{"\xc3\xa9"}, true},
		{[]string{"é"}, []string{"e\u0301"}, false},
		{[]string{"\xff"}, []string{"\ufffd"}, false},
		{[]string{"\xfe"}, []string{"\xff"}, false},
	} {
		checkSame(t, c.a, c.b, c.want)
	}
}

func TestEveryTwoListsOfFewWords(t *testing.T) {
	lists := sequences([]string{"", "\x00", "\x00\x00", "b"}, 4)
	for i, a := range lists {
		for j, b := range lists {
			checkSame(t, a, slices.Clone(b), i == j)
		}
	}
}

func TestOneDifferenceAtEachPlace(t *testing.T) {
	for _, n := range []int{1, 2, 3, 256, 257} {
		l := numbered(0, n, 2)
		checkSame(t, l, numbered(0, n, 2), true)
		checkSame(t, l, l[:n-1], false)
		checkSame(t, l, l[1:], false)
		for at := range n {
			for _, w := range []string{"", l[at][:1], l[at] + "\x00", "\xff\xff"} {
				other := slices.Clone(l)
				other[at] = w
				checkSame(t, l, other, false)
			}
			checkSame(t, l, slices.Delete(slices.Clone(l), at, at+1), false)
		}
	}
	long := numbered(0, api.MaxText+1, 3)
	checkSame(t, long, slices.Clone(long), true)
	checkSame(t, long, long[:api.MaxText], false)
}

// Promise 19.2: Union.

func TestUnionsWrittenOut(t *testing.T) {
	checkUnion(t, nil)
	checkUnion(t, nil, nil)
	checkUnion(t, nil, nil, []string{}, nil)
	checkUnion(t, set(""), set(""))
	checkUnion(t, set("a", "b"), set("a", "b"))
	checkUnion(t, set("a", "b"), set("b"), set("a"))
	checkUnion(t, set("a", "b", "c"), set("a", "c"), set("b"))
	checkUnion(t, set("a", "b", "c"), set("b", "c"), set("a", "b"))
	checkUnion(t, set("", "a", "ab", "b", "c"), set("", "a", "ab", "b"), set("c"), nil, set("a"))
	checkUnion(t, set("", "\x00", "\xff"), set("\xff"), set("\x00"), set(""))
	checkUnion(t, set("a", "aa", "ab", "b"), set("b"), set("ab"), set("aa"), set("a"), set("b"))
	checkUnion(t, set("\x7f", "\x80"), set("\x80"), set("\x7f"))
}

func TestUnionsOfEveryFewSets(t *testing.T) {
	sets := choices(few())
	for _, a := range sets {
		checkUnion(t, a, a)
		checkUnion(t, a, a, a, a)
		for _, b := range sets {
			checkUnion(t, setOf(append(slices.Clone(a), b...)...), a, b)
		}
	}
	sets = choices(few()[1:5])
	for _, a := range sets {
		for _, b := range sets {
			for _, c := range sets {
				checkUnion(t, setOf(slices.Concat(a, b, c)...), a, b, c)
			}
		}
	}
}

func TestUnionsByTheDefinition(t *testing.T) {
	random := rand.New(rand.NewSource(192))
	for range 500 {
		var sets [][]string
		for range random.Intn(7) {
			sets = append(sets, setOf(someWords(random, 60, 4)...))
		}
		checkUnion(t, setOf(slices.Concat(sets...)...), sets...)
	}
}

// A union has no limit.
func TestLargeUnions(t *testing.T) {
	for _, n := range []int{api.MaxWords - 1, api.MaxWords, api.MaxWords + 1, api.MaxText + 1} {
		all := numbered(0, n, 3)
		checkUnion(t, all, all[n/2:], all[:n/2])
		checkUnion(t, all, all[:n/3*2], all, all[n/3:])
		var sets [][]string
		for _, w := range all {
			sets = append(sets, set(w), set(w))
		}
		checkUnion(t, all, sets...)
	}
}

// Promise 19.2: Meet.

func TestCommonWordsWrittenOut(t *testing.T) {
	for _, c := range []struct{ want, a, b []string }{
		{nil, nil, nil},
		{nil, nil, set("")},
		{nil, []string{}, set("", "a", "b")},
		{nil, set("a"), set("b")},
		{nil, set(""), set("a")},
		{nil, set("a"), set("aa")},
		{nil, set("ab"), set("a", "b")},
		{nil, set("a", "c", "e"), set("b", "d", "f")},
		{set(""), set(""), set("")},
		{set(""), set("", "a"), set("", "b")},
		{set("a"), set("a"), set("a")},
		{set("a", "b"), set("", "a", "ab", "b"), set("a", "b", "c")},
		{set("b"), set("a", "b"), set("b", "c")},
		{set("a", "c"), set("a", "b", "c"), set("a", "c", "d")},
		{set("a", "aa", "b"), set("a", "aa", "b"), set("a", "aa", "b")},
		{set("\x00", "\xff"), set("\x00", "\x01", "\xff"), set("", "\x00", "\x80", "\xff")},
		{set("é"), set("e\u0301", "é"), set("\xc3", "\xc3\xa9", "\xff")},
	} {
		checkMeet(t, c.want, c.a, c.b)
	}
}

// common are the words that are in two sets, by the definition.
func common(a, b []string) []string {
	var list []string
	for _, w := range a {
		if isIn(b, w) {
			list = append(list, w)
		}
	}
	return list
}

func TestCommonWordsOfEveryTwoSets(t *testing.T) {
	sets := choices(few())
	for _, a := range sets {
		for _, b := range sets {
			checkMeet(t, common(a, b), a, b)
		}
	}
}

func TestCommonWordsByTheDefinition(t *testing.T) {
	random := rand.New(rand.NewSource(193))
	for range 1000 {
		a, b := setOf(someWords(random, 100, 4)...), setOf(someWords(random, 100, 4)...)
		checkMeet(t, common(a, b), a, b)
	}
}

func TestCommonWordsOfLargeSets(t *testing.T) {
	for _, n := range []int{api.MaxWords - 1, api.MaxWords, api.MaxWords + 1, api.MaxText + 1} {
		all := numbered(0, n, 3)
		checkMeet(t, all, all, slices.Clone(all))
		checkMeet(t, all[n/3:n/2], all[n/3:], all[:n/2])
		checkMeet(t, nil, all[:n/2], all[n/2:])
		checkMeet(t, set(all[n/2]), all, set(all[n/2]))
	}
}

// Promise 19.2: Cat.

func TestProductsWrittenOut(t *testing.T) {
	a := set("", "a", "ab", "b")
	for _, c := range []struct {
		k          int
		a, b, want []string
	}{
		{2, set("a", "ab"), set("", "b"), set("a", "ab")},
		{3, set("a", "ab"), set("", "b"), set("a", "ab", "abb")},
		{4, set("a", "ab"), set("", "b"), set("a", "ab", "abb")},
		{1, set("a", "ab"), set("", "b"), set("a")},
		{0, set("a", "ab"), set("", "b"), set("")},
		{-1, set("a", "ab"), set("", "b"), set("")},
		{2, a, set("", "cd"), set("", "a", "ab", "ac", "b", "bc", "cd")},
		{3, a, set("", "cd"), set("", "a", "ab", "abc", "acd", "b", "bcd", "cd")},
		{4, a, set("", "cd"), set("", "a", "ab", "abcd", "acd", "b", "bcd", "cd")},
		{1, a, set("", "cd"), set("", "a", "b", "c")},
		{2, a, set(""), a},
		{2, set(""), a, a},
		{1, set(""), a, set("", "a", "b")},
		{1, a, set(""), set("", "a", "b")},
		{2, set("a"), set("b"), set("ab")},
		{2, set("b"), set("a"), set("ba")},
		{3, set("a", "b"), set("c", "d"), set("ac", "ad", "bc", "bd")},
		{2, set("abc"), set("d"), set("ab")},
		{4, set("abc"), set("def"), set("abcd")},
		{5, set("abc"), set("def"), set("abcde")},
		{1, set("a", "aa", "b"), set("x", "y"), set("a", "b")},
		{2, set("b", "ba"), set("", "\x00", "c"), set("b", "b\x00", "ba", "bc")},
		{4, set("", "a"), set("", "a"), set("", "a", "aa")},
		{2, set("\xff", "\xff\xff"), set("", "\xff"), set("\xff", "\xff\xff")},
		{3, set("\xc3"), set("", "\xa9"), set("\xc3", "é")},
		{math.MaxInt, set("a", "ab"), set("", "b"), set("a", "ab", "abb")},
		{math.MinInt, set("a", "ab"), set("", "b"), set("")},
		{0, set(""), set(""), set("")},
		{math.MaxInt, set(""), set(""), set("")},
		{math.MinInt, set(""), set(""), set("")},
	} {
		checkCat(t, c.want, c.k, c.a, c.b)
	}
}

func TestProductsWithTheEmptySet(t *testing.T) {
	for _, k := range []int{math.MinInt, -4096, -1, 0, 1, 2, 4, 5, 4096, math.MaxInt} {
		checkCat(t, nil, k, nil, nil)
		for _, a := range [][]string{set(""), set("a"), few(), numbered(0, api.MaxWords+1, 2), numbered(0, api.MaxText+1, 3)} {
			checkCat(t, nil, k, a, nil)
			checkCat(t, nil, k, nil, a)
			checkCat(t, nil, k, []string{}, a)
			checkCat(t, nil, k, a, []string{})
		}
	}
}

func TestProductsOfEveryTwoSets(t *testing.T) {
	sets := choices(few())
	for k := -1; k <= 5; k++ {
		for _, a := range sets {
			for _, b := range sets {
				checkCat(t, product(k, a, b), k, a, b)
			}
		}
	}
}

func TestProductsByTheDefinition(t *testing.T) {
	random := rand.New(rand.NewSource(194))
	for range 1000 {
		a, b := setOf(someWords(random, 15, 6)...), setOf(someWords(random, 15, 6)...)
		for _, k := range []int{random.Intn(6) - 1, 6 + random.Intn(8), math.MaxInt} {
			checkCat(t, product(k, a, b), k, a, b)
		}
	}
}

// The product of two products is the same in both ways.
func TestProductsOfProducts(t *testing.T) {
	random := rand.New(rand.NewSource(195))
	for range 300 {
		k := random.Intn(5)
		a, b, c := setOf(someWords(random, 6, 3)...), setOf(someWords(random, 6, 3)...), setOf(someWords(random, 6, 3)...)
		left, _ := wset.Cat(k, a, b)
		right, _ := wset.Cat(k, b, c)
		want := product(k, product(k, a, b), c)
		checkCat(t, want, k, left, c)
		checkCat(t, want, k, a, right)
	}
}

// Products of exactly MaxWords words, and of one more.
func TestTheLargestProducts(t *testing.T) {
	most, more := numbered(0, api.MaxWords, 2), numbered(0, api.MaxWords+1, 2)
	for _, k := range []int{2, 3, 4, math.MaxInt} {
		checkCat(t, most, k, most, set(""))
		checkCat(t, most, k, set(""), most)
		checkTooLarge(t, k, more, set(""))
		checkTooLarge(t, k, set(""), more)
	}
	for _, k := range []int{4, 5, math.MaxInt} {
		checkCat(t, numbered(0, api.MaxWords, 3), k, set("\x00"), most)
		checkTooLarge(t, k, set("\x00"), more)
	}
	x64, y64, y65 := numbered(0, 64, 1), numbered(64, 128, 1), numbered(64, 129, 1)
	for _, k := range []int{2, 3, math.MaxInt} {
		checkCat(t, product(k, x64, y64), k, x64, y64)
		checkTooLarge(t, k, x64, y65)
		checkTooLarge(t, k, y65, x64)
	}
	checkCat(t, x64, 1, x64, y65)
	checkCat(t, y65, 1, y65, x64)
}

// The words of a product may come from words of several lengths, and each counts once.
func TestTheLargestProductsOfSeveralLengths(t *testing.T) {
	upTo := func(n int) []string { return append(set(""), numbered(0, n, 1)...) }
	// Those of the empty word and n words with the empty word and m words, n of them the same, are 1 + (n + 1) * m.
	for _, c := range []struct {
		n, m int
		ok   bool
	}{{44, 91, true}, {62, 65, true}, {62, 66, false}, {63, 63, true}, {63, 64, false}, {15, 255, true}, {16, 255, false}, {38, 105, true}} {
		for _, k := range []int{2, 3, math.MaxInt} {
			if c.ok {
				checkCat(t, product(k, upTo(c.n), upTo(c.m)), k, upTo(c.n), upTo(c.m))
			} else {
				checkTooLarge(t, k, upTo(c.n), upTo(c.m))
			}
		}
		checkCat(t, upTo(c.m), 1, upTo(c.n), upTo(c.m))
	}
	// The words of at most 3 of 15 terminals are 3616; 480 more are 4096.
	short, extra := setOf(word.All(15, 3)...), numbered(16*65536, 16*65536+481, 3)
	most, more := slices.Concat(short, extra[:480]), slices.Concat(short, extra)
	checkCat(t, most, 3, most, set(""))
	checkCat(t, most, 3, set(""), most)
	checkTooLarge(t, 3, more, set(""))
	checkTooLarge(t, 3, set(""), more)
	checkCat(t, short, 3, short, short)
	checkTooLarge(t, 4, short, short)
	checkTooLarge(t, 5, short, short)
}

// Powers have few different concatenations: a number of equal ones counts once, and one more than MaxWords is too many.
func TestTheLargestProductsOfPowers(t *testing.T) {
	for _, n := range []int{1, 2, 3, api.MaxWords - 2, api.MaxWords - 1, api.MaxWords} {
		m := api.MaxWords + 1 - n
		checkCat(t, powers("\x00", api.MaxWords), math.MaxInt, powers("\x00", n), powers("\x00", m))
		checkTooLarge(t, math.MaxInt, powers("\x00", n), powers("\x00", m+1))
		checkTooLarge(t, math.MaxInt, powers("\x00", n+1), powers("\x00", m))
		checkTooLarge(t, api.MaxWords, powers("\x00", n), powers("\x00", m+1))
		checkCat(t, powers("\x00", api.MaxWords), api.MaxWords-1, powers("\x00", n), powers("\x00", m+1))
		checkCat(t, powers("\x00", api.MaxWords), api.MaxWords-1, powers("\x00", n+1), powers("\x00", m))
	}
	a := powers("ab", 300)
	checkCat(t, powers("ab", 599), math.MaxInt, a, a)
	checkCat(t, append(powers("ab", 250), powers("ab", 251)[250][:499]), 499, a, a)
}

// What counts is how many words the product has, not how many the sets, or their concatenations, have.
func TestSmallProductsOfLargeSets(t *testing.T) {
	large := numbered(0, 1<<20, 3)
	checkCat(t, set(""), 0, large, large)
	checkCat(t, set(""), -1, large, large)
	checkCat(t, numbered(0, 16, 1), 1, large, large)
	checkCat(t, numbered(0, api.MaxWords, 2), 2, large, large)
	checkCat(t, numbered(0, 16, 1), 1, large, set("", "x"))
	checkCat(t, numbered(0, 16, 1), 1, set(""), large)
	checkCat(t, numbered(0, api.MaxWords, 2), 2, set(""), large)
	checkTooLarge(t, 3, large, large)
	checkTooLarge(t, 3, set(""), large)
	checkTooLarge(t, 2, set("", "a"), large)
	checkTooLarge(t, math.MaxInt, large, large)
	checkTooLarge(t, math.MaxInt, large, set(""))
	checkCat(t, product(2, set("a", "b"), numbered(0, 16, 1)), 2, set("a", "b"), large)
	one := append(set(""), large[:65536]...) // all but the empty word begin with 0
	checkCat(t, append(set(""), "\x00"), 1, one, one)
}

func TestProductsOfLongWords(t *testing.T) {
	long := strings.Repeat("x", api.MaxText+1)
	checkCat(t, set(long, long+"a", long+"b"), math.MaxInt, set(long), set("", "a", "b"))
	checkCat(t, set("a"+long, "b"+long), len(long)+1, set("a", "b"), set(long))
	checkCat(t, set("a"+long[1:], "b"+long[1:]), len(long), set("a", "b"), set(long))
	checkCat(t, set(long, long+"a"), len(long)+1, set(long), set("", "a", "ab", "abc"))
	checkCat(t, set(long), len(long), set(long), set("", "a", "b"))
	checkCat(t, set(long[:4]), 4, set(long, long+"a"), set(long))
}

// The rules R1, R3, R4 and R6 for promises 19.1 and 19.2.

// Lists that are no sets give no panic, and every call returns.
func TestListsThatAreNoSets(t *testing.T) {
	random := rand.New(rand.NewSource(196))
	lists := append(sequences([]string{"", "\x00", "b", "bb"}, 3), slices.Repeat([]string{"a", "b"}, 3000), slices.Repeat([]string{""}, 6000))
	for range 100 {
		lists = append(lists, someWords(random, 50, 6))
	}
	for _, a := range lists {
		wset.Union(a, a, lists[len(lists)-1])
		for range 20 {
			b := lists[random.Intn(len(lists))]
			wset.Union(a, b)
			wset.Meet(a, b)
			for _, k := range []int{math.MinInt, -1, 0, 1, 2, 4, math.MaxInt} {
				wset.Cat(k, a, b)
			}
		}
	}
}

// spare is a list with room behind its words, in which a word stands.
func spare(words ...string) []string { return append(slices.Clone(words), "spare")[:len(words)] }

func TestArgumentsAreNotChanged(t *testing.T) {
	a, b := spare("", "a", "ab", "b"), spare("", "b", "ba")
	words := spare("b", "a", "", "b", "aa")
	sets := append(make([][]string, 0, 3), a, b)
	for range 3 {
		checkSet(t, "Of", wset.Of(words...), set("", "a", "aa", "b"))
		checkIs(t, words, false)
		checkIs(t, a, true)
		checkHas(t, words, "aa", true)
		checkSame(t, words, a, false)
		checkUnion(t, set("", "a", "ab", "b", "ba"), sets...)
		checkUnion(t, set("", "a", "ab", "b"), a)
		checkMeet(t, set("", "b"), a, b)
		checkCat(t, set("", "a", "ab", "b", "ba", "bb"), 2, a, b)
		checkCat(t, set("", "a", "b"), 1, a, b)
		checkCat(t, set(""), 0, a, b)
	}
	checkSet(t, "a", a[:5], []string{"", "a", "ab", "b", "spare"})
	checkSet(t, "b", b[:4], []string{"", "b", "ba", "spare"})
	checkSet(t, "words", words[:6], []string{"b", "a", "", "b", "aa", "spare"})
	if len(sets[0]) != 4 || len(sets[1]) != 3 || sets[:3][2] != nil {
		t.Fatalf("the sets became %q", sets[:3])
	}
}

// Neither a changed result nor a changed argument is seen elsewhere.
func TestResultsAreNewMemory(t *testing.T) {
	for name, call := range map[string]func(a []string) []string{
		"Of":                   func(a []string) []string { return wset.Of(a...) },
		"Union of one":         func(a []string) []string { return wset.Union(a) },
		"Union of two":         func(a []string) []string { return wset.Union(a, a) },
		"Union with none":      func(a []string) []string { return wset.Union(nil, a, nil) },
		"Meet":                 func(a []string) []string { return wset.Meet(a, a) },
		"Cat with the others":  func(a []string) []string { l, _ := wset.Cat(4, a, set("")); return l },
		"Cat with them behind": func(a []string) []string { l, _ := wset.Cat(4, set(""), a); return l },
	} {
		want := set("a", "ab", "b")
		a := spare(want...)
		one, two := call(a), call(a)
		checkSet(t, name, one, want)
		clear(one)
		one = append(one, "other")
		checkSet(t, name+", again", two, want)
		checkSet(t, "the argument of "+name, a[:4], append(slices.Clone(want), "spare"))
		clear(a)
		checkSet(t, name+" with a changed argument", two, want)
		checkSet(t, name+" of the same words", call(slices.Clone(want)), want)
	}
}

func TestResultsAreTheSameEachTime(t *testing.T) {
	random := rand.New(rand.NewSource(197))
	words := shuffled(random, numbered(0, 3000, 2))
	a, b := setOf(words[:300]...), setOf(words[200:500]...)
	union, meet := setOf(words[:500]...), setOf(words[200:300]...)
	short := setOf(word.All(7, 2)...)
	for range 50 {
		checkSet(t, "Of", wset.Of(words...), numbered(0, 3000, 2))
		checkUnion(t, union, a, b)
		checkMeet(t, meet, a, b)
		checkCat(t, setOf(word.All(7, 4)...), 4, short, short)
		checkTooLarge(t, 4, a, b)
	}
}
