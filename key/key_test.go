package key_test

import (
	"bytes"
	"crypto/sha256"
	"encoding/hex"
	"fmt"
	"math"
	"math/rand"
	"regexp"
	"slices"
	"strconv"
	"strings"
	"testing"

	"repertory/api"
	"repertory/canon"
	"repertory/gram"
	"repertory/key"
	"repertory/parse"
)

func rule(left int, right ...int) api.Rule { return api.Rule{Left: left, Right: right} }

// of is a grammar; its names and terminals are the words of two texts.
func of(names, terms string, rules ...api.Rule) api.Gram {
	return api.Gram{Names: strings.Fields(names), Terms: strings.Fields(terms), Rules: rules}
}

// read is the grammar of a text, as it is written.
func read(t *testing.T, s string) api.Gram {
	t.Helper()
	l, _, errno := parse.All(s)
	if errno != api.OK {
		t.Fatalf("%.300q is no grammar text", s)
	}
	g, errno := gram.Resolve(l...)
	if errno != api.OK {
		t.Fatalf("%.300q gives no grammar: %d", s, errno)
	}
	return g
}

// filled is a key whose hash has this byte everywhere.
func filled(b byte, k int) api.Key {
	return api.Key{Hash: [32]byte(bytes.Repeat([]byte{b}, 32)), K: k}
}

// counting is a key whose hash has different bytes, with all digits.
func counting(k int) api.Key {
	x := api.Key{K: k}
	for i := range x.Hash {
		x.Hash[i] = byte(1 + 34*i)
	}
	return x
}

// someKey is a key; its hash often has few different bytes.
func someKey(random *rand.Rand, k int) api.Key {
	x := api.Key{K: k}
	random.Read(x.Hash[:])
	if random.Intn(2) == 0 {
		for i := range x.Hash {
			x.Hash[i] = []byte{0, 9, 10, 159, 160, 255}[x.Hash[i]%6]
		}
	}
	return x
}

// textOf is the text of a key, by the definition.
func textOf(k api.Key) string {
	if k.K < 1 || k.K > 4 {
		return ""
	}
	return fmt.Sprintf("%x-%d", k.Hash, k.K)
}

// noKs are numbers that are not in [1, 4].
func noKs() []int {
	list := []int{math.MinInt, math.MinInt + 1, -256, -255, -4, -3, -2, -1, 0, 256, 257, 260, math.MaxInt32, math.MaxInt32 + 2, math.MaxInt}
	for k := 5; k < 130; k++ {
		list = append(list, k)
	}
	return list
}

// checkOf expects the key of a grammar with k to have the hash of a text.
func checkOf(t *testing.T, g api.Gram, k int, text string) {
	t.Helper()
	want := api.Key{Hash: sha256.Sum256([]byte(text)), K: k}
	if got, ok := key.Of(g, k); !ok || got != want {
		t.Fatalf("the key of %.300v with %d is %v, %t, not %v", g, k, got, ok, want)
	}
}

// checkNoKey expects that a grammar has no key with k.
func checkNoKey(t *testing.T, g api.Gram, k int) {
	t.Helper()
	if got, ok := key.Of(g, k); ok || got != (api.Key{}) {
		t.Fatalf("the key of %.300v with %d is %v, %t", g, k, got, ok)
	}
}

// checkText expects s to be the text of a key, and of no other one.
func checkText(t *testing.T, k api.Key, s string) {
	t.Helper()
	if got := key.Text(k); got != s {
		t.Fatalf("the text of %v is %q, not %q", k, got, s)
	}
	if got, ok := key.Parse(s); !ok || got != k {
		t.Fatalf("%q is the text of %v, %t, not of %v", s, got, ok, k)
	}
}

// checkNoText expects s to be the text of no key.
func checkNoText(t *testing.T, s string) {
	t.Helper()
	if got, ok := key.Parse(s); ok || got != (api.Key{}) {
		t.Fatalf("%q is the text of %v, %t", s, got, ok)
	}
}

// Promise 17.1: Of.

func TestKeysWrittenOut(t *testing.T) {
	for s, want := range map[string]string{
		"S : S 'b' | 'a' ;":              "3eab2bc12a29d69efb12146790003355d6189798e5699cb2d75f1312e3edcab8",
		"S : 'a' | S 'b' ;":              "3eab2bc12a29d69efb12146790003355d6189798e5699cb2d75f1312e3edcab8",
		"S:;":                            "f5b85c739a8676f5713c9992427e63f814978807f1d8503cc5877f56ee1bc196",
		"S : 'a' S | ; # the same":       "1e75525fe7afcdb6b2e7abbdf7232f7fb8e9330d320ec890b60fe4a7436999e3",
		"S : | 'a' S ;":                  "1e75525fe7afcdb6b2e7abbdf7232f7fb8e9330d320ec890b60fe4a7436999e3",
		"E:T|E'plus'T; T:'id'|'('E')';":  "42d8bf90c6d35d8e6010f5fb29e537dc55333a8e91babd4ffd9251bd36ed4adc",
		"E:E'plus'T|T;\nT:'('E')'|'id';": "42d8bf90c6d35d8e6010f5fb29e537dc55333a8e91babd4ffd9251bd36ed4adc",
	} {
		g := read(t, s)
		for k := 1; k <= 4; k++ {
			x, ok := key.Of(g, k)
			if !ok || x.K != k || hex.EncodeToString(x.Hash[:]) != want {
				t.Fatalf("the key of %q with %d is %v, %t", s, k, x, ok)
			}
			checkText(t, x, want+"-"+strconv.Itoa(k))
		}
	}
}

// validGrammars are small valid ones, canonical or not.
func validGrammars() []api.Gram {
	return []api.Gram{
		of("S", "", rule(0)),
		of("S", "a", rule(0)),
		of("S", "a", rule(0, -1)),
		of("S", "b a", rule(0, -1), rule(0, -2)),
		of("S B A", "y x", rule(2), rule(0, 1, 2), rule(1, -1), rule(1, -2)),
		of("S A", "", rule(0, 1), rule(1, 0)),
		of("S", "", rule(0, 0)),
	}
}

func TestEveryK(t *testing.T) {
	for _, g := range validGrammars() {
		for k := 1; k <= 4; k++ {
			checkOf(t, g, k, canon.Text(g))
		}
		for _, k := range noKs() {
			checkNoKey(t, g, k)
		}
	}
}

func TestInvalidGrammarsHaveNoKeys(t *testing.T) {
	for _, g := range []api.Gram{
		{},
		{Terms: []string{"a"}},
		{Rules: []api.Rule{{}}},
		{Names: []string{""}, Rules: []api.Rule{{}}},
		{Names: []string{"S"}, Terms: []string{""}, Rules: []api.Rule{rule(0, -1)}},
		of("S", ""),
		of("S A", "a", rule(0, -1)),
		of("S S", "a", rule(0, 1), rule(1, -1)),
		of("S", "a a", rule(0, -1, -2)),
		of("S", "a", rule(0, -1), rule(0, -1)),
		of("S", "a", rule(0, -1), rule(1, -1)),
		of("S", "a", rule(0, -1), rule(-1, -1)),
		of("S", "a", rule(0, -2)),
		of("S", "a", rule(0, -1, 1)),
		of("S", "a", rule(0, math.MaxInt)),
		of("S", "a", rule(0, math.MinInt)),
		of("1", "a", rule(0, -1)),
		of("S", "'", rule(0, -1)),
		of("S", "a", rule(0, slices.Repeat([]int{-1}, 65)...)),
		of(strings.Repeat("n", 33), "", rule(0)),
		of("S", strings.Repeat("t", 33), rule(0)),
	} {
		for k := -1; k <= 6; k++ {
			checkNoKey(t, g, k)
		}
	}
}

// withTerms is a grammar with this many terminals besides its one name.
func withTerms(n int) api.Gram {
	g := of("S", "", rule(0))
	for i := range n {
		g.Terms = append(g.Terms, fmt.Sprint("t", i))
		g.Rules = append(g.Rules, rule(0, -1-i))
	}
	return g
}

// withRules is a grammar with this many rules of 64 symbols.
func withRules(n int) api.Gram {
	g := of("S", "a b")
	for i := range n {
		right := slices.Repeat([]int{-1}, 64)
		for bit := range 13 {
			right[bit] = -1 - i>>bit&1
		}
		g.Rules = append(g.Rules, rule(0, right...))
	}
	return g
}

func TestLimitsOfGrammars(t *testing.T) {
	long := strings.Repeat("n", 32)
	for _, c := range []struct {
		within, beyond api.Gram
	}{
		{withTerms(255), withTerms(256)},
		{withRules(4096), withRules(4097)},
		{of(long, "a", rule(0, -1)), of(long+"n", "a", rule(0, -1))},
		{of("S", long, rule(0, -1)), of("S", long+"n", rule(0, -1))},
		{of("S", "a", rule(0, slices.Repeat([]int{-1}, 64)...)), of("S", "a", rule(0, slices.Repeat([]int{-1}, 65)...))},
	} {
		text := canon.Text(c.within)
		if text == "" {
			t.Fatalf("%.300v is not valid", c.within)
		}
		for k := 1; k <= 4; k++ {
			checkOf(t, c.within, k, text)
			checkNoKey(t, c.beyond, k)
		}
		checkNoKey(t, c.within, 0)
		checkNoKey(t, c.within, 5)
	}
	if n := len(canon.Text(withRules(4096))); n <= api.MaxText {
		t.Fatal(n) // A key is that of a text that is too long to be read, too.
	}
}

// Promise 17.1: Text and Parse.

func TestTextsWrittenOut(t *testing.T) {
	for s, k := range map[string]api.Key{
		strings.Repeat("00", 32) + "-1": filled(0, 1),
		strings.Repeat("ff", 32) + "-4": filled(255, 4),
		strings.Repeat("0f", 32) + "-2": filled(15, 2),
		strings.Repeat("f0", 32) + "-3": filled(240, 3),
		strings.Repeat("ab", 32) + "-1": filled(171, 1),
		strings.Repeat("23", 32) + "-4": filled(35, 4),
		strings.Repeat("0123456789abcdef", 4) + "-2": {
			Hash: [32]byte(bytes.Repeat([]byte{0x01, 0x23, 0x45, 0x67, 0x89, 0xab, 0xcd, 0xef}, 4)), K: 2},
		"fedc" + strings.Repeat("0", 58) + "98-3": {Hash: [32]byte{0: 0xfe, 1: 0xdc, 31: 0x98}, K: 3},
	} {
		checkText(t, k, s)
	}
}

func TestTextsOfSomeKeys(t *testing.T) {
	random := rand.New(rand.NewSource(171))
	for i := range 4000 {
		k := someKey(random, 1+i%4)
		checkText(t, k, textOf(k))
	}
}

func TestKeysWithoutText(t *testing.T) {
	for _, k := range append(noKs(), '1', '4') {
		for _, x := range []api.Key{filled(0, k), filled(255, k), counting(k)} {
			if s := key.Text(x); s != "" {
				t.Fatalf("the text of %v is %q", x, s)
			}
		}
	}
	checkNoText(t, "")
}

// isDigit tells whether c is a digit of a hash.
func isDigit(c byte) bool { return strings.IndexByte("0123456789abcdef", c) >= 0 }

// Every byte at each place of a text.
func TestEveryByteOfATextChanged(t *testing.T) {
	for k := 1; k <= 4; k++ {
		s := textOf(counting(k))
		for at := range len(s) {
			for c := range 256 {
				b := []byte(s)
				b[at] = byte(c)
				var want bool
				switch {
				case at < 64:
					want = isDigit(byte(c))
				case at == 64:
					want = c == '-'
				default:
					want = '1' <= c && c <= '4'
				}
				if !want {
					checkNoText(t, string(b))
					continue
				}
				x := api.Key{K: int(b[65] - '0')}
				if _, err := hex.Decode(x.Hash[:], b[:64]); err != nil {
					t.Fatal(err)
				}
				checkText(t, x, string(b))
			}
		}
	}
}

func TestTextsOfOtherLengths(t *testing.T) {
	s := textOf(counting(2))
	for n := range len(s) {
		checkNoText(t, s[:n])
		checkNoText(t, s[n+1:])
		checkNoText(t, s[:n]+s[n+1:])
		checkNoText(t, s[:n]+"é"+s[n+1:])
		for _, more := range []string{"0", "1", "a", "-", "-2", " ", "\n", "\x00", "00", s} {
			checkNoText(t, s[:n]+more+s[n:])
		}
	}
	for _, more := range []string{"0", "2", "-", "-2", " ", "\n", "\x00", s} {
		checkNoText(t, s+more)
		checkNoText(t, more+s)
	}
	for _, end := range []string{"", "-", "2", "-02", "-+2", "--2", "- 2", "-2 ", "-0", "-5", "-9", "-10", "-12", "-a", "_2", "–2", "-２", "-2-2", "-257"} {
		checkNoText(t, s[:64]+end)
	}
	for _, hash := range []string{"", strings.ToUpper(s[:64]), s[:62], s[:63], s[:64] + "0", s[:64] + "00", "0x" + s[:62], "+" + s[:63], strings.Repeat("g", 64)} {
		checkNoText(t, hash+"-2")
	}
	checkNoText(t, s[:62]+"-"+s[62:64]+"2")
	checkNoText(t, strings.Repeat("0", 66))
	checkNoText(t, strings.Repeat("-", 66))
	checkNoText(t, strings.Repeat("1", 70000))
}

// Promise 17.1: Less.

// checkLess expects two keys to be ordered by their texts.
func checkLess(t *testing.T, a, b api.Key) {
	t.Helper()
	if got, want := key.Less(a, b), textOf(a) < textOf(b); got != want {
		t.Fatalf("%v is less than %v: %t", a, b, got)
	}
}

// All keys of this list are in ascending order.
func TestOrderOfKeys(t *testing.T) {
	list := []api.Key{filled(0, 1), filled(0, 2), filled(0, 3), filled(0, 4)}
	for at := 31; at >= 0; at-- {
		for _, b := range []byte{1, 9, 10, 15, 16, 0x19, 0x1a, 0x90, 0x9f, 0xa0, 0xaf, 0xff} {
			x := api.Key{K: 1 + at%4}
			x.Hash[at] = b
			list = append(list, x)
		}
	}
	list = append(list, filled(255, 1), filled(255, 2), filled(255, 4))
	for i, a := range list {
		for j, b := range list {
			if key.Less(a, b) != (i < j) {
				t.Fatalf("%v is less than %v: %t", a, b, key.Less(a, b))
			}
			checkLess(t, a, b)
		}
	}
}

func TestOrderOfSomeKeys(t *testing.T) {
	random := rand.New(rand.NewSource(172))
	for range 20000 {
		a := someKey(random, 1+random.Intn(4))
		b := someKey(random, 1+random.Intn(4))
		if random.Intn(3) > 0 {
			b.Hash = a.Hash
		}
		if random.Intn(3) == 0 {
			b.Hash[random.Intn(32)] ^= 1 << random.Intn(8)
		}
		checkLess(t, a, b)
		checkLess(t, b, a)
		checkLess(t, a, a)
	}
}

// The text of such a key is empty: it precedes all others.
func TestOrderOfKeysWithoutText(t *testing.T) {
	for _, k := range noKs() {
		for _, hash := range []byte{0, 1, 255} {
			none := filled(hash, k)
			for _, other := range []api.Key{filled(0, 1), filled(255, 4), filled(1, 2)} {
				if !key.Less(none, other) || key.Less(other, none) {
					t.Fatalf("%v and %v", none, other)
				}
			}
			for _, other := range []api.Key{none, filled(0, 0), filled(255, 0), filled(1, 5), filled(0, -1)} {
				if key.Less(none, other) || key.Less(other, none) {
					t.Fatalf("%v and %v", none, other)
				}
			}
		}
	}
}

// Promise 17.2.

// checkName expects s to be the name of n, and of nothing else.
func checkName(t *testing.T, n key.Name, s string) {
	t.Helper()
	if got := key.Write(n); got != s {
		t.Fatalf("the name of %v is %q, not %q", n, got, s)
	}
	if got := key.Read(s); got != n {
		t.Fatalf("%q is the name of %v, not of %v", s, got, n)
	}
}

// checkNoName expects s to be the name of nothing.
func checkNoName(t *testing.T, s string) {
	t.Helper()
	if got := key.Read(s); got != (key.Name{}) {
		t.Fatalf("%.200q is the name of %v", s, got)
	}
}

// checkNotWritten expects n to have no name.
func checkNotWritten(t *testing.T, n key.Name) {
	t.Helper()
	if got := key.Write(n); got != "" {
		t.Fatalf("the name of %v is %q", n, got)
	}
}

func TestKindsAreNumbered(t *testing.T) {
	for want, kind := range []key.Kind{key.None, key.Entry, key.Temp, key.Aside, key.Journal, key.Fresh} {
		if int(kind) != want {
			t.Fatalf("%d instead of %d", kind, want)
		}
	}
}

func TestNamesWrittenOut(t *testing.T) {
	for s, n := range map[string]key.Name{
		"t-7":          {Kind: 2, N: 7},
		"t-0":          {Kind: 2},
		"t-10":         {Kind: 2, N: 10},
		"t-1000000000": {Kind: 2, N: 1000000000},
		"q-0":          {Kind: 3},
		"q-1":          {Kind: 3, N: 1},
		"q-999999999":  {Kind: 3, N: 999999999},
		"q-1000000000": {Kind: 3, N: 1000000000},
		"journal":      {Kind: 4},
		"journal.new":  {Kind: 5},

		"o-" + strings.Repeat("00", 32) + "-1": {Kind: 1, Key: filled(0, 1)},
		"o-" + strings.Repeat("ff", 32) + "-4": {Kind: 1, Key: filled(255, 4)},
		"o-" + strings.Repeat("ab", 32) + "-3": {Kind: 1, Key: filled(171, 3)},
		"o-" + textOf(counting(2)):             {Kind: 1, Key: counting(2)},
	} {
		checkName(t, n, s)
	}
}

func TestNamesOfEntries(t *testing.T) {
	random := rand.New(rand.NewSource(173))
	for i := range 4000 {
		k := someKey(random, 1+i%4)
		checkName(t, key.Name{Kind: key.Entry, Key: k}, "o-"+textOf(k))
	}
	for _, k := range noKs() {
		checkNotWritten(t, key.Name{Kind: key.Entry, Key: counting(k)})
		checkNotWritten(t, key.Name{Kind: key.Entry, Key: filled(0, k), N: 1})
	}
	checkNotWritten(t, key.Name{Kind: key.Entry})
}

// numbers are those around each power of ten and of two that a file name can have.
func numbers() []int {
	var list []int
	for n := 1; n < 1000000000; n *= 10 {
		list = append(list, n-1, n, n+1, 3*n, 9*n)
	}
	for n := 2; n < 1000000000; n *= 2 {
		list = append(list, n-1, n, n+1)
	}
	return append(list, 123456789, 987654321, 999999998, 999999999, 1000000000)
}

func TestNumbers(t *testing.T) {
	for _, n := range numbers() {
		checkName(t, key.Name{Kind: key.Temp, N: n}, fmt.Sprint("t-", n))
		checkName(t, key.Name{Kind: key.Aside, N: n}, fmt.Sprint("q-", n))
		for _, zeros := range []string{"0", "00", "000000000000", "+", "-", " ", "_"} {
			checkNoName(t, fmt.Sprint("t-", zeros, n))
			checkNoName(t, fmt.Sprint("q-", zeros, n))
		}
	}
	for _, n := range []int{math.MinInt, math.MinInt32, -1000000000, -257, -256, -2, -1, 1000000001, 1000000002, 1<<31 - 1, 1 << 31, 1 << 32, 1<<32 + 1, math.MaxInt} {
		checkNotWritten(t, key.Name{Kind: key.Temp, N: n})
		checkNotWritten(t, key.Name{Kind: key.Aside, N: n})
		checkNoName(t, fmt.Sprint("t-", n))
		checkNoName(t, fmt.Sprint("q-", n))
	}
	for _, n := range []string{
		"1000000001", "1000000010", "2000000000", "9999999999", "10000000000", "4294967296", "4294967303",
		"9223372036854775807", "9223372036854775808", "18446744073709551616", "18446744073709551623", strings.Repeat("9", 100000),
		"00", "01", "07", "000", "0000000000", "01000000000", "0" + strings.Repeat("0", 100000),
		"", "-", "+", "+0", "-0", "--0", "-1", "+1", " 1", "1 ", "1\n", "1\x00", "0x1", "0b1", "0o1", "x", "a", "f", "1a", "1e3", "1.", "1.0", "1_0", "1,0", "1-1", "-1-1", "٣", "１", "¹",
	} {
		checkNoName(t, "t-"+n)
		checkNoName(t, "q-"+n)
	}
}

func TestKindsWithoutNames(t *testing.T) {
	for _, kind := range []key.Kind{math.MinInt, -256, -2, -1, 0, 6, 7, 8, 9, 255, 256, 257, 258, 260, math.MaxInt} {
		checkNotWritten(t, key.Name{Kind: kind})
		checkNotWritten(t, key.Name{Kind: kind, N: 1})
		checkNotWritten(t, key.Name{Kind: kind, Key: counting(2), N: 1})
	}
}

// A kind has its field, and what the others contain makes no difference.
func TestFieldsOfOtherKinds(t *testing.T) {
	x := counting(2)
	for _, n := range []int{-1, 0, 1, 1000000001} {
		for _, k := range []api.Key{{}, x, filled(3, 7)} {
			for want, name := range map[string]key.Name{
				"o-" + textOf(x): {Kind: key.Entry, Key: x, N: n},
				"t-5":            {Kind: key.Temp, Key: k, N: 5},
				"q-6":            {Kind: key.Aside, Key: k, N: 6},
				"journal":        {Kind: key.Journal, Key: k, N: n},
				"journal.new":    {Kind: key.Fresh, Key: k, N: n},
			} {
				if got := key.Write(name); got != want {
					t.Fatalf("the name of %v is %q, not %q", name, got, want)
				}
			}
		}
	}
}

// nameForm is what a file name looks like, by the definition.
var nameForm = regexp.MustCompile(`\A(?:o-([0-9a-f]{64})-([1-4])|([tq])-(0|[1-9][0-9]{0,8}|1000000000)|(journal)|(journal\.new))\z`)

// nameOf is what s is the name of, by the definition.
func nameOf(s string) key.Name {
	part := nameForm.FindStringSubmatch(s)
	switch {
	case part == nil:
		return key.Name{}
	case part[5] != "":
		return key.Name{Kind: key.Journal}
	case part[6] != "":
		return key.Name{Kind: key.Fresh}
	case part[1] != "":
		hash, _ := hex.DecodeString(part[1])
		k, _ := strconv.Atoi(part[2])
		return key.Name{Kind: key.Entry, Key: api.Key{Hash: [32]byte(hash), K: k}}
	}
	n, _ := strconv.Atoi(part[4])
	return key.Name{Kind: map[string]key.Kind{"t": key.Temp, "q": key.Aside}[part[3]], N: n}
}

// checkForm expects Read to return what the definition says, and counts kinds.
func checkForm(t *testing.T, s string, count map[key.Kind]int) {
	t.Helper()
	want := nameOf(s)
	if want.Kind == key.None {
		checkNoName(t, s)
	} else {
		checkName(t, want, s)
	}
	count[want.Kind]++
}

// names are some of each kind.
func names() []string {
	return []string{
		"t-0", "t-1", "t-10", "t-907", "t-1000000000", "q-0", "q-9", "q-12", "q-999999999", "journal", "journal.new",
		"o-" + textOf(counting(1)), "o-" + textOf(filled(0, 2)), "o-" + textOf(filled(170, 3)), "o-" + textOf(filled(9, 4)),
	}
}

func TestEveryByteOfANameChanged(t *testing.T) {
	count := map[key.Kind]int{}
	for _, s := range names() {
		for at := range len(s) + 1 {
			for c := range 256 {
				b := string([]byte{byte(c)})
				checkForm(t, s[:at]+b+s[at:], count)
				if at < len(s) {
					checkForm(t, s[:at]+b+s[at+1:], count)
				}
			}
		}
	}
	for kind := key.Temp; kind <= key.Aside; kind++ {
		if count[kind] < 100 {
			t.Fatal(count)
		}
	}
	if count[key.None] < 10000 || count[key.Entry] < 1000 || count[key.Journal] != 7 || count[key.Fresh] != 11 {
		t.Fatal(count)
	}
}

func TestPartsOfNames(t *testing.T) {
	count := map[key.Kind]int{}
	list := append(names(), "o", "t", "q", "o-", "t-", "q-", "-", ".", ".new", "new", "journal.", "journal.new.", "journal-", "journal-1", "")
	for _, s := range list {
		for n := range len(s) + 1 {
			checkForm(t, s[:n], count)
			checkForm(t, s[n:], count)
		}
		for _, other := range list {
			checkForm(t, s+other, count)
			checkForm(t, s+"-"+other, count)
		}
		for _, start := range []string{"o", "t", "q", "O-", "T-", "Q-", "p-", "o--", "t--", "q--", "t_", "t:", " ", "/", "./", "journal"} {
			checkForm(t, start+s, count)
			if len(s) > 2 {
				checkForm(t, start+s[2:], count)
			}
		}
		if s != strings.ToUpper(s) {
			checkNoName(t, strings.ToUpper(s))
		}
		checkNoName(t, s+"\n")
		checkNoName(t, s+"\x00")
	}
	if count[key.None] < 1000 {
		t.Fatal(count)
	}
}

// All texts of up to six of these characters.
func TestShortNames(t *testing.T) {
	count := map[key.Kind]int{}
	var longer func(s string, n int)
	longer = func(s string, n int) {
		checkForm(t, s, count)
		if n == 0 {
			return
		}
		for _, c := range "toq-019" {
			longer(s+string(c), n-1)
		}
	}
	longer("", 6)
	if want := 1 + 2 + 2*3 + 2*9 + 2*27; count[key.Temp] != want || count[key.Aside] != want || count[key.Entry] != 0 {
		t.Fatal(count)
	}
}

func TestNamesOfSomeKeysChanged(t *testing.T) {
	random := rand.New(rand.NewSource(174))
	count := map[key.Kind]int{}
	for range 20000 {
		b := []byte("o-" + textOf(someKey(random, 1+random.Intn(4))))
		for range random.Intn(3) {
			b[random.Intn(len(b))] = "-0123456789abcdefABCDEFgot"[random.Intn(26)]
		}
		checkForm(t, string(b), count)
	}
	if count[key.None] < 3000 || count[key.Entry] < 3000 {
		t.Fatal(count)
	}
}

// Promise 17.3.

// orders are texts of equivalent grammars, group by group; grammars of different groups are not equivalent.
func orders() [][]string {
	return [][]string{
		{"S : S 'b' | 'a' ;", "S : 'a' | S 'b' ;", "# x\nS:S'b'|'a';"},
		{"S : S 'b' | 'a' | ;", "S : | S 'b' | 'a' ;", "S : 'a' | | S 'b' ;"},
		{"S : 'b' S | 'a' ;", "S : 'a' | 'b' S ;"},
		{"S : S 'a' | 'b' ;", "S : 'b' | S 'a' ;"},
		{"S : A B ; A : 'a' | ; B : 'b' ;", "S : A B ; B : 'b' ; A : | 'a' ;", "S : A B ; B : 'b' ; A : 'a' | ;"},
		{"S : B A ; A : 'a' | ; B : 'b' ;", "S : B A ; B : 'b' ; A : | 'a' ;"},
		{"T : A B ; A : 'a' | ; B : 'b' ;", "T : A B ; B : 'b' ; A : | 'a' ;"},
		{"A : B ; B : A | ;", "A : B ; B : | A ;"},
		{"B : A | ; A : B ;", "B : | A ; A : B ;"},
		{"S : ;"}, {"s : ;"}, {"S : S ;"}, {"S : 'S' ;"}, {"S : ' S' ;"}, {"S : 'S' 'S' ;"}, {"S : 'S S' ;"},
	}
}

func TestEquivalentGrammarsHaveTheSameKey(t *testing.T) {
	for i, group := range orders() {
		for _, s := range group {
			for j, others := range orders() {
				for _, other := range others {
					for k := 1; k <= 4; k++ {
						a, _ := key.Of(read(t, s), k)
						b, _ := key.Of(read(t, other), k)
						c, _ := key.Of(read(t, other), 1+k%4)
						if (a == b) != (i == j) || a == c {
							t.Fatalf("%q and %q with %d: %v, %v and %v", s, other, k, a, b, c)
						}
					}
				}
			}
		}
	}
}

// otherOrder is a grammar that differs from g only in the order of names, except for the first one, terminals and rules.
func otherOrder(random *rand.Rand, g api.Gram) api.Gram {
	names := append([]int{0}, random.Perm(len(g.Names)-1)...)
	for i := range names[1:] {
		names[i+1]++
	}
	terms := random.Perm(len(g.Terms))
	h := api.Gram{Names: make([]string, len(names)), Terms: make([]string, len(terms))}
	for n, name := range g.Names {
		h.Names[names[n]] = name
	}
	for n, term := range g.Terms {
		h.Terms[terms[n]] = term
	}
	for _, i := range random.Perm(len(g.Rules)) {
		r := rule(names[g.Rules[i].Left])
		for _, sym := range g.Rules[i].Right {
			if sym >= 0 {
				r.Right = append(r.Right, names[sym])
			} else {
				r.Right = append(r.Right, -1-terms[-1-sym])
			}
		}
		h.Rules = append(h.Rules, r)
	}
	return h
}

// someGram is a valid grammar.
func someGram(random *rand.Rand) api.Gram {
	for {
		g := of([]string{"S", "S A", "S B A", "B C A D"}[random.Intn(4)], []string{"", "x", "y x", "x z y"}[random.Intn(4)])
		for left := range g.Names {
			for range 1 + random.Intn(3) {
				r := api.Rule{Left: left}
				for range random.Intn(4) {
					r.Right = append(r.Right, random.Intn(len(g.Names)+len(g.Terms))-len(g.Terms))
				}
				g.Rules = append(g.Rules, r)
			}
		}
		if gram.Valid(g) {
			return g
		}
	}
}

func TestOrdersOfSomeGrammars(t *testing.T) {
	random := rand.New(rand.NewSource(175))
	for i := range 3000 {
		g, k := someGram(random), 1+i%4
		text := canon.Text(g)
		checkOf(t, g, k, text)
		checkOf(t, canon.Of(g), k, text)
		for range 3 {
			checkOf(t, otherOrder(random, g), k, text)
		}
		h := someGram(random)
		a, _ := key.Of(g, k)
		b, _ := key.Of(h, k)
		if (a == b) != (text == canon.Text(h)) {
			t.Fatalf("%v and %v: %v and %v", g, h, a, b)
		}
	}
}

// Rules R3 and R4: arguments are not changed, and results are the same each time.
func TestArgumentsAreNotChanged(t *testing.T) {
	random := rand.New(rand.NewSource(176))
	for range 1000 {
		g := someGram(random)
		kept := api.Gram{Names: slices.Clone(g.Names), Terms: slices.Clone(g.Terms)}
		for _, r := range g.Rules {
			kept.Rules = append(kept.Rules, rule(r.Left, slices.Clone(r.Right)...))
		}
		first, _ := key.Of(g, 3)
		second, _ := key.Of(g, 3)
		if first != second || !gram.Same(g, kept) {
			t.Fatalf("%v, was %v: %v and %v", g, kept, first, second)
		}
	}
}
