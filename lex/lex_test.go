package lex_test

import (
	"math/rand"
	"regexp"
	"slices"
	"strings"
	"testing"

	"repertory/api"
	"repertory/lex"
)

// The definitions of the chapter, as expressions for the beginning of a text.
var (
	separator = regexp.MustCompile(`^(?:[ \t\n\r]|#[^\n]*)`)
	longName  = regexp.MustCompile(`^[a-zA-Z][a-zA-Z0-9_]*`)
	longTerm  = regexp.MustCompile(`^'([\x20-\x26\x28-\x5b\x5d-\x7e]+)'`)
)

// model is what All returns, by the definitions.
func model(s string) ([]lex.Token, int, api.Errno) {
	if len(s) > 65536 {
		return nil, 0, api.ErrBound
	}
	var list []lex.Token
	for at := 0; at < len(s); {
		rest := s[at:]
		if n := len(separator.FindString(rest)); n > 0 {
			at += n
			continue
		}
		kind, text, size := 0, "", 0
		if n := longName.FindString(rest); n != "" {
			kind, text, size = 1, n, len(n)
		} else if m := longTerm.FindStringSubmatch(rest); m != nil {
			kind, text, size = 2, m[1], len(m[0])
		} else if i := strings.IndexByte(":|;", rest[0]); i >= 0 {
			kind, text, size = 3+i, rest[:1], 1
		}
		if kind == 0 {
			return nil, at, api.ErrText
		}
		if len(text) > 32 {
			return nil, at, api.ErrBound
		}
		list = append(list, lex.Token{Kind: kind, Text: text, At: at})
		at += size
	}
	return list, 0, api.OK
}

// check expects the tokens of s to be list.
func check(t *testing.T, s string, list ...lex.Token) {
	t.Helper()
	got, at, errno := lex.All(s)
	if !slices.Equal(got, list) || at != 0 || errno != api.OK {
		t.Fatalf("the tokens of %q are %v, %d, %d, not %v", s, got, at, errno, list)
	}
}

// checkError expects s to have no tokens.
func checkError(t *testing.T, s string, at int, errno api.Errno) {
	t.Helper()
	list, gotAt, got := lex.All(s)
	if len(list) != 0 || gotAt != at || got != errno {
		t.Fatalf("the tokens of %.100q (%d bytes) are %v, %d, %d, not an error at %d, %d", s, len(s), list, gotAt, got, at, errno)
	}
}

// checkModel expects the tokens of s to be those by the definitions.
func checkModel(t *testing.T, s string) {
	t.Helper()
	list, at, errno := model(s)
	got, gotAt, gotErrno := lex.All(s)
	if !slices.Equal(got, list) || gotAt != at || gotErrno != errno {
		t.Fatalf("the tokens of %q are %v, %d, %d, not %v, %d, %d", s, got, gotAt, gotErrno, list, at, errno)
	}
}

func name(text string, at int) lex.Token { return lex.Token{Kind: lex.Name, Text: text, At: at} }
func term(text string, at int) lex.Token { return lex.Token{Kind: lex.Term, Text: text, At: at} }
func colon(at int) lex.Token             { return lex.Token{Kind: lex.Colon, Text: ":", At: at} }
func bar(at int) lex.Token               { return lex.Token{Kind: lex.Bar, Text: "|", At: at} }
func semi(at int) lex.Token              { return lex.Token{Kind: lex.Semi, Text: ";", At: at} }

// charset is all single bytes for which ok holds.
func charset(ok func(c byte) bool) string {
	var b []byte
	for c := range 256 {
		if ok(byte(c)) {
			b = append(b, byte(c))
		}
	}
	return string(b)
}

const letters = "abcdefghijklmnopqrstuvwxyzABCDEFGHIJKLMNOPQRSTUVWXYZ"

const named = letters + "0123456789_"

// quoted are the bytes that a terminal can contain.
func quoted() string {
	return charset(func(c byte) bool { return c >= 32 && c <= 126 && c != 39 && c != 92 })
}

// Promise 12.1.

func TestKinds(t *testing.T) {
	if lex.Name != 1 || lex.Term != 2 || lex.Colon != 3 || lex.Bar != 4 || lex.Semi != 5 {
		t.Fatal(lex.Name, lex.Term, lex.Colon, lex.Bar, lex.Semi)
	}
}

func TestTokensWrittenOut(t *testing.T) {
	check(t, "S : 'a' S | ;", name("S", 0), colon(2), term("a", 4), name("S", 8), bar(10), semi(12))
	check(t, "S:'a'S|;", name("S", 0), colon(1), term("a", 2), name("S", 5), bar(6), semi(7))
	check(t, "'a''b'", term("a", 0), term("b", 3))
	check(t, "a'b'c", name("a", 0), term("b", 1), name("c", 4))
	check(t, "'b' x1_", term("b", 0), name("x1_", 4))
	check(t, "::||;;", colon(0), colon(1), bar(2), bar(3), semi(4), semi(5))
	check(t, "ab\tcd\nef\rgh ij", name("ab", 0), name("cd", 3), name("ef", 6), name("gh", 9), name("ij", 12))
	check(t, " \t\r\n :", colon(5))
	check(t, "A_z9 Z__ q", name("A_z9", 0), name("Z__", 5), name("q", 9))
	check(t, "':' '|' ';' '#' ' ' '\"'", term(":", 0), term("|", 4), term(";", 8), term("#", 12), term(" ", 16), term("\"", 20))
	check(t, "'  '", term("  ", 0))
	check(t, "'# a' b", term("# a", 0), name("b", 6))
}

func TestNoTokens(t *testing.T) {
	for _, s := range []string{"", " ", "\t", "\n", "\r", " \t\n\r\n ", "#", "# only", "##", "#\n", "#\n#\n", " # ' $ \\ \n\t#"} {
		check(t, s)
	}
}

func TestCommentsEndBeforeTheLineFeed(t *testing.T) {
	check(t, "a#b\nc", name("a", 0), name("c", 4))
	check(t, "a#\nc", name("a", 0), name("c", 3))
	check(t, "a # b # c\n d#", name("a", 0), name("d", 11))
	check(t, "#\r:\n;", semi(4))
	check(t, "#\v:\f;\x00\n|", bar(7))
	check(t, "a#'\nb#'\nc", name("a", 0), name("b", 4), name("c", 8))
	checkError(t, "#a\n$", 3, api.ErrText)
	checkError(t, "#\n\n#\n 1", 6, api.ErrText)
}

func TestEveryByteInAComment(t *testing.T) {
	for c := range 256 {
		s := string([]byte{'#', byte(c), ':', '\n', ';'})
		if c == '\n' {
			check(t, s, colon(2), semi(4))
		} else {
			check(t, s, semi(4))
		}
	}
}

func TestEveryByteAlone(t *testing.T) {
	for c := range 256 {
		s := string([]byte{byte(c)})
		switch {
		case strings.Contains(letters, s):
			check(t, s, name(s, 0))
		case s == ":":
			check(t, s, colon(0))
		case s == "|":
			check(t, s, bar(0))
		case s == ";":
			check(t, s, semi(0))
		case strings.Contains(" \t\n\r#", s):
			check(t, s)
		default:
			checkError(t, s, 0, api.ErrText)
		}
	}
}

func TestEveryByteBetweenNames(t *testing.T) {
	for c := range 256 {
		s := string([]byte{'a', byte(c), 'b'})
		switch mid := s[1:2]; {
		case strings.Contains(named, mid):
			check(t, s, name(s, 0))
		case mid == ":":
			check(t, s, name("a", 0), colon(1), name("b", 2))
		case mid == "|":
			check(t, s, name("a", 0), bar(1), name("b", 2))
		case mid == ";":
			check(t, s, name("a", 0), semi(1), name("b", 2))
		case strings.Contains(" \t\n\r", mid):
			check(t, s, name("a", 0), name("b", 2))
		case mid == "#":
			check(t, s, name("a", 0))
		default:
			checkError(t, s, 1, api.ErrText)
		}
	}
}

func TestEveryByteInATerminal(t *testing.T) {
	for c := range 256 {
		text := string([]byte{byte(c)})
		for _, text := range []string{text, text + "a", "a" + text, "a" + text + "a"} {
			s := "x '" + text + "'"
			if strings.Contains(quoted(), string([]byte{byte(c)})) {
				check(t, s, name("x", 0), term(text, 2))
			} else if c != '\'' {
				checkError(t, s, 2, api.ErrText)
			}
		}
	}
	checkError(t, "x '''", 2, api.ErrText)
	checkError(t, "x ''a'", 2, api.ErrText)
	checkError(t, "x 'a''", 5, api.ErrText)
	checkError(t, "x 'a'a'", 6, api.ErrText)
}

func TestOffsetsOfErrors(t *testing.T) {
	for s, at := range map[string]int{
		"'a": 0, "S : $": 4, "a $": 2, "_a": 0, "1": 0, "1a": 0, "a 1": 2, "a'b'1": 4, "''": 0, "'": 0, "a '": 2,
		"'a\nb'": 0, "'a\\'": 0, "'\\''": 0, "'a#b\n'": 0, "'é'": 0, "é": 0, "aé": 1, "a\u00a0b": 1, "a\vb": 1, "a\fb": 1, "a\x00": 1,
		"a:\"b\"": 2, "a=b": 1, "a-b": 1, "a.b": 1, "\xff": 0, "a\x80": 1, "'a' 'b": 4, "$ '": 0, "a $ %": 2, "' 'x'y": 4, "''''": 0,
	} {
		checkError(t, s, at, api.ErrText)
	}
}

func TestLongNames(t *testing.T) {
	for _, c := range []string{"y", "Z", "a_", "a1", "A9_"} {
		long := strings.Repeat(c, 40)
		for n := 1; n <= 32; n++ {
			check(t, "x "+long[:n]+":", name("x", 0), name(long[:n], 2), colon(2+n))
		}
		for n := 33; n <= 40; n++ {
			checkError(t, "x "+long[:n]+":", 2, api.ErrBound)
			checkError(t, long[:n], 0, api.ErrBound)
			checkError(t, long[:n]+"$", 0, api.ErrBound)
		}
	}
	checkError(t, "1"+strings.Repeat("y", 40), 0, api.ErrText)
	checkError(t, "_"+strings.Repeat("y", 40), 0, api.ErrText)
	check(t, strings.Repeat("y", 32)+"'y'", name(strings.Repeat("y", 32), 0), term("y", 32))
	checkError(t, strings.Repeat("y", 32)+"$", 32, api.ErrText)
}

func TestLongTerminals(t *testing.T) {
	for _, c := range []string{"y", " ", "~ ", "#;", "!0"} {
		long := strings.Repeat(c, 40)
		for n := 1; n <= 32; n++ {
			check(t, "x'"+long[:n]+"':", name("x", 0), term(long[:n], 1), colon(3+n))
			checkError(t, "x'"+long[:n], 1, api.ErrText)
		}
		for n := 33; n <= 40; n++ {
			checkError(t, "x'"+long[:n]+"':", 1, api.ErrBound)
			checkError(t, "'"+long[:n]+"'", 0, api.ErrBound)
		}
	}
}

func TestLongTerminalsAreClosedAndAllowed(t *testing.T) {
	for n := 33; n <= 70; n++ {
		long := "'" + strings.Repeat("y", n)
		checkError(t, long, 0, api.ErrText)
		checkError(t, long+"\n'", 0, api.ErrText)
		checkError(t, long+"\\'", 0, api.ErrText)
		checkError(t, long+"\x7f'", 0, api.ErrText)
		checkError(t, long+"\x1fy'", 0, api.ErrText)
		checkError(t, long+"é'", 0, api.ErrText)
		checkError(t, "'\t"+long[1:]+"'", 0, api.ErrText)
		checkError(t, long+"'$", 0, api.ErrBound)
	}
	checkError(t, "'"+strings.Repeat("y", 65534)+"'", 0, api.ErrBound)
	checkError(t, "'"+strings.Repeat("y", 65535), 0, api.ErrText)
	checkError(t, strings.Repeat("y", 65536), 0, api.ErrBound)
}

func TestTheFirstErrorCounts(t *testing.T) {
	long := strings.Repeat("y", 33)
	checkError(t, "$ "+long, 0, api.ErrText)
	checkError(t, long+" $", 0, api.ErrBound)
	checkError(t, "a 1 '"+long+"'", 2, api.ErrText)
	checkError(t, "a '"+long+"' 1", 2, api.ErrBound)
	checkError(t, "'"+long+" "+long, 0, api.ErrText)
}

func TestLongTexts(t *testing.T) {
	const most = 65536
	check(t, strings.Repeat(" ", most))
	check(t, "#"+strings.Repeat("#", most-1))
	check(t, strings.Repeat(" ", most-1)+";", semi(most-1))
	check(t, strings.Repeat("\n", most-4)+"'x'a", term("x", most-4), name("a", most-1))
	checkError(t, strings.Repeat(" ", most-1)+"$", most-1, api.ErrText)
	checkError(t, strings.Repeat(" ", most-33)+strings.Repeat("y", 33), most-33, api.ErrBound)
	for _, s := range []string{" ", "#", ":", "a", "a ", "'a'", "$", "'", "\x00", "é"} {
		text := strings.Repeat(s, most/len(s)+1)
		checkError(t, text, 0, api.ErrBound)
		checkError(t, text[:most+1], 0, api.ErrBound)
	}
	checkError(t, " $"+strings.Repeat(" ", most), 0, api.ErrBound)
	var list []lex.Token
	for at := range most {
		list = append(list, bar(at))
	}
	check(t, strings.Repeat("|", most), list...)
}

// atoms are texts of which texts of all kinds can be put together.
func atoms() []string {
	return []string{"a", "B", "_", "0", "'", "\\", ":", "|", ";", " ", "\n", "\r", "\t", "#", "$", "~", "\x7f", "\xc3"}
}

func TestShortTextsByTheDefinition(t *testing.T) {
	texts := []string{""}
	for range 4 {
		var longer []string
		for _, s := range texts {
			for _, a := range atoms() {
				checkModel(t, s+a)
				longer = append(longer, s+a)
			}
		}
		texts = longer
	}
}

func TestTextsByTheDefinition(t *testing.T) {
	random := rand.New(rand.NewSource(12))
	parts := append(atoms(), "'a'", "' + '", "'b", "# c\n", "S : ", " | ", " ; ", strings.Repeat("n", 32), strings.Repeat("n", 33),
		"'"+strings.Repeat("t", 32)+"'", "'"+strings.Repeat("t", 33)+"'", "x1", "Expr")
	tame := []string{"a", "B", "a_0 ", "'a'", "' + '", "# c\n", "# ' $\r\n", "S : ", "|", ";", " ", "\n", "\r", "\t", strings.Repeat("n", 32) + ":", "'" + strings.Repeat("t", 32) + "'"}
	whole := 0
	for range 40000 {
		from := tame
		if random.Intn(3) == 0 {
			from = parts
		}
		s := ""
		for range random.Intn(30) {
			s += from[random.Intn(len(from))]
		}
		checkModel(t, s)
		if _, _, errno := lex.All(s); errno == api.OK {
			whole++
		}
	}
	if whole < 10000 {
		t.Fatalf("only %d texts consist of tokens", whole)
	}
}

func TestEachCallHasItsOwnTokens(t *testing.T) {
	const s = "S : 'a' S | ;"
	one, _, _ := lex.All(s)
	for i := range one {
		one[i] = lex.Token{}
	}
	one = append(one[:3], semi(1), semi(2))
	check(t, s, name("S", 0), colon(2), term("a", 4), name("S", 8), bar(10), semi(12))
}

// Promise 12.2.

func TestNamesAndTerminalsWrittenOut(t *testing.T) {
	for _, s := range []string{"a", "z", "A", "Z", "a_1", "S", "x__", "Expr2", "a0123456789", strings.Repeat("y", 32)} {
		if !lex.IsName(s) {
			t.Errorf("%q is no name", s)
		}
	}
	for _, s := range []string{"", "1a", "_", "_a", "0", "a b", " a", "a ", "a-b", "a'", "'a'", "é", "aé", "a\n", "a\x00", "\xff", "a:", "#", "a#", strings.Repeat("y", 33), strings.Repeat("y", 1<<20)} {
		if lex.IsName(s) {
			t.Errorf("%.50q is a name", s)
		}
	}
	for _, s := range []string{"a", " ", " a", "  ", "~", "+", "# ;", "1", "_", "\"", "&", "(", "[", "]", strings.Repeat("y", 32), strings.Repeat(" ", 32)} {
		if !lex.IsTerm(s) {
			t.Errorf("%q is no terminal", s)
		}
	}
	for _, s := range []string{"", "'", "''", "'a'", "a'", "\\", "a\\b", "a\n", "\t", "\x1f", "\x7f", "\x00", "é", "\xff", strings.Repeat("y", 33), strings.Repeat(" ", 1<<20)} {
		if lex.IsTerm(s) {
			t.Errorf("%.50q is a terminal", s)
		}
	}
}

func TestEveryByteOfNamesAndTerminals(t *testing.T) {
	inTerm := quoted()
	if len(inTerm) != 93 {
		t.Fatalf("a terminal can contain %d different bytes", len(inTerm))
	}
	for c := range 256 {
		b := string([]byte{byte(c)})
		if lex.IsName(b) != strings.Contains(letters, b) {
			t.Errorf("%q alone is a name: %v", b, lex.IsName(b))
		}
		for at := 1; at < 32; at++ {
			s := strings.Repeat("a", at) + b + strings.Repeat("a", 31-at)
			if lex.IsName(s) != strings.Contains(named, b) {
				t.Errorf("%q is a name: %v", s, lex.IsName(s))
			}
		}
		for at := range 32 {
			s := strings.Repeat("a", at) + b + strings.Repeat("a", 31-at)
			if lex.IsTerm(s) != strings.Contains(inTerm, b) {
				t.Errorf("%q is a terminal: %v", s, lex.IsTerm(s))
			}
		}
		if lex.IsTerm(b) != strings.Contains(inTerm, b) {
			t.Errorf("%q alone is a terminal: %v", b, lex.IsTerm(b))
		}
	}
}

func TestLengthsOfNamesAndTerminals(t *testing.T) {
	for n := range 100 {
		s := strings.Repeat("a", n)
		if ok := n >= 1 && n <= 32; lex.IsName(s) != ok || lex.IsTerm(s) != ok {
			t.Errorf("%d letters are a name: %v, a terminal: %v", n, lex.IsName(s), lex.IsTerm(s))
		}
	}
}

// A text is a name exactly if it is the only token of the text, and a terminal's if it is that of the text in quotes.
func TestNamesAndTerminalsAreThoseOfTokens(t *testing.T) {
	random := rand.New(rand.NewSource(122))
	from := append(atoms(), "abc", "a_1", "12345678", strings.Repeat("b", 30))
	for range 20000 {
		s := ""
		for range random.Intn(6) {
			s += from[random.Intn(len(from))]
		}
		list, _, _ := lex.All(s)
		if lex.IsName(s) != slices.Equal(list, []lex.Token{name(s, 0)}) {
			t.Fatalf("%q is a name: %v, its tokens are %v", s, lex.IsName(s), list)
		}
		list, _, _ = lex.All("'" + s + "'")
		if lex.IsTerm(s) != slices.Equal(list, []lex.Token{term(s, 0)}) {
			t.Fatalf("%q is a terminal: %v, the tokens in quotes are %v", s, lex.IsTerm(s), list)
		}
	}
}
