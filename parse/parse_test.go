package parse_test

import (
	"math/rand"
	"regexp"
	"slices"
	"strings"
	"testing"

	"repertory/api"
	"repertory/lex"
	"repertory/parse"
)

// The definitions of the chapter, as expressions for the kinds of the tokens: n, t, :, | and ;.
var (
	grammarText = regexp.MustCompile(`^(?:n:[nt|]*;)+$`)
	aRule       = regexp.MustCompile(`n:[nt|]*;`)
	beginning   = regexp.MustCompile(`^(?:n:[nt|]*;)*(?:n(?::[nt|]*)?)?$`)
)

// model is what All returns, by the definitions.
func model(s string) ([]parse.Line, int, api.Errno) {
	tokens, at, errno := lex.All(s)
	if errno != api.OK {
		return nil, at, errno
	}
	kinds := ""
	for _, t := range tokens {
		kinds += " nt:|;"[t.Kind : t.Kind+1]
	}
	if !grammarText.MatchString(kinds) {
		return nil, stop(tokens, kinds, len(s)), api.ErrSyntax
	}
	var list []parse.Line
	for _, place := range aRule.FindAllStringIndex(kinds, -1) {
		list = append(list, lineOf(tokens[place[0]:place[1]], kinds[place[0]:place[1]]))
	}
	return list, 0, api.OK
}

// stop is the offset of the first token with which no grammar text begins, or the end.
func stop(tokens []lex.Token, kinds string, end int) int {
	for i, t := range tokens {
		if !beginning.MatchString(kinds[:i+1]) {
			return t.At
		}
	}
	return end
}

// lineOf is the rule that tokens are.
func lineOf(tokens []lex.Token, kinds string) parse.Line {
	l := parse.Line{Name: tokens[0].Text}
	at := 2
	for _, alt := range strings.Split(kinds[2:len(kinds)-1], "|") {
		var items []parse.Item
		for i := range alt {
			items = append(items, parse.Item{Term: alt[i] == 't', Text: tokens[at+i].Text})
		}
		l.Alts = append(l.Alts, items)
		at += len(alt) + 1
	}
	return l
}

// textOf is what Text returns, by the definitions: the parts of a line are joined by spaces.
func textOf(lines ...parse.Line) string {
	s := ""
	for _, l := range lines {
		parts := []string{l.Name, ":"}
		for i, alt := range l.Alts {
			if i > 0 {
				parts = append(parts, "|")
			}
			for _, item := range alt {
				quote := ""
				if item.Term {
					quote = "'"
				}
				parts = append(parts, quote+item.Text+quote)
			}
		}
		s += strings.Join(append(parts, ";"), " ") + "\n"
	}
	return s
}

func sameLine(a, b parse.Line) bool {
	return a.Name == b.Name && slices.EqualFunc(a.Alts, b.Alts, slices.Equal[[]parse.Item])
}

func same(a, b []parse.Line) bool { return slices.EqualFunc(a, b, sameLine) }

// line is a rule with its alternatives.
func line(name string, alts ...[]parse.Item) parse.Line { return parse.Line{Name: name, Alts: alts} }

// alt is an alternative, of which the words in quotes are terminals.
func alt(words ...string) []parse.Item {
	var list []parse.Item
	for _, w := range words {
		text := strings.Trim(w, "'")
		list = append(list, parse.Item{Term: text != w, Text: text})
	}
	return list
}

// check expects the rules of s to be list.
func check(t *testing.T, s string, list ...parse.Line) {
	t.Helper()
	got, at, errno := parse.All(s)
	if !same(got, list) || at != 0 || errno != api.OK {
		t.Fatalf("the rules of %.200q are %.200v, %d, %d, not %.200v", s, got, at, errno, list)
	}
}

// checkError expects s to have no rules.
func checkError(t *testing.T, s string, at int, errno api.Errno) {
	t.Helper()
	list, gotAt, got := parse.All(s)
	if len(list) != 0 || gotAt != at || got != errno {
		t.Fatalf("the rules of %.100q (%d bytes) are %.200v, %d, %d, not an error at %d, %d", s, len(s), list, gotAt, got, at, errno)
	}
}

// checkModel expects the rules of s to be those by the definitions, and tells whether it has some.
func checkModel(t *testing.T, s string) bool {
	t.Helper()
	list, at, errno := model(s)
	got, gotAt, gotErrno := parse.All(s)
	if !same(got, list) || gotAt != at || gotErrno != errno {
		t.Fatalf("the rules of %q are %v, %d, %d, not %v, %d, %d", s, got, gotAt, gotErrno, list, at, errno)
	}
	return errno == api.OK
}

// Promise 13.1.

func TestRulesWrittenOut(t *testing.T) {
	check(t, "S : 'a' S | ;", line("S", alt("'a'", "S"), alt()))
	check(t, "S:'a'S|;", line("S", alt("'a'", "S"), alt()))
	check(t, "S : ;", line("S", alt()))
	check(t, "S:;", line("S", alt()))
	check(t, "S:|;", line("S", alt(), alt()))
	check(t, "S:||;", line("S", alt(), alt(), alt()))
	check(t, "S:|a;", line("S", alt(), alt("a")))
	check(t, "S:a|;", line("S", alt("a"), alt()))
	check(t, "S:a||'b';", line("S", alt("a"), alt(), alt("'b'")))
	check(t, "S:a b|c d e|f;", line("S", alt("a", "b"), alt("c", "d", "e"), alt("f")))
	check(t, "S : S S ; S : 'S' ;", line("S", alt("S", "S")), line("S", alt("'S'")))
	check(t, "A:B;B:C;C:;", line("A", alt("B")), line("B", alt("C")), line("C", alt()))
	check(t, "# first\nS # name\n:# colon\n'a'# a\n|# bar\nB# B\n;# end", line("S", alt("'a'"), alt("B")))
	check(t, "\tS\r\n:\n\n'a'\n;\n", line("S", alt("'a'")))
	check(t, "S : ':' '|' ';' '#' ' ' ;", line("S", alt("':'", "'|'", "';'", "'#'", "' '")))
	check(t, "x_1 : Y9 ' + ' 'y9' ; Y9 : ;", line("x_1", alt("Y9", "' + '", "'y9'")), line("Y9", alt()))
	check(t, "S : 'a' 'a' 'a' ;", line("S", alt("'a'", "'a'", "'a'")))
	check(t, "A:a;B:b|c;C:;D:'d'|'e'f|;", line("A", alt("a")), line("B", alt("b"), alt("c")), line("C", alt()), line("D", alt("'d'"), alt("'e'", "f"), alt()))
}

func TestNamesAndTerminalsDiffer(t *testing.T) {
	list, _, errno := parse.All("a : a 'a' ;")
	want := []parse.Item{{Term: false, Text: "a"}, {Term: true, Text: "a"}}
	if errno != api.OK || len(list) != 1 || len(list[0].Alts) != 1 || !slices.Equal(list[0].Alts[0], want) {
		t.Fatal(list, errno)
	}
}

func TestTokensThatCannotContinue(t *testing.T) {
	for s, at := range map[string]int{
		"'a' : ;": 0, ": ;": 0, "| ;": 0, ";": 0, " ;": 1, "#\n:": 2,
		"S S": 2, "S 'a'": 2, "S | ;": 2, "S ;": 2, "S\n;": 2,
		"S : :": 4, "S::": 2, "S : 'a' : ;": 8, "S : a | b : c ;": 10, "S : | :": 6, "S : ':' :": 8,
		"S : ; ;": 6, "S : ; : ;": 6, "S : ; | ;": 6, "S : ; 'a' : ;": 6, "S:;;": 3, "S : ; # c\n ;": 11,
		"S : ; A ;": 8, "S : ; A A : ;": 8, "S : ; A 'a'": 8, "S : ; A : : ;": 10, "S:;A:;|": 6,
		"S : 'a' T : 'b' ;": 10, "S : : : :": 4,
	} {
		checkError(t, s, at, api.ErrSyntax)
	}
}

func TestTextsThatEndTooEarly(t *testing.T) {
	for _, s := range []string{
		"", " ", "\n", "#", " #x", "# : ;", "S", "S ", "S#", "S :", "S:", "S : 'a'", "S : a", "S : |", "S : 'a' |", "S : 'a' | ", "S : ';'", "S : # ;", "S : #\n",
		"S : ; A", "S : ; A # : ;", "S : ; A :", "S : ; A : B", "S : ; A : |\n\n", "S:;A:;B",
	} {
		checkError(t, s, len(s), api.ErrSyntax)
	}
	for _, s := range []string{"S : ; ", "S : ;#", "S : ; # A", "S : ;\n\n"} {
		check(t, s, line("S", alt()))
	}
}

func TestEveryBeginningEndsTooEarlyOrIsWhole(t *testing.T) {
	const s = "S : 'a' S | ; A : | B '+' # c ;\n ; Bb:;"
	whole := 0
	for n := range len(s) + 1 {
		quotes := strings.Count(s[:n], "'")
		switch {
		case quotes%2 == 1:
			checkError(t, s[:n], strings.LastIndex(s[:n], "'"), api.ErrText)
		case checkModel(t, s[:n]):
			whole++
		default:
			checkError(t, s[:n], n, api.ErrSyntax)
		}
	}
	// From each rule's semicolon up to where the next rule begins.
	if whole != 2+2+1 {
		t.Fatalf("%d of the beginnings are grammar texts", whole)
	}
}

func TestErrorsOfTheTokens(t *testing.T) {
	long := strings.Repeat("y", 33)
	checkError(t, "S : $ ;", 4, api.ErrText)
	checkError(t, "S : 'a", 4, api.ErrText)
	checkError(t, "S : 'a\\' ;", 4, api.ErrText)
	checkError(t, "$", 0, api.ErrText)
	checkError(t, "S : ; $", 6, api.ErrText)
	checkError(t, "S : é ;", 4, api.ErrText)
	checkError(t, "S : "+long+" ;", 4, api.ErrBound)
	checkError(t, "S : '"+long+"' ;", 4, api.ErrBound)
	checkError(t, long+" : ;", 0, api.ErrBound)
	check(t, long[1:]+" : "+long[1:]+" '"+long[1:]+"' ;", line(long[1:], alt(long[1:], "'"+long[1:]+"'")))
}

func TestErrorsOfTheTokensComeFirst(t *testing.T) {
	long := strings.Repeat("y", 33)
	checkError(t, ": : : $", 6, api.ErrText)
	checkError(t, "S S $ :", 4, api.ErrText)
	checkError(t, "; '"+long+"'", 2, api.ErrBound)
	checkError(t, "| | "+long+" $", 4, api.ErrBound)
	checkError(t, "S : ; ; '", 8, api.ErrText)
	checkError(t, strings.Repeat(":", 65537), 0, api.ErrBound)
}

func TestLongTexts(t *testing.T) {
	const most = 65536
	check(t, "S:;"+strings.Repeat(" ", most-3), line("S", alt()))
	check(t, strings.Repeat("#", most-4)+"\nS:;", line("S", alt()))
	checkError(t, "S:;"+strings.Repeat(" ", most-2), 0, api.ErrBound)
	checkError(t, strings.Repeat("S:;", most/3+1), 0, api.ErrBound)
	checkError(t, "S:"+strings.Repeat("|", most-2), most, api.ErrSyntax)
	checkError(t, "S:;"+strings.Repeat(" ", most-4)+";", most-1, api.ErrSyntax)
	checkError(t, strings.Repeat(" ", most), most, api.ErrSyntax)
	checkError(t, strings.Repeat(" ", most-1)+";", most-1, api.ErrSyntax)
}

// The limits of grammars are none of grammar texts.
func TestManyRulesAlternativesAndItems(t *testing.T) {
	const most = 65536
	check(t, strings.Repeat("S:;", most/3), slices.Repeat([]parse.Line{line("S", alt())}, most/3)...)
	check(t, "S:"+strings.Repeat("|", most-3)+";", line("S", make([][]parse.Item, most-2)...))
	check(t, "S:"+strings.Repeat("a ", most/2-2)+";", line("S", slices.Repeat(alt("a"), most/2-2)))
	check(t, "S:"+strings.Repeat("'a'", most/3-2)+"|;", line("S", slices.Repeat(alt("'a'"), most/3-2), alt()))
	for _, n := range []int{64, 65, 256, 257, 4096, 4097} {
		check(t, "S :"+strings.Repeat(" 'b'", n)+" ;", line("S", slices.Repeat(alt("'b'"), n)))
		check(t, "S :"+strings.Repeat(" b |", n-1)+" b ;", line("S", slices.Repeat([][]parse.Item{alt("b")}, n)...))
		check(t, strings.Repeat("A : b ;\n", n), slices.Repeat([]parse.Line{line("A", alt("b"))}, n)...)
	}
}

// Every sequence of up to six tokens is a grammar text exactly if the definitions say so.
func TestShortTextsByTheDefinition(t *testing.T) {
	texts := []string{""}
	whole := 0
	for range 6 {
		var longer []string
		for _, s := range texts {
			for _, token := range []string{" A", " 'b'", " :", " |", " ;"} {
				if checkModel(t, s+token) {
					whole++
				}
				longer = append(longer, s+token)
			}
		}
		texts = longer
	}
	// One rule has up to three bars and items, of three kinds; two rules have no more than none.
	if whole != 1+3+9+27+1 {
		t.Fatalf("%d of the sequences are grammar texts", whole)
	}
}

// someText is a grammar text in which separators stand at random.
func someText(random *rand.Rand) string {
	separators := []string{"", "", " ", "\n", "\t", "\r\n", "# c ; '\n", " # | :\n "}
	s := ""
	add := func(token string) { s += separators[random.Intn(len(separators))] + token }
	for range 1 + random.Intn(4) {
		add([]string{"S", "A", "b_1", strings.Repeat("n", 32)}[random.Intn(4)])
		add(":")
		for range random.Intn(12) {
			add([]string{" S", " A ", "|", "|", "'a'", "'A'", "' ; '", " x9 ", "'" + strings.Repeat("t", 32) + "'"}[random.Intn(9)])
		}
		add(";")
	}
	add("")
	return s
}

func TestTextsByTheDefinition(t *testing.T) {
	random := rand.New(rand.NewSource(13))
	wrong := []string{":", ";", "|", " A ", "'b'", "$", "'", " ", strings.Repeat("y", 33)}
	broken := 0
	for range 10000 {
		s := someText(random)
		if !checkModel(t, s) {
			t.Fatalf("%q is no grammar text", s)
		}
		at := random.Intn(len(s) + 1)
		for _, changed := range []string{s[:at], s[at:], s[:at] + s[min(at+1, len(s)):], s[:at] + wrong[random.Intn(len(wrong))] + s[at:]} {
			if !checkModel(t, changed) {
				broken++
			}
		}
	}
	if broken < 10000 {
		t.Fatalf("only %d texts are no grammar texts", broken)
	}
}

func TestEachCallHasItsOwnRules(t *testing.T) {
	const s = "S : 'a' S | b ; A : ;"
	want := []parse.Line{line("S", alt("'a'", "S"), alt("b")), line("A", alt())}
	one, _, _ := parse.All(s)
	for _, l := range one {
		for _, alt := range l.Alts {
			clear(alt)
		}
		clear(l.Alts)
	}
	clear(one)
	check(t, s, want...)
}

func TestNoTwoAlternativesShareMemory(t *testing.T) {
	const s = "S : 'a' S | b c d | e | ; A : a | 'b' ; B : ;"
	want, _, _ := model(s)
	got, _, _ := parse.All(s)
	for i := range got {
		for j := range got[i].Alts {
			_ = append(got[i].Alts[j], alt("x", "y", "z")...)
		}
		_ = append(got[i].Alts, alt("x"), alt("y"))
	}
	if !same(got, want) {
		t.Fatalf("they are %v now, not %v", got, want)
	}
}

// Promise 13.2.

func TestTextsWrittenOut(t *testing.T) {
	for _, c := range []struct {
		text  string
		lines []parse.Line
	}{
		{"", nil},
		{"S : ;\n", []parse.Line{line("S", alt())}},
		{"S : | ;\n", []parse.Line{line("S", alt(), alt())}},
		{"S : | | ;\n", []parse.Line{line("S", alt(), alt(), alt())}},
		{"S : 'a' S | ;\n", []parse.Line{line("S", alt("'a'", "S"), alt())}},
		{"S : | S 'a' ;\n", []parse.Line{line("S", alt(), alt("S", "'a'"))}},
		{"S : a | 'b' | c d ;\n", []parse.Line{line("S", alt("a"), alt("'b'"), alt("c", "d"))}},
		{"S : 'a' ;\nA : | B '+ -' ;\n", []parse.Line{line("S", alt("'a'")), line("A", alt(), alt("B", "'+ -'"))}},
		{"S : S ;\nS : S ;\nS : S ;\n", []parse.Line{line("S", alt("S")), line("S", alt("S")), line("S", alt("S"))}},
		{"S : ' ' '  ' ';' '#' ;\n", []parse.Line{line("S", alt("' '", "'  '", "';'", "'#'"))}},
	} {
		if s := parse.Text(c.lines...); s != c.text {
			t.Errorf("the text of %v is %q, not %q", c.lines, s, c.text)
		}
	}
}

// Text names no condition, so lines that no grammar text has are written, too.
func TestTextsOfOddLines(t *testing.T) {
	for _, c := range []struct {
		text string
		line parse.Line
	}{
		{" : ;\n", parse.Line{}},
		{"S : ;\n", line("S")},
		{" :  '' ;\n", line("", []parse.Item{{}, {Term: true}})},
		{"a b : c d '\\' é\x00 ;\n", line("a b", []parse.Item{{Text: "c d"}, {Term: true, Text: "\\"}, {Text: "é\x00"}})},
		{"; : : ''' '\n\xff' | | ;\n", line(";", []parse.Item{{Text: ":"}, {Term: true, Text: "'"}, {Term: true, Text: "\n\xff"}}, []parse.Item{{Text: "|"}})},
		{strings.Repeat("y", 100) + " : '" + strings.Repeat("z", 200) + "' ;\n", line(strings.Repeat("y", 100), []parse.Item{{Term: true, Text: strings.Repeat("z", 200)}})},
	} {
		if s := parse.Text(c.line); s != c.text {
			t.Errorf("the text of %v is %q, not %q", c.line, s, c.text)
		}
	}
}

func TestLongTextsOfLines(t *testing.T) {
	if s := parse.Text(slices.Repeat([]parse.Line{line("S", alt("'a'"))}, 20000)...); s != strings.Repeat("S : 'a' ;\n", 20000) {
		t.Errorf("the text of 20000 rules has %d bytes", len(s))
	}
	if s := parse.Text(line("S", make([][]parse.Item, 70000)...)); s != "S :"+strings.Repeat(" |", 69999)+" ;\n" {
		t.Errorf("the text of 70000 alternatives has %d bytes", len(s))
	}
	if s := parse.Text(line("S", slices.Repeat(alt("b"), 70000))); s != "S :"+strings.Repeat(" b", 70000)+" ;\n" {
		t.Errorf("the text of 70000 items has %d bytes", len(s))
	}
}

func TestTextsOfLinesByTheDefinition(t *testing.T) {
	random := rand.New(rand.NewSource(132))
	texts := []string{"", "a", "S", " ", "'", "x_1", ";", "|", "é", strings.Repeat("n", 40)}
	for range 5000 {
		lines := make([]parse.Line, random.Intn(4))
		for i := range lines {
			lines[i].Name = texts[random.Intn(len(texts))]
			lines[i].Alts = make([][]parse.Item, random.Intn(4))
			for j := range lines[i].Alts {
				for range random.Intn(4) {
					item := parse.Item{Term: random.Intn(2) == 1, Text: texts[random.Intn(len(texts))]}
					lines[i].Alts[j] = append(lines[i].Alts[j], item)
				}
			}
		}
		if got, want := parse.Text(lines...), textOf(lines...); got != want {
			t.Fatalf("the text of %v is %q, not %q", lines, got, want)
		}
	}
}

func TestTextChangesNoLines(t *testing.T) {
	lines := []parse.Line{line("S", alt("'a'", "S"), alt()), line("A", alt("b"))}
	parse.Text(lines...)
	if !same(lines, []parse.Line{line("S", alt("'a'", "S"), alt()), line("A", alt("b"))}) {
		t.Fatal(lines)
	}
}

// Promise 13.3.

func checkAgain(t *testing.T, s string) {
	t.Helper()
	list, _, errno := parse.All(s)
	if errno != api.OK {
		t.Fatalf("%.100q is no grammar text: %d", s, errno)
	}
	check(t, parse.Text(list...), list...)
}

func TestReadingTheTextAgain(t *testing.T) {
	long := strings.Repeat("y", 32)
	for _, s := range []string{
		"S:;", "S:|;", "S : 'a' S | ;", "S:'a'S|;A:|B'+ -'\n;", "S:'|'':'';''#';", "S : ' ' '  ' ;", "# c\nS#\n:#\n;#", "S:;S:;S:S S|S;",
		long + ":" + long + "'" + long + "'|;", strings.Repeat("S:;", 10000), "S:" + strings.Repeat("|", 30000) + ";", "S:" + strings.Repeat("'a'", 16000) + ";",
	} {
		checkAgain(t, s)
	}
	random := rand.New(rand.NewSource(133))
	for range 5000 {
		checkAgain(t, someText(random))
	}
}

// The text can be as long as a text may be. (A longer one can't be read, by promise 12.1.)
func TestReadingTheLongestTextAgain(t *testing.T) {
	const most = 65536
	s := "S :" + strings.Repeat(" |", most/2-3) + " ;\n"
	list, _, errno := parse.All(s)
	if text := parse.Text(list...); len(s) != most || errno != api.OK || text != s {
		t.Fatalf("the text of the rules of %d bytes has %d: %d", len(s), len(text), errno)
	}
	checkAgain(t, s)
}
