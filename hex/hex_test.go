package hex_test

import (
	"bytes"
	stdhex "encoding/hex"
	"math/rand"
	"strings"
	"testing"

	"repertory/api"
	"repertory/hex"
)

// digit is that of a number from 0 to 15, by the definition: 0 to 9 and a to f.
func digit(v int) byte {
	if v < 10 {
		return byte('0' + v)
	}
	return byte('a' + v - 10)
}

// texts are those of all single bytes, in order, made of the digits of both halves.
func texts() []string {
	var list []string
	for upper := range 16 {
		for lower := range 16 {
			list = append(list, string([]byte{digit(upper), digit(lower)}))
		}
	}
	return list
}

// isDigit tells whether c is one of the digits.
func isDigit(c byte) bool { return '0' <= c && c <= '9' || 'a' <= c && c <= 'f' }

// pairs are bytes with their texts written out.
func pairs() map[string]string {
	return map[string]string{
		"":                                 "",
		"\x00":                             "00",
		"\x0f":                             "0f",
		"\xf0":                             "f0",
		"\xff":                             "ff",
		"\x00\xab":                         "00ab",
		"\xab\x00":                         "ab00",
		"\x00\x00\x00":                     "000000",
		"\x01\x23\x45\x67\x89\xab\xcd\xef": "0123456789abcdef",
		"\xfe\xdc\xba\x98\x76\x54\x32\x10": "fedcba9876543210",
		"abc":                              "616263",
		"0f":                               "3066",
		"\xc3\xa9":                         "c3a9",
		"\xe3\xb0\xc4\x42\x98\xfc\x1c\x14": "e3b0c44298fc1c14",
		strings.Repeat("\x5a", 32):         strings.Repeat("5a", 32),
	}
}

// samples are byte sequences of many lengths, the same ones each time.
func samples() [][]byte {
	random := rand.New(rand.NewSource(5))
	list := [][]byte{nil, {}, make([]byte, 32), bytes.Repeat([]byte{255}, 32)}
	for n := range 70 {
		b := make([]byte, n)
		random.Read(b)
		list = append(list, b)
	}
	all := make([]byte, 256)
	for i := range all {
		all[i] = byte(i)
	}
	return append(list, all)
}

// checkText expects a text to be that of b, and of nothing else.
func checkText(t *testing.T, s string, b []byte) {
	t.Helper()
	if got := hex.Text(b); got != s {
		t.Fatalf("the text of %v is %q, not %q", b, got, s)
	}
	if got, ok := hex.Parse(s); !ok || !bytes.Equal(got, b) {
		t.Fatalf("the bytes of %q are %v, %v, not %v", s, got, ok, b)
	}
	if !hex.Is(s) {
		t.Fatalf("%q is no text", s)
	}
}

// checkNone expects a text to be that of no bytes.
func checkNone(t *testing.T, s string) {
	t.Helper()
	if b, ok := hex.Parse(s); ok || len(b) != 0 {
		t.Fatalf("the bytes of %q are %v, %v", s, b, ok)
	}
	if hex.Is(s) {
		t.Fatalf("%q is a text", s)
	}
}

// Promise 5.1.

func TestPairsWrittenOut(t *testing.T) {
	for b, s := range pairs() {
		checkText(t, s, []byte(b))
	}
}

func TestEveryByte(t *testing.T) {
	for i, s := range texts() {
		checkText(t, s, []byte{byte(i)})
	}
}

func TestEveryByteAmongOthers(t *testing.T) {
	list := texts()
	for i, s := range list {
		checkText(t, "00"+s+"ff"+s, []byte{0, byte(i), 255, byte(i)})
	}
	all := make([]byte, 256)
	for i := range all {
		all[i] = byte(i)
	}
	checkText(t, strings.Join(list, ""), all)
}

func TestSamplesByTheLibrary(t *testing.T) {
	for _, b := range samples() {
		checkText(t, stdhex.EncodeToString(b), b)
	}
}

func TestNothing(t *testing.T) {
	checkText(t, "", nil)
	checkText(t, "", []byte{})
}

func TestManyBytes(t *testing.T) {
	b := make([]byte, api.MaxFile+1)
	rand.New(rand.NewSource(51)).Read(b)
	s := hex.Text(b)
	if len(s) != 2*len(b) {
		t.Fatalf("the text of %d bytes has %d digits", len(b), len(s))
	}
	if s != stdhex.EncodeToString(b) {
		t.Fatal("the text of many bytes is another one")
	}
	if got, ok := hex.Parse(s); !ok || !bytes.Equal(got, b) || !hex.Is(s) {
		t.Fatalf("many digits give %d bytes, %v", len(got), ok)
	}
	for _, bad := range []string{s[1:], s + "0", s[:len(s)-1] + "A", "G" + s[1:]} {
		if got, ok := hex.Parse(bad); ok || len(got) != 0 || hex.Is(bad) {
			t.Fatalf("%d bytes of an invalid text, %v", len(got), ok)
		}
	}
}

func TestOddLengths(t *testing.T) {
	for n := 1; n < 130; n += 2 {
		for _, c := range []string{"0", "9", "a", "f"} {
			checkNone(t, strings.Repeat(c, n))
		}
	}
	checkNone(t, "00a")
	checkNone(t, "000fa9f")
}

func TestEveryPairOfCharacters(t *testing.T) {
	valid := 0
	for one := range 256 {
		for two := range 256 {
			s := string([]byte{byte(one), byte(two)})
			if !isDigit(byte(one)) || !isDigit(byte(two)) {
				checkNone(t, s)
				continue
			}
			valid++
			if b, ok := hex.Parse(s); !ok || len(b) != 1 || hex.Text(b) != s || !hex.Is(s) {
				t.Fatalf("the bytes of %q are %v, %v", s, b, ok)
			}
		}
	}
	if valid != 256 {
		t.Fatalf("%d texts of two characters are valid", valid)
	}
}

func TestOtherCharactersAtEveryPlace(t *testing.T) {
	const s = "0123456789abcdef"
	for at := range len(s) {
		for c := range 256 {
			changed := []byte(s)
			changed[at] = byte(c)
			if isDigit(byte(c)) {
				if b, ok := hex.Parse(string(changed)); !ok || hex.Text(b) != string(changed) {
					t.Fatalf("the bytes of %q are %v, %v", changed, b, ok)
				}
				continue
			}
			checkNone(t, string(changed))
		}
	}
}

func TestInvalidTexts(t *testing.T) {
	for _, s := range []string{
		"00AB", "00a", "AB", "Ab", "aB", "0F", "F0", "ABCDEF",
		"0x", "0xab", "x0", "#0", "-1", "+1", "1.", "1_", "_1", "1h",
		" ", "  ", " 0", "0 ", "00 ", " 00", "00 00", " 0000 ", "00\n", "0\n", "\r\n", "\t0", "0\x00", "\x00\x00",
		"0g", "g0", "0`", "0G", "0@", "0/", "0:", "/0", ":0", "`a", "gg", "zz", "OO", "l0",
		"é", "0é", "é0", "٣٣", "0٣0", "\uff10\uff11", "a\u0301", "\xff", "\xff\xff", "0\xff", "\xb0\xb1", "\xe1\xe6",
		"\x10\x11", "\x0a\x0b", "\x00\xab",
	} {
		checkNone(t, s)
	}
}

// Promise 5.1 with rules R3 and R4.

func TestArgumentsStay(t *testing.T) {
	b := append(make([]byte, 0, 20), 0, 1, 171)
	for range 3 {
		if hex.Text(b) != "0001ab" {
			t.Fatalf("the text is %q", hex.Text(b))
		}
	}
	if !bytes.Equal(b[:20], append([]byte{0, 1, 171}, make([]byte, 17)...)) {
		t.Fatalf("the bytes became %v", b[:20])
	}
}

func TestResultsAreNew(t *testing.T) {
	b := []byte{0, 1, 171}
	s := hex.Text(b)
	b[0], b[2] = 255, 255
	if s != "0001ab" {
		t.Fatalf("the text became %q", s)
	}
	one, _ := hex.Parse(s)
	two, _ := hex.Parse(s)
	clear(one)
	one = append(one[:0], 9, 9, 9)
	if three, ok := hex.Parse(s); !ok || !bytes.Equal(two, []byte{0, 1, 171}) || !bytes.Equal(three, two) || s != "0001ab" {
		t.Fatalf("changed bytes %v change other results: %v, %v", one, two, three)
	}
}
