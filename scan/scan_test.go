package scan_test

import (
	"regexp"
	"slices"
	"strings"
	"testing"

	"exegete/api"
	"exegete/scan"
)

// wrongBytes are all bytes that may stand in a remark alone.
func wrongBytes() []byte {
	var l []byte
	for c := range 256 {
		if !strings.ContainsRune(" #:|\n", rune(c)) && !alike(byte(c)) {
			l = append(l, byte(c))
		}
	}
	return l
}

func alike(c byte) bool {
	return '0' <= c && c <= '9' || 'A' <= c && c <= 'Z' || 'a' <= c && c <= 'z'
}

func up(text string, line, col int) scan.Token {
	return scan.Token{Kind: scan.Upper, Text: text, Line: line, Col: col}
}

func low(text string, line, col int) scan.Token {
	return scan.Token{Kind: scan.Lower, Text: text, Line: line, Col: col}
}

func colon(line, col int) scan.Token {
	return scan.Token{Kind: scan.Colon, Text: ":", Line: line, Col: col}
}

func bar(line, col int) scan.Token {
	return scan.Token{Kind: scan.Bar, Text: "|", Line: line, Col: col}
}

func end(line, col int) scan.Token {
	return scan.Token{Kind: scan.Line, Line: line, Col: col}
}

func TestKinds(t *testing.T) { // the numbers that the chapter gives
	if scan.Upper != 1 || scan.Lower != 2 || scan.Colon != 3 || scan.Bar != 4 || scan.Line != 5 {
		t.Error("kinds")
	}
}

func TestName(t *testing.T) { // P3.1
	for _, s := range []string{
		"A", "Z", "a", "z", "M", "m",
		"A0", "z9", "aB3", "Ab", "aaaaaaa",
		"abcdefgh", "ABCDEFGH", "Z2345678", "a0000000",
	} {
		if !scan.Name(s) {
			t.Errorf("%q is a name", s)
		}
	}
	for _, s := range []string{
		"", "0", "9", "1a", "0A", "12345678",
		"abcdefghi", "A12345678", strings.Repeat("a", 1000), strings.Repeat("a", 256+3),
		" ", " a", "a ", "a b", "a\n", "\na", "a:", "a|", "#a", "a#", "$", "_", "a_", "a-b", "a.b",
		"a\x00", "\x00", "é", "aé", "ä", "Ä", "Σ", "a١", "\xff", "a\xff",
	} {
		if scan.Name(s) {
			t.Errorf("%q is none", s)
		}
	}
}

func TestNameOfOneByte(t *testing.T) { // P3.1: each byte alone, and behind and ahead of a letter
	for n := range 256 {
		c := byte(n)
		isDigit := '0' <= c && c <= '9'
		if got := scan.Name(string([]byte{c})); got != (alike(c) && !isDigit) {
			t.Error(n, got)
		}
		if got := scan.Name(string([]byte{'a', c})); got != alike(c) {
			t.Error("a and", n, got)
		}
		if got := scan.Name(string([]byte{c, 'a'})); got != (alike(c) && !isDigit) {
			t.Error(n, "and a", got)
		}
	}
}

func TestTokens(t *testing.T) { // P3.1
	for i, r := range []struct {
		text string
		want []scan.Token
	}{
		{"", nil},
		{"A: b", []scan.Token{up("A", 1, 1), colon(1, 2), low("b", 1, 4), end(1, 5)}},
		{"A: b\n", []scan.Token{up("A", 1, 1), colon(1, 2), low("b", 1, 4), end(1, 5)}},
		{"\n", []scan.Token{end(1, 1)}},
		{"\n\n", []scan.Token{end(1, 1), end(2, 1)}},
		{"a\n\n", []scan.Token{low("a", 1, 1), end(1, 2), end(2, 1)}},
		{"\n\na", []scan.Token{end(1, 1), end(2, 1), low("a", 3, 1), end(3, 2)}},
		{" ", []scan.Token{end(1, 2)}},
		{"   \n", []scan.Token{end(1, 4)}},
		{"  a  \n", []scan.Token{low("a", 1, 3), end(1, 6)}},
		{"\n ", []scan.Token{end(1, 1), end(2, 2)}},
		// Signs need no blanks about them, and mean nothing here.
		{"S:a|", []scan.Token{up("S", 1, 1), colon(1, 2), low("a", 1, 3), bar(1, 4), end(1, 5)}},
		{"||::", []scan.Token{bar(1, 1), bar(1, 2), colon(1, 3), colon(1, 4), end(1, 5)}},
		{"|", []scan.Token{bar(1, 1), end(1, 2)}},
		{":", []scan.Token{colon(1, 1), end(1, 2)}},
		// Blanks part words; a letter, great or small, or a digit does not.
		{"a b  C", []scan.Token{low("a", 1, 1), low("b", 1, 3), up("C", 1, 6), end(1, 7)}},
		{"aB Ab a2 A2", []scan.Token{low("aB", 1, 1), up("Ab", 1, 4), low("a2", 1, 7), up("A2", 1, 10), end(1, 12)}},
		{"A Z a z", []scan.Token{up("A", 1, 1), up("Z", 1, 3), low("a", 1, 5), low("z", 1, 7), end(1, 8)}},
		{"abcdefgh:ABCDEFG8", []scan.Token{low("abcdefgh", 1, 1), colon(1, 9), up("ABCDEFG8", 1, 10), end(1, 18)}},
		// A remark ends with its line, whatever stands in it; the end of the line is still one.
		{"#", []scan.Token{end(1, 2)}},
		{"##\n", []scan.Token{end(1, 3)}},
		{"# A: b | 123456789\n", []scan.Token{end(1, 19)}},
		{"a# b", []scan.Token{low("a", 1, 1), end(1, 5)}},
		{"a #\t\r\x00\xff$é 1a", []scan.Token{low("a", 1, 1), end(1, 14)}},
		{"#a\nb #c\n#\n\nD", []scan.Token{end(1, 3), low("b", 2, 1), end(2, 5), end(3, 2), end(4, 1), up("D", 5, 1), end(5, 2)}},
		{"S: a S\n | b\n", []scan.Token{
			up("S", 1, 1), colon(1, 2), low("a", 1, 4), up("S", 1, 6), end(1, 7),
			bar(2, 2), low("b", 2, 4), end(2, 5),
		}},
	} {
		l, line, col, e := scan.Tokens(r.text)
		if !slices.Equal(l, r.want) || line != 0 || col != 0 || e != api.OK {
			t.Errorf("%d %q: %v %d %d %d", i, r.text, l, line, col, e)
		}
	}
}

func TestWrong(t *testing.T) { // P3.1: ErrForm, and where what is wrong begins
	for i, r := range []struct {
		text      string
		line, col int
	}{
		{"1", 1, 1},
		{"a 1", 1, 3},
		{"a 1b", 1, 3},
		{"1234567890", 1, 1},
		{"abcdefghi", 1, 1},
		{"ABCDEFGHI: a", 1, 1},
		{"A: b\nC: abcdefghi", 2, 4},
		{"A: b\n\n  9 a\n", 3, 3},
		{"aB bA Ab 2", 1, 10},
		{"abcdefgh9", 1, 1},
		{strings.Repeat("a", 5000), 1, 1},
		// The row is met ahead of the byte behind it.
		{"abcdefghi$", 1, 1},
		{"1$", 1, 1},
		// A byte right behind a name does not hurt the name.
		{"abcdefgh$", 1, 9},
		{"a$", 1, 2},
		{"a_b", 1, 2},
		{"A-B", 1, 2},
		{"\t", 1, 1},
		{"A: b\t# c", 1, 5},
		{"A: b\r\n", 1, 5},
		{"\r", 1, 1},
		{"A: 'a'", 1, 4},
		{"A; b", 1, 2},
		{"$", 1, 1},
		{"aé", 1, 2},
		{"A: é", 1, 4},
		{"A: b\nÄ: c", 2, 1},
		{"\n\x00", 2, 1},
		{" \xff", 1, 2},
		{"\u00a0", 1, 1},
		// A column counts bytes; what is passed over is counted too.
		{"#é\n é", 2, 2},
		{"# $ 1\n$", 2, 1},
		{"a # b\n c | d $ e", 2, 8},
		// The first of several.
		{"a $ 1\n1", 1, 3},
		{"a 1 $\n$", 1, 3},
		{"a\n1\n$", 2, 1},
	} {
		l, line, col, e := scan.Tokens(r.text)
		if len(l) != 0 || line != r.line || col != r.col || e != api.ErrForm {
			t.Errorf("%d %q: %v %d %d %d", i, r.text, l, line, col, e)
		}
	}
}

func TestWrongBytes(t *testing.T) { // P3.1: any other byte
	for _, c := range wrongBytes() {
		text := "A: b\n  " + string([]byte{c}) + "c\n"
		if l, line, col, e := scan.Tokens(text); len(l) != 0 || line != 2 || col != 3 || e != api.ErrForm {
			t.Errorf("%q: %v %d %d %d", text, l, line, col, e)
		}
		text = "#" + string([]byte{c}) + "c"
		if l, line, col, e := scan.Tokens(text); !slices.Equal(l, []scan.Token{end(1, 4)}) || line != 0 || col != 0 || e != api.OK {
			t.Errorf("%q: %v %d %d %d", text, l, line, col, e)
		}
	}
}

var piece = regexp.MustCompile(`^(?: +|#[^\n]*|[A-Za-z0-9]+|[:|\n])`)

// byPieces reads a text in another way: by a pattern, piece by piece, the end of the last line laid on.
func byPieces(text string) (l []scan.Token, line, col int, e api.Errno) {
	if text != "" && !strings.HasSuffix(text, "\n") {
		text += "\n"
	}
	line, col = 1, 1
	for text != "" {
		s := piece.FindString(text)
		switch {
		case s == "":
			return nil, line, col, api.ErrForm
		case s == "\n":
			l = append(l, end(line, col))
			line, col, text = line+1, 1, text[1:]
			continue
		case s == ":":
			l = append(l, colon(line, col))
		case s == "|":
			l = append(l, bar(line, col))
		case s[0] == ' ' || s[0] == '#':
		case s[0] <= '9' || len(s) > 8:
			return nil, line, col, api.ErrForm
		case s[0] <= 'Z':
			l = append(l, up(s, line, col))
		default:
			l = append(l, low(s, line, col))
		}
		col, text = col+len(s), text[len(s):]
	}
	return l, 0, 0, api.OK
}

func TestAllShortTexts(t *testing.T) { // P3.1: each text of a few pieces, read in two ways
	pieces := []string{"A", "z", "7", " ", "#", ":", "|", "\n", "\t", "\xc3", "Abcdefg", "zyxw"}
	var walk func(text string, more int)
	walk = func(text string, more int) {
		l, line, col, e := scan.Tokens(text)
		wl, wline, wcol, we := byPieces(text)
		if !slices.Equal(l, wl) || line != wline || col != wcol || e != we {
			t.Fatalf("%q: %v %d %d %d", text, l, line, col, e)
		}
		if more == 0 {
			return
		}
		for _, p := range pieces {
			walk(text+p, more-1)
		}
	}
	walk("", 5)
}

func TestLong(t *testing.T) { // R1: a long text, read in time
	const many = 200000
	l, line, col, e := scan.Tokens(strings.Repeat("A: b | # c\n", many))
	if len(l) != 5*many || line != 0 || col != 0 || e != api.OK {
		t.Fatal(len(l), line, col, e)
	}
	if got := l[len(l)-1]; got != end(many, 11) {
		t.Error(got)
	}
	if _, line, col, e := scan.Tokens(strings.Repeat("\n", many) + strings.Repeat(" ", many) + "?"); line != many+1 || col != many+1 || e != api.ErrForm {
		t.Error(line, col, e)
	}
}

func TestMemory(t *testing.T) { // R4, R5: each list handed out is new memory, and the same each time
	const text = "S: a S | b\n"
	first, _, _, _ := scan.Tokens(text)
	kept := slices.Clone(first)
	for i := range first {
		first[i] = scan.Token{}
	}
	_ = append(first[:1], up("X", 9, 9))
	if got, _, _, _ := scan.Tokens(text); !slices.Equal(got, kept) {
		t.Error(got)
	}
	if _, _, _, e := scan.Tokens("$"); e != api.ErrForm {
		t.Error(e)
	}
	if got, _, _, _ := scan.Tokens(text); !slices.Equal(got, kept) { // R2: an error changes nothing
		t.Error(got)
	}
}
