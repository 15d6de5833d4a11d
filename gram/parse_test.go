package gram_test

import (
	"regexp"
	"slices"
	"strconv"
	"strings"
	"testing"

	"exegete/api"
	"exegete/gram"
	"exegete/scan"
)

func TestParse(t *testing.T) { // P4.2
	for i, r := range []struct {
		text string
		want api.Grammar
	}{
		{smallText, small()},
		{"S: a S | b", api.Grammar{Terms: []string{"a", "b"}, Nons: []string{"S"}, Prods: []api.Prod{prod(0, 1, non), prod(0, 2)}}},
		// Lines without tokens are none; blanks and remarks part or end what they may.
		{"\n\n  # S: x\n S:a S|b T # c\n\n#\nT : | a\n\n", small()},
		// Empty parts: ahead of, between and behind Bars, and the only one.
		{"S: a |", api.Grammar{Terms: []string{"a"}, Nons: []string{"S"}, Prods: []api.Prod{prod(0, 1), prod(0)}}},
		{"S: | a", api.Grammar{Terms: []string{"a"}, Nons: []string{"S"}, Prods: []api.Prod{prod(0), prod(0, 1)}}},
		{"S: a | | b", api.Grammar{Terms: []string{"a", "b"}, Nons: []string{"S"}, Prods: []api.Prod{prod(0, 1), prod(0), prod(0, 2)}}},
		{"S:\nT: a", api.Grammar{Terms: []string{"a"}, Nons: []string{"S", "T"}, Prods: []api.Prod{prod(0), prod(1, 1)}}},
		// Nons by the order of the rules, though T is named ahead of S's own rule; Terms by where they come first.
		{"U: T b S a\nS: c b\nT: a d", api.Grammar{
			Terms: []string{"b", "a", "c", "d"}, Nons: []string{"U", "S", "T"},
			Prods: []api.Prod{prod(0, non+2, 1, non+1, 2), prod(1, 3, 1), prod(2, 2, 4)},
		}},
		// What no word comes of, and what is not reached, is no fault here.
		{"S: S\nT: T a", api.Grammar{Terms: []string{"a"}, Nons: []string{"S", "T"}, Prods: []api.Prod{prod(0, non), prod(1, non+1, 1)}}},
		// Great and small letters are told apart, in a name too.
		{"A: a aA | Aa\nAa: aa", api.Grammar{Terms: []string{"a", "aA", "aa"}, Nons: []string{"A", "Aa"}, Prods: []api.Prod{prod(0, 1, 2), prod(0, non+1), prod(1, 3)}}},
		// The same parts of two rules are not alike.
		{"S: a | T\nT: a | T", api.Grammar{Terms: []string{"a"}, Nons: []string{"S", "T"}, Prods: []api.Prod{prod(0, 1), prod(0, non+1), prod(1, 1), prod(1, non+1)}}},
	} {
		g, line, col, e := gram.Parse(r.text)
		if !equal(g, r.want) || line != 0 || col != 0 || e != api.OK {
			t.Errorf("%d %q: %v %d %d %d", i, r.text, g, line, col, e)
		}
	}
}

// mostText has as much of all as may be: 8 rules of 3 parts of 6 names, and 8 terminals.
func mostText() string {
	text, _ := gram.Print(great())
	return text
}

// told is a text, and what Parse tells of it beside the grammar.
type told struct {
	text      string
	line, col int
	e         api.Errno
}

func holdTold(t *testing.T, l []told) {
	t.Helper()
	for i, r := range l {
		g, line, col, e := gram.Parse(r.text)
		if line != r.line || col != r.col || e != r.e || empty(g) != (e != api.OK) {
			t.Errorf("%d %q: %v %d %d %d", i, r.text, g, line, col, e)
		}
	}
}

func TestParseForm(t *testing.T) { // P4.2: what ends it by its form, each alone
	holdTold(t, []told{
		// scan's error.
		{"S: a $", 1, 6, api.ErrForm},
		{"S: a\nT: abcdefghi", 2, 4, api.ErrForm},
		{"S: a 1", 1, 6, api.ErrForm},
		// A token that may not stand there: no name of a rule, no Colon, another Colon.
		{"a: b", 1, 1, api.ErrForm},
		{": b", 1, 1, api.ErrForm},
		{"S: a\n  | b", 2, 3, api.ErrForm},
		{"S: a\n\n b", 3, 2, api.ErrForm},
		{"S", 1, 2, api.ErrForm},
		{"S  # a\nT: a", 1, 7, api.ErrForm},
		{"S a", 1, 3, api.ErrForm},
		{"S T: a", 1, 3, api.ErrForm},
		{"S | a", 1, 3, api.ErrForm},
		{"S:: a", 1, 3, api.ErrForm},
		{"S: a: b", 1, 5, api.ErrForm},
		{"S: a |: b", 1, 7, api.ErrForm},
		{"S: a T: b", 1, 7, api.ErrForm},
		{"S: a\nT: b :\n", 2, 6, api.ErrForm},
		// No rule at all.
		{"", 0, 0, api.ErrForm},
		{"\n", 0, 0, api.ErrForm},
		{"  \n# S: a\n", 0, 0, api.ErrForm},
		// No terminal at all.
		{"S:", 0, 0, api.ErrForm},
		{"S: S S | T\nT:", 0, 0, api.ErrForm},
	})
}

func TestParseWrong(t *testing.T) { // P4.2: what ends it at a name or a part, each alone
	holdTold(t, []told{
		// A rule twice, more than there may be.
		{"S: a\nS: b", 2, 1, api.ErrTwice},
		{"S: a\nT: b\n\n  S: a | b", 4, 3, api.ErrTwice},
		{rules(9), 9, 1, api.ErrLimit},
		{rules(12), 9, 1, api.ErrLimit},
		// Too many names in a part; a name that is none; a terminal too many.
		{"S: a a a a a a a", 1, 16, api.ErrLimit},
		{"S: a | a S a S a S S", 1, 20, api.ErrLimit},
		{"S: a\nT: a a a a a a | a a a a a a a a", 2, 30, api.ErrLimit},
		{"S: a T", 1, 6, api.ErrNone},
		{"S: a\nT: S | a U", 2, 10, api.ErrNone},
		{"S: s", 0, 0, api.OK},
		{"S: a b c d | e f g h i", 1, 22, api.ErrLimit},
		{"S: a b c d\nT: e f g h | a b i j", 2, 18, api.ErrLimit},
		// A production too many: at its first token, or where an empty one ends.
		{parts(24) + "\n", 0, 0, api.OK},
		{parts(24) + " | a7 a7\n", 1, len(parts(24)) + 4, api.ErrLimit},
		{parts(24) + " |\n", 1, len(parts(24)) + 3, api.ErrLimit},
		{parts(24) + " | | a7\n", 1, len(parts(24)) + 4, api.ErrLimit},
		{parts(24) + "\nT: a0", 2, 4, api.ErrLimit},
		{parts(24) + "\nT:  ", 2, 5, api.ErrLimit},
		{parts(24) + "\nT:| a0", 2, 3, api.ErrLimit},
		{parts(20) + "\nT: a0 | a1 | a2 | a3", 0, 0, api.OK},
		{parts(20) + "\nT: a0 | a1 | a2 | a3 | a0 S | S a1", 2, 24, api.ErrLimit},
		// A production twice: at its first token, or where an empty one ends.
		{"S: a | a", 1, 8, api.ErrTwice},
		{"S: a b | b a |  a b | c", 1, 17, api.ErrTwice},
		{"S: | a |", 1, 9, api.ErrTwice},
		{"S: | a | | b", 1, 10, api.ErrTwice},
		{"S:|", 1, 4, api.ErrTwice},
		{"S: ||", 1, 5, api.ErrTwice},
		{"S: a\nT: S | b | S # c", 2, 12, api.ErrTwice},
	})
}

// rules are n rules, each on a line.
func rules(n int) string {
	var text strings.Builder
	for i := range n {
		text.WriteString("R" + strconv.Itoa(i) + ": a\n")
	}
	return text.String()
}

// parts is a rule of n parts of two of 8 terminals, up to 64 of them all unlike; its line has no end.
func parts(n int) string {
	var l []string
	for i := range n {
		l = append(l, " a"+strconv.Itoa(i/8)+" a"+strconv.Itoa(i%8))
	}
	return "S:" + strings.Join(l, " |")
}

func TestParseOrder(t *testing.T) { // P4.2: of two faults the one that the sentence names first
	holdTold(t, []told{
		// scan's error is ahead of all, wherever it stands.
		{"a\nS S\n$", 3, 1, api.ErrForm},
		{"S: T\nS: a\n 9", 3, 2, api.ErrForm},
		// A token out of place is ahead of what is wrong with names.
		{"S: T | T | a a a a a a a\nS: a\nb", 3, 1, api.ErrForm},
		{rules(9) + "S: :", 10, 4, api.ErrForm},
		{"S\nT", 1, 2, api.ErrForm},
		{"S: a\nT :: :\n:", 2, 4, api.ErrForm},
		// The rules' names are ahead of their parts.
		{"S: U\nS: a", 2, 1, api.ErrTwice},
		{"S: a | a\nT: b\nT: a", 3, 1, api.ErrTwice},
		{"R: U\n" + rules(8), 9, 1, api.ErrLimit},
		// Of the 9th rule: twice is ahead of too many.
		{rules(8) + "R3: b", 9, 1, api.ErrTwice},
		{rules(9) + "R3: b", 9, 1, api.ErrLimit},
		{rules(4) + "R3: b\n" + rules(12), 5, 1, api.ErrTwice},
		// At one name: too many in a part is ahead of a name that is none, and of a terminal too many.
		{"S: a a a a a a U", 1, 16, api.ErrLimit},
		{"S: a b c d | e f g h a a i", 1, 26, api.ErrLimit},
		{"S: a U a a a a a", 1, 6, api.ErrNone},
		{"S: U U", 1, 4, api.ErrNone},
		// Name by name: the first of the part.
		{"S: a b c d | e f g h i U", 1, 22, api.ErrLimit},
		{"S: a b c d | e f g h U i", 1, 22, api.ErrNone},
		// A part's names are ahead of the part.
		{parts(24) + " | U", 1, len(parts(24)) + 4, api.ErrNone},
		{parts(24) + " | a0 U", 1, len(parts(24)) + 7, api.ErrNone},
		{parts(24) + " | a0 a0 a0 a0 a0 a0 a0", 1, len(parts(24)) + 22, api.ErrLimit},
		// Part by part: an earlier part's fault is ahead of a later one's name.
		{"S: a | a | U", 1, 8, api.ErrTwice},
		{"S: a | U | a | a", 1, 8, api.ErrNone},
		{"S: a | b | a\nT: U", 1, 12, api.ErrTwice},
		{parts(24) + " | a0 | U", 1, len(parts(24)) + 4, api.ErrLimit},
		// Too many productions is ahead of one that is there already.
		{parts(24) + " | a0 a0", 1, len(parts(24)) + 4, api.ErrLimit},
		{parts(23) + " | a0 a0", 1, len(parts(23)) + 4, api.ErrTwice},
		// That no terminal is there comes last.
		{"S: | S | S", 1, 10, api.ErrTwice},
		{"S: T", 1, 4, api.ErrNone},
		{"S:\nS:", 2, 1, api.ErrTwice},
	})
}

func TestParseLimits(t *testing.T) { // P4.2: as much as may be, and one more
	text := mostText()
	g, line, col, e := gram.Parse(text)
	if !equal(g, great()) || line != 0 || col != 0 || e != api.OK {
		t.Fatal(g, line, col, e)
	}
	// Eight rules, and a line that is none.
	if g, _, _, e := gram.Parse(rules(8) + "\n#\n"); e != api.OK || len(g.Nons) != 8 {
		t.Error(e)
	}
	// A terminal that is there is no new one.
	if g, _, _, e := gram.Parse("S: a b c d e f | g h a b c d"); e != api.OK || len(g.Terms) != 8 {
		t.Error(e)
	}
}

var lineForm = regexp.MustCompile(`^(?:U(?::[UL|]*)?)?E?`)

// reading reads a text in another way: each kind of fault is looked for by itself, in the order of the promise.
type reading struct {
	lines [][]scan.Token // with their ends
	kinds []string       // of each line a letter a token
}

func newReading(tokens []scan.Token) reading {
	var r reading
	for _, t := range tokens {
		for len(r.lines) < t.Line {
			r.lines, r.kinds = append(r.lines, nil), append(r.kinds, "")
		}
		r.lines[t.Line-1] = append(r.lines[t.Line-1], t)
		r.kinds[t.Line-1] += string("?UL:|E"[t.Kind])
	}
	return r
}

// misplaced tells the first token behind what can begin a line.
func (r reading) misplaced() (scan.Token, bool) {
	for i, kinds := range r.kinds {
		n := len(lineForm.FindString(kinds))
		if kinds[:n] == "UE" {
			n = 1
		}
		if n < len(kinds) {
			return r.lines[i][n], true
		}
	}
	return scan.Token{}, false
}

// rulesOf are the lines with a name ahead.
func (r reading) rulesOf() [][]scan.Token {
	return slices.DeleteFunc(slices.Clone(r.lines), func(l []scan.Token) bool { return len(l) == 1 })
}

// readOtherwise is Parse by a reading.
func readOtherwise(text string) (g api.Grammar, line, col int, e api.Errno) {
	tokens, line, col, e := scan.Tokens(text)
	if e != api.OK {
		return g, line, col, e
	}
	r := newReading(tokens)
	if t, ok := r.misplaced(); ok {
		return g, t.Line, t.Col, api.ErrForm
	}
	l := r.rulesOf()
	if len(l) == 0 {
		return g, 0, 0, api.ErrForm
	}
	numbers := map[string]int{}
	at, e := readRules(l, &g, numbers)
	if e == api.OK {
		at, e = readParts(l, &g, numbers)
	}
	if e == api.OK && len(g.Terms) == 0 {
		e = api.ErrForm
	}
	if e != api.OK {
		return api.Grammar{}, at.Line, at.Col, e
	}
	return g, 0, 0, api.OK
}

func readRules(l [][]scan.Token, g *api.Grammar, numbers map[string]int) (scan.Token, api.Errno) {
	for i, rule := range l {
		name := rule[0]
		if _, ok := numbers[name.Text]; ok {
			return name, api.ErrTwice
		}
		if i >= 8 {
			return name, api.ErrLimit
		}
		numbers[name.Text] = 100 + i
		g.Nons = append(g.Nons, name.Text)
	}
	return scan.Token{}, api.OK
}

// readParts goes token by token; a part's text tells whether the part was there already.
func readParts(l [][]scan.Token, g *api.Grammar, numbers map[string]int) (scan.Token, api.Errno) {
	seen := map[string]int{}
	for _, rule := range l {
		left := rule[0].Text
		p := api.Prod{Left: numbers[left]}
		key, size, first := left, 0, rule[2]
		for i, t := range rule[2:] {
			if t.Kind == scan.Upper || t.Kind == scan.Lower {
				n, e := readName(t, size, g, numbers)
				if e != api.OK {
					return t, e
				}
				p.Right = append(p.Right, n)
				key, size = key+" "+t.Text, size+1
				continue
			}
			if len(g.Prods) >= 24 {
				return first, api.ErrLimit
			}
			if seen[key]++; seen[key] > 1 {
				return first, api.ErrTwice
			}
			g.Prods = append(g.Prods, p)
			p = api.Prod{Left: p.Left}
			key, size = left, 0
			if i+3 < len(rule) {
				first = rule[i+3]
			}
		}
	}
	return scan.Token{}, api.OK
}

func readName(t scan.Token, size int, g *api.Grammar, numbers map[string]int) (int, api.Errno) {
	n, known := numbers[t.Text]
	switch {
	case size >= 6:
		return 0, api.ErrLimit
	case known:
		return n, api.OK
	case t.Kind == scan.Upper:
		return 0, api.ErrNone
	case len(g.Terms) >= 8:
		return 0, api.ErrLimit
	}
	g.Terms = append(g.Terms, t.Text)
	numbers[t.Text] = len(g.Terms)
	return len(g.Terms), api.OK
}

// hold asks Parse and the other reading, and of what is read Check, Print and Same.
func hold(t *testing.T, text string) api.Errno {
	t.Helper()
	g, line, col, e := gram.Parse(text)
	wg, wline, wcol, we := readOtherwise(text)
	if !equal(g, wg) || line != wline || col != wcol || e != we {
		t.Fatalf("%q: %v %d %d %d, but %v %d %d %d", text, g, line, col, e, wg, wline, wcol, we)
	}
	if e != api.OK {
		return e
	}
	if e := gram.Check(g); e != api.OK {
		t.Fatalf("%q: Check: %d", text, e)
	}
	printed, pe := gram.Print(g)
	back, _, _, be := gram.Parse(printed)
	if pe != api.OK || be != api.OK || !gram.Same(back, g) || !equal(back, g) {
		t.Fatalf("%q: printed %q", text, printed)
	}
	if strings.Join(strings.Fields(printed), " ") != plain(text) {
		t.Fatalf("%q: printed %q", text, printed)
	}
	return e
}

// plain is a text's tokens, a blank between; a Colon stands at its name.
func plain(text string) string {
	tokens, _, _, _ := scan.Tokens(text)
	var l []string
	for _, t := range tokens {
		if t.Kind == scan.Colon {
			l[len(l)-1] += ":"
		} else if t.Kind != scan.Line {
			l = append(l, t.Text)
		}
	}
	return strings.Join(l, " ")
}

func TestParseAllShortTexts(t *testing.T) { // P4.2, P4.3: each text of a few pieces, read in two ways
	pieces := []string{"S ", "T ", "a ", "b ", ":", "|", "\n"}
	var walk func(text string, more int)
	walk = func(text string, more int) {
		hold(t, text)
		if more == 0 {
			return
		}
		for _, p := range pieces {
			walk(text+p, more-1)
		}
	}
	walk("", 5)
	walk("S:", 5)
	walk("S:T a|\nT:", 4)
}

// TestParseLongTexts: P4.2, P4.3: texts by a fixed rule, great enough for each limit; each error comes.
func TestParseLongTexts(t *testing.T) {
	var met [9]int
	x := uint64(1)
	next := func(n int) int {
		x = x*6364136223846793005 + 1442695040888963407
		return int(x >> 33 % uint64(n))
	}
	for range 30000 {
		met[hold(t, longText(next))]++
	}
	for _, e := range []api.Errno{api.OK, api.ErrForm, api.ErrNone, api.ErrTwice, api.ErrLimit} {
		if met[e] < 50 {
			t.Error("error", e, "came", met[e], "times")
		}
	}
}

func longText(next func(n int) int) string {
	var text strings.Builder
	count, mostTerms, mostParts, mostNames := 1+next(9), 1+next(10), 1+next(9), 1+next(7)
	for i := range count {
		rule := i
		if next(40) == 0 {
			rule = next(9)
		}
		text.WriteString("N" + strconv.Itoa(rule) + ":")
		for range 1 + next(mostParts) {
			for range next(mostNames + 1) {
				switch next(3) {
				case 0:
					text.WriteString(" N" + strconv.Itoa(next(count)+next(60)/59))
				default:
					text.WriteString(" t" + strconv.Itoa(next(mostTerms)))
				}
			}
			text.WriteString(" |")
		}
		text.WriteString([]string{" t0 # x\n", "\n", " t0 t1\n\n", "\n\n", " t9\n"}[next(5)])
		if next(150) == 0 {
			text.WriteString("N:t:\n")
		}
	}
	return text.String()
}

func TestParseLong(t *testing.T) { // R1: a long text, read in time
	const many = 200000
	holdTold(t, []told{
		{strings.Repeat("\n# a\n", many) + "S: a", 0, 0, api.OK},
		{strings.Repeat("S: a\n", many), 2, 1, api.ErrTwice},
		{"S:" + strings.Repeat(" |", many), 1, 6, api.ErrTwice},
		{"S:" + strings.Repeat(" a", many), 1, 16, api.ErrLimit},
		{strings.Repeat("S: a\n", many) + ":", many + 1, 1, api.ErrForm},
	})
}

func TestParseMemory(t *testing.T) { // R4, R5: each list handed out is new memory, lists within it as well
	first, _, _, _ := gram.Parse(smallText)
	for i := range first.Prods {
		_ = append(first.Prods[i].Right, 77) // what lies behind one list is no other one's
	}
	_ = append(first.Terms, "x")
	_ = append(first.Nons, "X")
	if !equal(first, small()) {
		t.Error("lists share memory", first)
	}
	first.Prods[0].Right[0], first.Prods[1].Left, first.Terms[0], first.Nons[0] = 77, 77, "x", "X"
	if _, _, _, e := gram.Parse("S: T"); e != api.ErrNone {
		t.Error(e)
	}
	if g, _, _, e := gram.Parse(smallText); !equal(g, small()) || e != api.OK { // R2: an error changes nothing
		t.Error(g, e)
	}
}
