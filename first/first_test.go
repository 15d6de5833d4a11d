package first_test

import (
	"math"
	"slices"
	"testing"

	"exegete/api"
	"exegete/first"
	"exegete/gram"
	"exegete/reach"
	"exegete/set"
)

const (
	non = api.Non
	end = api.End
)

func prod(left int, right ...int) api.Prod {
	return api.Prod{Left: non + left, Right: right}
}

func parse(t *testing.T, text string) api.Grammar {
	t.Helper()
	g, line, col, e := gram.Parse(text)
	if e != api.OK {
		t.Fatalf("%q: error %d at %d, %d", text, e, line, col)
	}
	return g
}

func table(t *testing.T, g api.Grammar) *first.Table {
	t.Helper()
	table, e := first.New(g)
	if table == nil || e != api.OK {
		t.Fatal(g, table, e)
	}
	return table
}

// row is the numbers of names, of which each is a letter ($ is End).
func row(t *testing.T, g api.Grammar, names string) []int {
	t.Helper()
	var l []int
	for i := range len(names) {
		sym, ok := gram.Find(g, names[i:i+1])
		if !ok {
			t.Fatalf("%q is no name", names)
		}
		l = append(l, sym)
	}
	return l
}

// told is a grammar, and of rows of its symbols the names of what is told of them.
type told struct {
	text string
	rows map[string]string
}

func holdTold(t *testing.T, l []told, ask func(table *first.Table, syms []int) set.Set) {
	t.Helper()
	for _, r := range l {
		g := parse(t, r.text)
		table := table(t, g)
		for names, want := range r.rows {
			if got := ask(table, row(t, g, names)); got != set.Of(row(t, g, want)...) {
				t.Errorf("%q, %q: %v", r.text, names, got.List())
			}
		}
	}
}

func TestOf(t *testing.T) { // P6.1: the terminals with which words of these symbols begin, and End, if the empty word is one of them
	holdTold(t, []told{
		{"S: a", map[string]string{"": "$", "a": "a", "S": "a", "aa": "a", "SS": "a", "Sa": "a"}},
		{"S:\nT: a", map[string]string{"": "$", "S": "$", "SS": "$", "T": "a", "ST": "a", "SST": "a", "TS": "a"}},
		{"S: a S | b", map[string]string{"S": "ab", "aS": "a", "bS": "b", "Sa": "ab", "ab": "a", "ba": "b"}},
		{"S: a S |", map[string]string{"S": "a$", "SS": "a$", "Sa": "a", "SSSSSSSSS": "a$"}},
		// By the left, also round and round.
		{"S: S a | b", map[string]string{"S": "b", "Sa": "b"}},
		{"S: S a | b |", map[string]string{"S": "ab$", "SS": "ab$"}},
		{"S: S S | a", map[string]string{"S": "a", "SS": "a"}},
		{"S: T a | b\nT: S c | d", map[string]string{"S": "bd", "T": "bd"}},
		// What may be empty lets the next ones begin, and only that.
		{"S: T U a\nT: b |\nU: c |", map[string]string{"S": "abc", "T": "b$", "U": "c$", "TU": "bc$", "UT": "bc$", "UaT": "ca", "TaU": "ba", "aTU": "a", "TTT": "b$"}},
		{"S: T U\nT: a |\nU: b", map[string]string{"S": "ab", "TU": "ab", "UT": "b", "TT": "a$", "TTS": "ab"}},
		{"S: T U T\nT: a |\nU: T b T c | T T", map[string]string{"S": "ab$", "U": "ab$", "UT": "ab$", "Uc": "abc"}},
		{"S: T S a | b\nT:", map[string]string{"S": "b", "T": "$", "TS": "b", "TTa": "a"}},
		// Those that are not reached are told of too.
		{"S: a\nT: S | U\nU: b | U T |", map[string]string{"S": "a", "T": "ab$", "U": "ab$", "UT": "ab$", "US": "ab"}},
		// Each hangs on the next one, or on the one ahead.
		{"A: B\nB: C\nC: D\nD: E\nE: F\nF: G\nG: H\nH: | a H\n", map[string]string{"A": "a$", "D": "a$", "H": "a$", "AH": "a$"}},
		{"H: G b\nA: a\nB: A\nC: B\nD: C\nE: D\nF: E\nG: F |\n", map[string]string{"A": "a", "F": "a", "G": "a$", "H": "ab", "GG": "a$", "GH": "ab"}},
		{"S: a | b | c | d | e | f | g | h |", map[string]string{"S": "abcdefgh$", "Sh": "abcdefgh", "hS": "h"}},
	}, func(table *first.Table, syms []int) set.Set { return table.Of(syms...) })
}

// TestOfNoWord: P6.1: End, and a nonterminal of which no word comes, leave no word of a row, wherever they stand in it.
func TestOfNoWord(t *testing.T) {
	holdTold(t, []told{
		{"S: a T | b\nT: | c\nU: U a\nV: a U", map[string]string{
			"$": "", "$a": "", "a$": "", "T$": "", "$T": "", "$$": "", "bT$": "", "abcST$abcST": "",
			"U": "", "V": "", "Ua": "", "aU": "", "UT": "", "TU": "", "TV": "", "bTV": "", "UV": "", "UU": "", "abcSTVabcST": "",
			"abcST": "a", "TS": "abc", // and they that have none of them are told
		}},
	}, func(table *first.Table, syms []int) set.Set { return table.Of(syms...) })
	g := parse(t, "S: a T | b\nT: | c")
	for _, sym := range others() {
		for _, l := range [][]int{{sym}, {sym, 1}, {1, sym}, {sym, non + 1}, {non + 1, sym}, {1, 2, non, sym}, {sym, sym}, {sym, end}} {
			if got := table(t, g).Of(l...); got != 0 {
				t.Error(l, got.List())
			}
		}
	}
}

// others are no symbols of a grammar of 3 terminals and 2 nonterminals, and not End.
func others() []int {
	return []int{4, 5, 9, 63, 64, 65, non - 1, non + 2, non + 8, non + 63, non + 64, 1 << 32, 1<<32 + 1, math.MaxInt, -1, -2, -63, -64, -non, math.MinInt, math.MinInt + 1, math.MinInt + non}
}

// TestOfTrimmed: P6.1: a production with a nonterminal of which no word comes gives nothing, whatever stands ahead of that one.
func TestOfTrimmed(t *testing.T) {
	holdTold(t, []told{
		{"S: a U | b\nU: U c", map[string]string{"S": "b", "SS": "b", "a": "a"}},
		{"S: U a | b U a | T U | c\nT: d |\nU: d U", map[string]string{"S": "c", "T": "d$", "TS": "cd"}},
		{"S: T a\nT: a U | b |\nU: V\nV: U", map[string]string{"S": "ab", "T": "b$"}},
		{"S: | T\nT: a T", map[string]string{"S": "$", "T": "", "ST": ""}},
		{"S: T V | a\nT: | b\nV: c V | T V", map[string]string{"S": "a", "V": "", "T": "b$"}},
	}, func(table *first.Table, syms []int) set.Set { return table.Of(syms...) })
}

func TestAhead(t *testing.T) { // P6.1: End is put out for ahead
	g := parse(t, "S: a T | b\nT: | c\nU: U a")
	for _, r := range []struct {
		syms  string
		ahead int
		want  []int
	}{
		{"", 1, []int{1}}, {"", 2, []int{2}}, {"", 3, []int{3}}, {"", end, []int{end}},
		{"T", 1, []int{1, 3}}, {"T", 2, []int{2, 3}}, {"T", 3, []int{3}}, {"T", end, []int{end, 3}},
		{"TT", 1, []int{1, 3}}, {"TTT", end, []int{end, 3}},
		// What is not empty is followed by ahead, but does not begin with it.
		{"a", 2, []int{1}}, {"a", end, []int{1}}, {"S", 3, []int{1, 2}}, {"S", end, []int{1, 2}},
		{"TS", end, []int{1, 2, 3}}, {"Tb", 1, []int{2, 3}}, {"bT", 3, []int{2}},
		// Where no word comes, an ahead makes none.
		{"U", 1, nil}, {"U", end, nil}, {"TU", 1, nil}, {"UT", end, nil}, {"$", 1, nil}, {"$", end, nil}, {"T$", 2, nil}, {"$T", 2, nil},
	} {
		if got := table(t, g).Ahead(row(t, g, r.syms), r.ahead); got != set.Of(r.want...) {
			t.Errorf("%q %d %v", r.syms, r.ahead, got.List())
		}
	}
}

// TestAheadOfNone: P6.1: an ahead that is neither a terminal nor End is none: End goes, and nothing comes for it.
func TestAheadOfNone(t *testing.T) {
	g := parse(t, "S: a T | b\nT: | c")
	for _, ahead := range append(others(), non, non+1) {
		for _, r := range []struct {
			syms []int
			want set.Set
		}{
			{nil, 0}, {[]int{non + 1}, set.Of(3)}, {[]int{non + 1, non + 1}, set.Of(3)},
			{[]int{1}, set.Of(1)}, {[]int{non}, set.Of(1, 2)}, {[]int{non + 1, non}, set.Of(1, 2, 3)},
			{[]int{end}, 0}, {[]int{non + 1, ahead}, table(t, g).Of(non+1, ahead).Less(set.Of(end))},
		} {
			if got := table(t, g).Ahead(r.syms, ahead); got != r.want {
				t.Error(r.syms, ahead, got.List())
			}
		}
	}
}

func TestAheadOfNoSymbol(t *testing.T) { // P6.1: as with Of
	g := parse(t, "S: a T | b\nT: | c")
	for _, sym := range others() {
		for _, ahead := range []int{end, 1, 3, sym, -1, non} {
			for _, l := range [][]int{{sym}, {non + 1, sym}, {sym, non + 1}, {1, sym}} {
				if got := table(t, g).Ahead(l, ahead); got != 0 {
					t.Error(l, ahead, got.List())
				}
			}
		}
	}
}

func TestNew(t *testing.T) { // P6.1: reach.Trim's error
	one, two := []string{"a"}, []string{"S", "T"}
	for i, r := range []struct {
		g api.Grammar
		e api.Errno
	}{
		{parse(t, "S: a"), api.OK},
		{parse(t, "S: | T\nT: T a"), api.OK},
		{parse(t, "S: S a"), api.ErrEmpty},
		{parse(t, "S: a T\nT: b S\nU: a"), api.ErrEmpty},
		{api.Grammar{}, api.ErrArg},
		{api.Grammar{Terms: one, Nons: two}, api.ErrArg},
		{api.Grammar{Terms: one, Nons: two, Prods: []api.Prod{prod(0)}}, api.ErrArg},
		{api.Grammar{Terms: one, Nons: two, Prods: []api.Prod{prod(0), prod(1, 2)}}, api.ErrArg},
		{api.Grammar{Terms: one, Nons: two, Prods: []api.Prod{prod(0), prod(1, end)}}, api.ErrArg},
		{api.Grammar{Terms: one, Nons: two, Prods: []api.Prod{prod(0), prod(1), prod(2)}}, api.ErrArg},
		{api.Grammar{Terms: one, Nons: two, Prods: []api.Prod{prod(0), prod(1), {Left: math.MinInt}}}, api.ErrArg},
		{api.Grammar{Terms: one, Nons: two, Prods: []api.Prod{prod(0, non), prod(1, math.MaxInt)}}, api.ErrArg},
		{api.Grammar{Terms: one, Nons: two, Prods: []api.Prod{prod(0, non), prod(1), prod(1)}}, api.ErrArg},
	} {
		table, e := first.New(r.g)
		if e != r.e || (table != nil) != (e == api.OK) {
			t.Error(i, table, e)
		}
	}
}

// TestOrder: productions that do not stand by their Left.
func TestOrder(t *testing.T) { // P6.1
	g := api.Grammar{Terms: []string{"a", "b"}, Nons: []string{"S", "T", "U"}, Prods: []api.Prod{
		prod(2, 2, non+2), prod(1), prod(0, 2, non+2), prod(1, non), prod(0, non+1, 1, non),
		prod(0, non+1), prod(2, non+2),
	}}
	table := table(t, g)
	for sym, want := range map[int]set.Set{non: set.Of(end, 1), non + 1: set.Of(end, 1), non + 2: 0, 1: set.Of(1), 2: set.Of(2), 3: 0} {
		if got := table.Of(sym); got != want {
			t.Error(sym, got.List())
		}
	}
}

// chance is a row of numbers by a fixed rule.
type chance uint64

func (c *chance) below(n int) int {
	*c = *c*6364136223846793005 + 1442695040888963407
	return int(uint64(*c)>>33) % n
}

// grammar is one of just that many terminals and nonterminals, whose productions have at most long symbols.
func (c *chance) grammar(terms, nons, long int) api.Grammar {
	g := api.Grammar{Terms: []string{"a", "b", "c", "d", "e", "f", "g", "h"}[:terms], Nons: []string{"A", "B", "C", "D", "E", "F", "G", "H"}[:nons]}
	for i := range 2 * nons {
		p := prod(i % nons)
		for range c.below(long + 1) {
			p.Right = append(p.Right, c.symbol(g))
		}
		g.Prods = append(g.Prods, p)
	}
	return g
}

func (c *chance) symbol(g api.Grammar) int {
	if c.below(2) > 0 {
		return non + c.below(len(g.Nons))
	}
	return 1 + c.below(len(g.Terms))
}

func (c *chance) row(g api.Grammar, most int) []int {
	var l []int
	for range c.below(most + 1) {
		l = append(l, c.symbol(g))
	}
	return l
}

func isTerm(sym int) bool {
	return sym < non
}

// walked tells Of by the forms of a row: the first symbol of a form is replaced ahead of the others. A form counts where each of its nonterminals is Fruitful, as then it goes on to a word. To come to each beginning no form need be longer than most.
func walked(g api.Grammar, syms []int, most int) set.Set {
	fruitful := reach.Fruitful(g)
	bears := func(l []int) bool {
		return !slices.ContainsFunc(l, func(sym int) bool { return !isTerm(sym) && !fruitful.Has(sym-non) })
	}
	var s set.Set
	if !bears(syms) {
		return s
	}
	forms, seen := [][]int{syms}, map[string]bool{}
	for len(forms) > 0 {
		form := forms[0]
		forms = forms[1:]
		if len(form) == 0 || isTerm(form[0]) {
			s = s.With(append(form, end)[0])
			continue
		}
		for _, p := range g.Prods {
			if p.Left != form[0] || !bears(p.Right) {
				continue
			}
			next := slices.Concat(p.Right, form[1:])
			key := ""
			for _, sym := range next {
				key += string(rune(sym))
			}
			if len(next) <= most && !seen[key] {
				seen[key] = true
				forms = append(forms, next)
			}
		}
	}
	return s
}

// TestForms: P6.1 held against the forms that come of small rows, symbol by symbol.
func TestForms(t *testing.T) {
	var c chance
	sizes := map[int]int{}
	for range 1500 {
		g := c.grammar(2, 3, 2)
		if gram.Check(g) != api.OK || !reach.Fruitful(g).Has(0) {
			continue
		}
		table := table(t, g)
		for range 4 {
			syms := c.row(g, 3)
			want := walked(g, syms, 7)
			if got := table.Of(syms...); got != want {
				t.Fatal(g.Prods, syms, got.List(), want.List())
			}
			sizes[int(want)]++
			for ahead := -1; ahead <= 3; ahead++ {
				holdAhead(t, table, syms, ahead, want)
			}
		}
	}
	for s := range 8 {
		if sizes[s] < 10 {
			t.Error("the rows are too much alike", sizes)
		}
	}
}

// holdAhead asks Ahead of a grammar of two terminals.
func holdAhead(t *testing.T, table *first.Table, syms []int, ahead int, of set.Set) {
	t.Helper()
	want := of
	if of.Has(end) {
		want = of.Less(1)
		if ahead >= 0 && ahead <= 2 {
			want = want.With(ahead)
		}
	}
	if got := table.Ahead(syms, ahead); got != want {
		t.Fatal(syms, ahead, got.List(), want.List())
	}
}

// led tells Of by where the symbols of a row lead: from one that can be the first of a form to those that then can, over productions of Trim.
func led(g api.Grammar, syms []int, trim []int) set.Set {
	nullable, fruitful := reach.Nullable(g), reach.Fruitful(g)
	var s set.Set
	seen := make([]bool, non+8)
	var enter func(l []int)
	enter = func(l []int) {
		for _, sym := range l {
			if isTerm(sym) {
				s = s.With(sym)
			} else if !seen[sym] {
				seen[sym] = true
				for _, place := range trim {
					if g.Prods[place].Left == sym {
						enter(g.Prods[place].Right)
					}
				}
			}
			if isTerm(sym) || !nullable.Has(sym-non) {
				return
			}
		}
	}
	for _, sym := range syms {
		if !isTerm(sym) && !fruitful.Has(sym-non) {
			return s
		}
	}
	enter(syms)
	if !slices.ContainsFunc(syms, func(sym int) bool { return isTerm(sym) || !nullable.Has(sym-non) }) {
		s = s.With(end)
	}
	return s
}

// TestLed: P6.1 of grammars with all terminals and nonterminals that may be.
func TestLed(t *testing.T) {
	var c chance
	sizes := map[int]int{}
	for range 3000 {
		g := c.grammar(8, 8, 4)
		trim, e := reach.Trim(g)
		if e != api.OK {
			continue
		}
		table := table(t, g)
		for range 20 {
			syms := c.row(g, 6)
			want := led(g, syms, trim)
			if got := table.Of(syms...); got != want {
				t.Fatal(g.Prods, syms, got.List(), want.List())
			}
			sizes[want.Count()]++
		}
	}
	for n := range 7 {
		if sizes[n] < 10 {
			t.Error("the rows are too much alike", sizes)
		}
	}
}

// TestLong: R1: a long row; what makes it no word may stand at its end.
func TestLong(t *testing.T) {
	table := table(t, parse(t, "S: a T | b\nT: | c\nU: U"))
	l := slices.Repeat([]int{non + 1}, 1000000)
	for sym, want := range map[int]set.Set{non + 1: set.Of(end, 3), non: set.Of(1, 2, 3), 2: set.Of(2, 3), non + 2: 0, end: 0, -1: 0} {
		l[len(l)-1] = sym
		if got := table.Of(l...); got != want {
			t.Error(sym, got.List())
		}
	}
}

// TestMemory: R4, R5: what is handed in is neither changed nor kept, what lies behind its length is not read, and what is asked changes no later answer.
func TestMemory(t *testing.T) {
	g := parse(t, "S: a T | b\nT: | c\nU: U a")
	// Each list has more behind its length, which would tell otherwise if it were read.
	g.Prods = append(g.Prods, prod(2, 1), prod(1, 2))[:5]
	for i := range g.Prods {
		l := g.Prods[i].Right
		g.Prods[i].Right = append(l, non+2, 2)[:len(l)]
	}
	g.Terms, g.Nons = append(g.Terms, "d")[:3], append(g.Nons, "V")[:3]
	table, e := first.New(g)
	if e != api.OK {
		t.Fatal(e)
	}
	if !gram.Same(g, parse(t, "S: a T | b\nT: | c\nU: U a")) || g.Prods[:6][5].Left != non+2 || g.Prods[2].Right[:1][0] != non+2 || g.Terms[:4][3] != "d" {
		t.Error("changed")
	}
	for i := range g.Prods {
		clear(g.Prods[i].Right)
		g.Prods[i].Left = non + 2
	}
	clear(g.Terms)
	clear(g.Nons)
	whole := []int{non + 1, non + 1, non, end, -1}
	for range 2 {
		if got := table.Of(whole[:2]...); got != set.Of(end, 3) {
			t.Error(got.List())
		}
		if got := table.Ahead(whole[:2], 1); got != set.Of(1, 3) {
			t.Error(got.List())
		}
		if got := table.Of(whole[:3]...); got != set.Of(1, 2, 3) {
			t.Error(got.List())
		}
		if got := table.Of(whole...); got != 0 {
			t.Error(got.List())
		}
		if table.Of(non+2) != 0 || table.Of(4) != 0 || table.Of(non+3) != 0 {
			t.Error("of what there is not")
		}
	}
	if !slices.Equal(whole, []int{non + 1, non + 1, non, end, -1}) {
		t.Error(whole)
	}
}

// TestTables: R5: tables of several grammars have nothing in common.
func TestTables(t *testing.T) {
	a, b := table(t, parse(t, "S: a |")), table(t, parse(t, "S: b a"))
	if _, e := first.New(api.Grammar{}); e != api.ErrArg {
		t.Error(e)
	}
	if a.Of(non) != set.Of(end, 1) || b.Of(non) != set.Of(1) || a.Of(2) != 0 || b.Of(2) != set.Of(2) || a.Of() != set.Of(end) || b.Of() != set.Of(end) {
		t.Error(a.Of(non), b.Of(non), a.Of(2), b.Of(2))
	}
}
