package word_test

import (
	"math"
	"slices"
	"strings"
	"testing"

	"exegete/api"
	"exegete/gram"
	"exegete/reach"
	"exegete/word"
)

const non = api.Non

func prod(left int, right ...int) api.Prod {
	return api.Prod{Left: non + left, Right: right}
}

func parse(t *testing.T, text string) api.Grammar {
	t.Helper()
	g, line, col, e := gram.Parse(text)
	if e != api.OK {
		t.Fatalf("%q: error %d at %d, %d", text, e, line, col)
	}
	return g
}

func TestLess(t *testing.T) { // P7.1: a is shorter, or as long and ahead at the first place where they differ
	for _, r := range []struct{ a, b []int }{ // a is ahead of b
		{nil, []int{1}},
		{[]int{}, []int{math.MinInt}},
		{[]int{1}, []int{2}},
		{[]int{-1}, []int{0}},
		{[]int{math.MinInt}, []int{math.MaxInt}},
		{[]int{-2}, []int{math.MaxInt}},
		{[]int{math.MinInt}, []int{1}},
		{[]int{9}, []int{1, 1}},
		{[]int{math.MaxInt}, []int{math.MinInt, math.MinInt}},
		{[]int{1}, []int{1, 0}},
		{[]int{1, 1}, []int{1, 2}},
		{[]int{1, 9}, []int{2, 1}},
		{[]int{2, 2}, []int{1, 1, 1}},
		{[]int{1, 2, 9, 9}, []int{1, 3, 0, 0}},
		{[]int{1, 2, 3, 4}, []int{1, 2, 3, 5}},
		{[]int{8, 8, 1}, []int{8, 8, non}},
		{slices.Repeat([]int{5}, 1000), append(slices.Repeat([]int{5}, 999), 6)},
		{append([]int{4}, slices.Repeat([]int{9}, 999)...), slices.Repeat([]int{5}, 1000)},
	} {
		if !word.Less(r.a, r.b) || word.Less(r.b, r.a) {
			t.Error(r.a, r.b)
		}
	}
	for _, l := range [][]int{nil, {}, {1}, {-1, 0, 1}, {math.MinInt, math.MaxInt}} {
		if word.Less(l, l) || word.Less(l, slices.Clone(l)) {
			t.Error(l)
		}
	}
	if word.Less(nil, []int{}) || word.Less([]int{}, nil) { // R4: they are the same
		t.Error("nil")
	}
}

// TestLessOrder holds Less against the places of all short words written down in their order.
func TestLessOrder(t *testing.T) { // P7.1
	var l [][]int
	for length := range 5 {
		l = append(l, wordsOf(3, length)...)
	}
	for i, a := range l {
		for j, b := range l {
			if word.Less(a, b) != (i < j) {
				t.Error(a, b)
			}
		}
	}
}

// wordsOf are the words of just that length, as a counter of its digits tells them.
func wordsOf(terms, length int) [][]int {
	var l [][]int
	all := 1
	for range length {
		all *= terms
	}
	for n := range all {
		w := make([]int, length)
		for i := length - 1; i >= 0; i-- {
			w[i] = 1 + n%terms
			n /= terms
		}
		l = append(l, w)
	}
	return l
}

// told is a grammar, and its nonterminals' least words, parted by blanks: the letters of the terminals; none, where no word comes.
type told struct{ text, words string }

const none = "-"

func tables() []told {
	return []told{
		{"S: a S | b", "b"},
		{"S: a", "a"},
		{"S: a S |", ""},
		{"S: | a", ""},
		{"S: a |", ""},
		// The shorter one, wherever it stands; of those as long the one ahead, by the terminals' order, not by their names.
		{"S: a a a | b b | a a a a", "bb"},
		{"S: b a | a", "a"},
		{"S: b | a", "b"},
		{"S: a | b", "a"},
		{"S: b c | a | c b b | c | b", "b"},
		{"S: z | a | m", "z"},
		{"S: a b c | a b b | a c a | b a a", "abb"},
		{"S: c b a | b c a | c c a | c b b", "cca"},
		{"S: h g | g h | h h | g g", "hh"},
		// The order is that of whole words, not of the symbols that they come of.
		{"S: T b | U a\nT: b\nU: a", "bb b a"},
		{"S: U a | T b\nT: b\nU: a", "aa b a"},
		{"S: a T | b\nT: | b", "a "},
		{"S: T b | a a\nT: a |", "b "},
		{"S: T T a | b b\nT: b b |", "a "},
		{"S: T U | c\nT: a | a a\nU: b b | b", "c a b"},
		{"S: T U | c c c\nT: a a | a\nU: b b | b", "ab a b"},
		{"S: T | U\nT: b a a\nU: b a b", "bab baa bab"},
		{"S: T a | T b T\nT: S S | c", "ca c"},
		{"S: a T T | a b b b b\nT: b b | b a", "ababa ba"},
		{"S: a T T | a b a a b\nT: b b | b a", "abaab ba"},
		// By the left, by the right, by the middle, and round and round.
		{"S: S a | b", "b"},
		{"S: a S b | c", "c"},
		{"S: S S | a", "a"},
		{"S: S S S S S S | a a", "aa"},
		{"S: S | a", "a"},
		{"S: S | S a S", none},
		{"S: a S", none},
		{"S: T\nT: S | a S", none + " " + none},
		{"S: T\nT: U\nU: S | b | a", "b b b"},
		{"S: T | a a\nT: S | a a a", "aa aa"},
		{"S: a S T\nT: S |", none + " "},
		{"S: T a\nT: U b |\nU: S c | T", "a  "},
		// Of one of which no word comes nothing, and what it stands in gives none; the start may be one.
		{"S: U | a a a\nU: U b", "aaa " + none},
		{"S: a U | b U a | U | a a\nU: V\nV: U | c V", "aa " + none + " " + none},
		{"S: S a\nT: b | S", none + " b"},
		{"S: a T\nT: b S\nU: T | c |", none + " " + none + " "},
		// Those that are not reached.
		{"S: a\nT: S b\nU: T T | T S T", "a ab abab"},
		// Each hangs on the next one, or on the one ahead.
		{"A: B\nB: C\nC: D\nD: E\nE: F\nF: G\nG: H\nH: b H | a", "a a a a a a a a"},
		{"A: B a\nB: C a\nC: D a\nD: E a\nE: F a\nF: G a\nG: H a\nH:", "aaaaaaa aaaaaa aaaaa aaaa aaa aa a "},
		{"H: G a | b b b b b b\nA: a\nB: A a\nC: B a\nD: C a\nE: D a\nF: E a | a a a\nG: F a | A a", "aaa a aa aaa aaaa aaaaa aaa aa"},
		// What is known late is cheaper than what is known soon.
		{"S: a b a b a b | T\nT: U\nU: V\nV: b a b a b", "babab babab babab babab"},
		{"S: a b b | T\nT: U U U\nU: V\nV: a", "aaa aaa a a"},
		{"S: a a a a a a", "aaaaaa"},
		{"S: a | b | c | d | e | f | g | h", "a"},
		{"S: a b c d e f | g h T\nT: h g h g h g | g", "ghg g"},
	}
}

// split is told's words, by the numbers of their letters.
func (r told) split(t *testing.T, g api.Grammar) (words [][]int, comes []bool) {
	t.Helper()
	for _, s := range strings.Split(r.words, " ") {
		var w []int
		for i := range len(s) {
			if s == none {
				break
			}
			sym, ok := gram.Find(g, s[i:i+1])
			if !ok {
				t.Fatalf("%q: %q", r.text, s)
			}
			w = append(w, sym)
		}
		words, comes = append(words, w), append(comes, s != none)
	}
	return words, comes
}

// hold asks Least and Costs of g.
func hold(t *testing.T, g api.Grammar, words [][]int, comes []bool) {
	t.Helper()
	l, e := word.Least(g)
	if e != api.OK || !slices.EqualFunc(l, words, slices.Equal) {
		t.Error(g, l, e, words)
	}
	costs, e := word.Costs(g)
	if e != api.OK || len(costs) != len(words) {
		t.Fatal(g, costs, e)
	}
	for i, x := range costs {
		want := math.Inf(1)
		if comes[i] {
			want = float64(len(words[i]))
		}
		if x != want || math.Signbit(x) {
			t.Error(g, i, x)
		}
	}
}

func TestLeast(t *testing.T) { // P7.1: Least and Costs of each nonterminal, in order
	for _, r := range tables() {
		g := parse(t, r.text)
		words, comes := r.split(t, g)
		hold(t, g, words, comes)
	}
}

// TestOrder: productions that do not stand by their Left, and terminals that none has.
func TestOrder(t *testing.T) { // P7.1
	g := api.Grammar{Terms: []string{"d", "c", "b", "a"}, Nons: []string{"S", "T", "U", "V"}, Prods: []api.Prod{
		prod(2, non+3, 4), prod(1, 3), prod(3, non+3), prod(0, 3, non+1), prod(1, 4), prod(0, non+1, 3), prod(2, non, 2), prod(0, 4, 4), prod(2, 4, 3, non+1),
	}}
	hold(t, g, [][]int{{3, 3}, {3}, {3, 3, 2}, nil}, []bool{true, true, true, false})
}

// TestGreat: the longest least word of all grammars, 6 to the 8th.
func TestGreat(t *testing.T) { // P7.1
	g := parse(t, "A: B B B B B B\nB: C C C C C C\nC: D D D D D D\nD: E E E E E E\nE: F F F F F F\nF: G G G G G G\nG: H H H H H H\nH: b a a a a a | H H | a b b b b b\n")
	l, e := word.Least(g)
	if e != api.OK || len(l) != 8 {
		t.Fatal(len(l), e)
	}
	costs, e := word.Costs(g)
	if e != api.OK || !slices.Equal(costs, []float64{1679616, 279936, 46656, 7776, 1296, 216, 36, 6}) {
		t.Error(costs, e)
	}
	for i, w := range l {
		if float64(len(w)) != costs[i] {
			t.Error(i, len(w))
		}
		for j, sym := range w {
			if sym != 1+min(j%6, 1) {
				t.Fatal(i, j, sym)
			}
		}
	}
}

func TestErrors(t *testing.T) { // P7.1: gram.Check's error
	one, two := []string{"a"}, []string{"S", "T"}
	for i, g := range []api.Grammar{
		{},
		{Terms: one, Nons: two},
		{Nons: two[:1], Prods: []api.Prod{prod(0)}},
		{Terms: one, Prods: []api.Prod{prod(0)}},
		{Terms: one, Nons: two, Prods: []api.Prod{prod(0)}},
		{Terms: one, Nons: two, Prods: []api.Prod{prod(0), prod(1, 2)}},
		{Terms: one, Nons: two, Prods: []api.Prod{prod(0), prod(1, api.End)}},
		{Terms: one, Nons: two, Prods: []api.Prod{prod(0), prod(1, -1)}},
		{Terms: one, Nons: two, Prods: []api.Prod{prod(0, non), prod(1, non+2)}},
		{Terms: one, Nons: two, Prods: []api.Prod{prod(0), prod(1), prod(2)}},
		{Terms: one, Nons: two, Prods: []api.Prod{prod(0), prod(1), {Left: math.MinInt}}},
		{Terms: one, Nons: two, Prods: []api.Prod{prod(0), prod(1), {Left: 1}}},
		{Terms: one, Nons: two, Prods: []api.Prod{prod(0, math.MaxInt), prod(1)}},
		{Terms: one, Nons: two, Prods: []api.Prod{prod(0), prod(1, 1), prod(1, 1)}},
		{Terms: one, Nons: two, Prods: []api.Prod{prod(0), prod(1, 1, 1, 1, 1, 1, 1, 1)}},
		{Terms: one, Nons: []string{"S", "S"}, Prods: []api.Prod{prod(0), prod(1)}},
		{Terms: []string{"A"}, Nons: two, Prods: []api.Prod{prod(0), prod(1)}},
	} {
		if l, e := word.Least(g); e != api.ErrArg || len(l) != 0 {
			t.Error(i, l, e)
		}
		if l, e := word.Costs(g); e != api.ErrArg || len(l) != 0 {
			t.Error(i, l, e)
		}
	}
}

// chance is a row of numbers by a fixed rule.
type chance uint64

func (c *chance) below(n int) int {
	*c = *c*6364136223846793005 + 1442695040888963407
	return int(uint64(*c)>>33) % n
}

// grammar is one of just that many terminals and nonterminals, whose productions have at most long symbols.
func (c *chance) grammar(terms, nons, long int) api.Grammar {
	g := api.Grammar{Terms: []string{"a", "b", "c", "d", "e", "f", "g", "h"}[:terms], Nons: []string{"A", "B", "C", "D", "E", "F", "G", "H"}[:nons]}
	for i := range nons + c.below(2*nons+1) {
		left := i
		if i >= nons {
			left = c.below(nons)
		}
		p := prod(left)
		for range c.below(long + 1) {
			p.Right = append(p.Right, c.symbol(g))
		}
		g.Prods = append(g.Prods, p)
	}
	return g
}

func (c *chance) symbol(g api.Grammar) int {
	if c.below(2) > 0 {
		return non + c.below(len(g.Nons))
	}
	return 1 + c.below(len(g.Terms))
}

// comes tells of which nonterminals w comes, by which parts of w come of which ones: nothing of the words' order is asked.
func comes(g api.Grammar, w []int) []bool {
	type part struct{ left, from, to int }
	stands := map[part]bool{}
	var match func(right []int, from, to int) bool
	match = func(right []int, from, to int) bool {
		if len(right) == 0 {
			return from == to
		}
		for mid := from; mid <= to; mid++ {
			one := stands[part{right[0], from, mid}]
			if right[0] < non {
				one = mid == from+1 && w[from] == right[0]
			}
			if one && match(right[1:], mid, to) {
				return true
			}
		}
		return false
	}
	for more := true; more; {
		more = false
		for _, p := range g.Prods {
			for from := range len(w) + 1 {
				for to := from; to <= len(w); to++ {
					x := part{p.Left, from, to}
					if !stands[x] && match(p.Right, from, to) {
						stands[x], more = true, true
					}
				}
			}
		}
	}
	l := make([]bool, len(g.Nons))
	for i := range l {
		l[i] = stands[part{non + i, 0, len(w)}]
	}
	return l
}

// TestWords: P7.1 held against all words, one after the other, the least first: of each that comes, is it the first one?
func TestWords(t *testing.T) {
	const long = 5
	var c chance
	lengths, grammars := map[int]int{}, 0
	for range 1500 {
		g := c.grammar(2, 3, 3)
		if gram.Check(g) != api.OK {
			continue
		}
		grammars++
		words, found := make([][]int, 3), make([]bool, 3)
		for length := range long + 1 {
			for _, w := range wordsOf(2, length) {
				for i, ok := range comes(g, w) {
					if ok && !found[i] {
						words[i], found[i] = w, true
					}
				}
			}
		}
		l, e := word.Least(g)
		costs, f := word.Costs(g)
		if e != api.OK || f != api.OK || len(l) != 3 || len(costs) != 3 {
			t.Fatal(g.Prods, l, costs, e, f)
		}
		for i := range 3 {
			switch {
			case found[i]:
				lengths[len(l[i])]++
				if !slices.Equal(l[i], words[i]) || costs[i] != float64(len(words[i])) {
					t.Fatal(g.Prods, i, l[i], costs[i], words[i])
				}
			case !reach.Fruitful(g).Has(i):
				lengths[-1]++
				if len(l[i]) > 0 || costs[i] != math.Inf(1) {
					t.Fatal(g.Prods, i, l[i], costs[i])
				}
			case len(l[i]) <= long || costs[i] != float64(len(l[i])) || !comes(g, l[i])[i]:
				t.Fatal(g.Prods, i, l[i], costs[i])
			}
		}
	}
	for n := -1; n <= 4; n++ {
		if lengths[n] < 5 {
			t.Error("the grammars are too much alike", grammars, lengths)
		}
	}
}

// low is the least words of trees no higher than that: in the least tree of a least word no nonterminal stands under itself, so none is higher than there are nonterminals.
func low(g api.Grammar, height int) (words [][]int, found []bool) {
	words, found = make([][]int, len(g.Nons)), make([]bool, len(g.Nons))
	if height == 0 {
		return words, found
	}
	under, has := low(g, height-1)
	for _, p := range g.Prods {
		var w []int
		whole := true
		for _, sym := range p.Right {
			if sym < non {
				w = append(w, sym)
			} else {
				w, whole = append(w, under[sym-non]...), whole && has[sym-non]
			}
		}
		i := p.Left - non
		if whole && (!found[i] || len(w) < len(words[i]) || len(w) == len(words[i]) && slices.Compare(w, words[i]) < 0) {
			words[i], found[i] = w, true
		}
	}
	return words, found
}

// TestTrees: P7.1 of grammars with all terminals and nonterminals that may be.
func TestTrees(t *testing.T) {
	var c chance
	lengths := map[int]int{}
	for range 4000 {
		g := c.grammar(1+c.below(8), 8, 1+c.below(6))
		if gram.Check(g) != api.OK {
			continue
		}
		words, found := low(g, 8)
		hold(t, g, words, found)
		for i, w := range words {
			if found[i] {
				lengths[len(w)]++
			} else {
				lengths[-1]++
			}
		}
		if t.Failed() {
			return
		}
	}
	for n := -1; n <= 10; n++ {
		if lengths[n] < 10 {
			t.Error("the grammars are too much alike", lengths)
		}
	}
}

const text = "S: a T | b b\nT: U |\nU: U c | S S\nV: V a\n"

// TestMemory: R4: what is handed in is neither changed nor kept, and what lies behind its length is neither read nor written.
func TestMemory(t *testing.T) {
	g := parse(t, text)
	// Each list has more behind its length, which would tell otherwise if it were read.
	g.Prods = append(g.Prods, prod(3, 1), prod(2))[:len(g.Prods)]
	for i := range g.Prods {
		l := g.Prods[i].Right
		g.Prods[i].Right = append(l, non+3, 2)[:len(l)]
	}
	g.Terms, g.Nons = append(g.Terms, "d")[:3], append(g.Nons, "W")[:4]
	for range 2 {
		hold(t, g, [][]int{{1}, nil, {1, 1}, nil}, []bool{true, true, true, false})
	}
	if !gram.Same(g, parse(t, text)) || g.Prods[:len(g.Prods)+1][len(g.Prods)].Left != non+3 || g.Terms[:4][3] != "d" || g.Nons[:5][4] != "W" {
		t.Error("changed")
	}
	for _, p := range g.Prods {
		if !slices.Equal(p.Right[len(p.Right):][:2], []int{non + 3, 2}) {
			t.Error("changed", p)
		}
	}
	a, b := []int{1, 2, 3, 0}, []int{1, 2, 3, 9}
	if word.Less(a[:3], b[:3]) || word.Less(b[:3], a[:3]) || !word.Less(b[:2], a[:3]) || a[3] != 0 || b[3] != 9 {
		t.Error(a, b)
	}
}

// TestNewMemory: R4: each list handed out is new memory, none of them the grammar's, nor another one's.
func TestNewMemory(t *testing.T) {
	const text = "S: T\nT: U | a b\nU: a b | U a\nV: | T T\nW: W |\n"
	g := parse(t, text)
	l, _ := word.Least(g)
	want := [][]int{{1, 2}, {1, 2}, {1, 2}, nil, nil}
	for i := range l {
		if !slices.EqualFunc(l[i:], want[i:], slices.Equal) {
			t.Fatal(l)
		}
		// Neither what stands in a word nor what is put behind it is to be seen elsewhere.
		for j := range l[i] {
			l[i][j] = 7
		}
		_ = append(l[i], 8, 8)
	}
	costs, _ := word.Costs(g)
	if !slices.Equal(costs, []float64{2, 2, 2, 0, 0}) {
		t.Error(costs)
	}
	clear(costs)
	if !gram.Same(g, parse(t, text)) {
		t.Error("the grammar's memory was handed out")
	}
	hold(t, g, want, []bool{true, true, true, true, true})
}

// TestSame: R5: what was asked ahead, of other grammars too, changes nothing.
func TestSame(t *testing.T) {
	var c chance
	var l []api.Grammar
	for range 40 {
		if g := c.grammar(3, 5, 4); gram.Check(g) == api.OK {
			l = append(l, g)
		}
	}
	once := make([][][]int, len(l))
	for round := range 3 {
		for i, g := range l {
			words, _ := word.Least(g)
			if round == 0 {
				once[i] = words
			}
			if !slices.EqualFunc(words, once[i], slices.Equal) {
				t.Error(g.Prods, words)
			}
			if _, e := word.Least(api.Grammar{}); e != api.ErrArg {
				t.Error(e)
			}
		}
	}
}
