package reach_test

import (
	"math"
	"slices"
	"testing"

	"exegete/api"
	"exegete/gram"
	"exegete/reach"
	"exegete/set"
)

const non = api.Non

func prod(left int, right ...int) api.Prod {
	return api.Prod{Left: non + left, Right: right}
}

func parse(t *testing.T, text string) api.Grammar {
	t.Helper()
	g, line, col, e := gram.Parse(text)
	if e != api.OK {
		t.Fatalf("%q: error %d at %d, %d", text, e, line, col)
	}
	return g
}

// copyOf shares no memory with g.
func copyOf(g api.Grammar) api.Grammar {
	g.Terms, g.Nons, g.Prods = slices.Clone(g.Terms), slices.Clone(g.Nons), slices.Clone(g.Prods)
	for i := range g.Prods {
		g.Prods[i].Right = slices.Clone(g.Prods[i].Right)
	}
	return g
}

// falling has each nonterminal hang on the next one, and the last one on nothing but a word; rising has each hang on the one ahead.
const (
	falling = "A: B\nB: C\nC: D\nD: E\nE: F\nF: G\nG: H\nH: | a H\n"
	rising  = "H: G | H a\nA:\nB: A\nC: B\nD: C\nE: D\nF: E\nG: F\n"
)

func TestNullable(t *testing.T) { // P5.1
	for _, r := range []struct {
		text string
		want []int
	}{
		{"S: a S |", []int{0}},
		{"S: a S | b", nil},
		{"S: a", nil},
		{"S: | a", []int{0}},
		// All of a production's symbols must vanish, at each place; one production is enough.
		{"S: T T | a\nT: | b", []int{0, 1}},
		{"S: T a\nT:", []int{1}},
		{"S: a T\nT:", []int{1}},
		{"S: T a T\nT:", []int{1}},
		{"S: T U\nT: | a\nU: b", []int{1}},
		{"S: U T\nT: | a\nU: b", []int{1}},
		{"S: a | b | T | c\nT: c |", []int{0, 1}},
		// By itself none comes to be empty.
		{"S: S | a", nil},
		{"S: T | a\nT: S", nil},
		{"S: S S | a", nil},
		{"S: S S | a |", []int{0}},
		{"S: T S | a\nT:", []int{1}},
		// Those that are not reached, and those of which nothing else comes.
		{"S: a\nT:\nU: T T", []int{1, 2}},
		{"S: a T\nT: a T\nU: T |", []int{2}},
		{"S: S a\nT:", []int{1}},
		{falling, []int{0, 1, 2, 3, 4, 5, 6, 7}},
		{rising, []int{0, 1, 2, 3, 4, 5, 6, 7}},
		{"A: B\nB: C\nC: D\nD: E\nE: F\nF: G\nG: H a\nH:", []int{7}},
	} {
		if got := reach.Nullable(parse(t, r.text)); got != set.Of(r.want...) {
			t.Errorf("%q %v", r.text, got.List())
		}
	}
}

func TestFruitful(t *testing.T) { // P5.1
	for _, r := range []struct {
		text string
		want []int
	}{
		{"S: a S | b", []int{0}},
		{"S: a S |", []int{0}},
		{"S: a", []int{0}},
		{"S: a S", nil},
		{"S: S | S a", nil},
		{"S: a T\nT: b S", nil},
		// The empty word is a word.
		{"S: | a S", []int{0}},
		{"S: a T\nT:", []int{0, 1}},
		// All of a production's symbols must bear, at each place; one production is enough.
		{"S: a T b\nT: T c", nil},
		{"S: T U | U T\nT: a\nU: U", []int{1}},
		{"S: T U | U T | a T\nT: a\nU: U", []int{0, 1}},
		{"S: U | b\nU: U", []int{0}},
		{"S: T\nT: U\nU: a | S", []int{0, 1, 2}},
		// Those that are not reached.
		{"S: a\nT: a\nU: U", []int{0, 1}},
		{"S: S a\nT: a", []int{1}},
		{falling, []int{0, 1, 2, 3, 4, 5, 6, 7}},
		{rising, []int{0, 1, 2, 3, 4, 5, 6, 7}},
		{"A: B\nB: C\nC: D\nD: E\nE: F\nF: G\nG: H a\nH: H", nil},
		{"A: B\nB: C\nC: D\nD: E\nE: F\nF: G b\nG: H a H\nH: b H | H a a b a b | a a a a a a", []int{0, 1, 2, 3, 4, 5, 6, 7}},
	} {
		if got := reach.Fruitful(parse(t, r.text)); got != set.Of(r.want...) {
			t.Errorf("%q %v", r.text, got.List())
		}
	}
}

func TestReached(t *testing.T) { // P5.1
	for _, r := range []struct {
		text string
		want []int
	}{
		{"S: a", []int{0}},
		{"S: | a", []int{0}},
		{"S: a S", []int{0}},
		{"S: a\nT: S", []int{0}},
		{"S: a\nT: T\nU: T", []int{0}},
		{"S: a T b\nT: c", []int{0, 1}},
		{"S: a | b U\nT: c\nU: c", []int{0, 2}},
		{"S: a | T | b U\nT: c\nU: c", []int{0, 1, 2}},
		{"S: U T a\nT: c\nU: c", []int{0, 1, 2}},
		{"S: U\nT: c\nU: a V\nV: a S\nW: T", []int{0, 2, 3}},
		// Also by productions of which no word comes, and those themselves.
		{"S: a | U T\nT: c\nU: U", []int{0, 1, 2}},
		{"S: S T\nT: a", []int{0, 1}},
		{"S: T\nT: T U\nU: a\nV: b", []int{0, 1, 2}},
		{falling, []int{0, 1, 2, 3, 4, 5, 6, 7}},
		{rising, []int{0, 1, 2, 3, 4, 5, 6, 7}},
		{"A: a\nB: C\nC: D\nD: E\nE: F\nF: G\nG: H\nH: A", []int{0}},
	} {
		if got := reach.Reached(parse(t, r.text)); got != set.Of(r.want...) {
			t.Errorf("%q %v", r.text, got.List())
		}
	}
}

func TestTrim(t *testing.T) { // P5.1
	for _, r := range []struct {
		text string
		want []int
		e    api.Errno
	}{
		{"S: a", []int{0}, api.OK},
		{"S: a S | b", []int{0, 1}, api.OK},
		{"S: | T\nT: a T", []int{0}, api.OK},
		{"S: a T | b | T | a S T\nT: T", []int{1}, api.OK},
		{"S: T a | b | a S\nT: T c", []int{1, 2}, api.OK},
		{"S: T U | U T | a T\nT: a\nU: U", []int{2, 3}, api.OK},
		// A production of one that is Fruitful by another production goes, if it has one that is not.
		{"S: T\nT: a U | a\nU: b U", []int{0, 2}, api.OK},
		// Those that are not reached stay, and those of which the empty word comes.
		{"S: a\nT: b | U\nU: U\nV: S | V V | T |", []int{0, 1, 4, 5, 6, 7}, api.OK},
		// The start bears by one production, and so in the others.
		{"S: S | S S | S a | T | a\nT: T", []int{0, 1, 2, 4}, api.OK},
		{falling, []int{0, 1, 2, 3, 4, 5, 6, 7, 8}, api.OK},
		{rising, []int{0, 1, 2, 3, 4, 5, 6, 7, 8}, api.OK},
		// The start is not Fruitful, whatever else is.
		{"S: a S", nil, api.ErrEmpty},
		{"S: T\nT: S a", nil, api.ErrEmpty},
		{"S: S T\nT: a", nil, api.ErrEmpty},
		{"S: T U\nT: a |\nU: a U\nV: T", nil, api.ErrEmpty},
	} {
		l, e := reach.Trim(parse(t, r.text))
		if !slices.Equal(l, r.want) || e != r.e {
			t.Errorf("%q %v %d", r.text, l, e)
		}
	}
}

// TestOrder: productions that do not stand by their Left: the places are those in Prods.
func TestOrder(t *testing.T) { // P5.1
	g := api.Grammar{Terms: []string{"a"}, Nons: []string{"S", "T", "U"}, Prods: []api.Prod{
		prod(2, non+2), prod(1), prod(0, non+2), prod(1, 1, non), prod(0, non+1, non+1), prod(2, 1, non+2), prod(1, non+2),
	}}
	if got := reach.Nullable(g); got != set.Of(0, 1) {
		t.Error(got.List())
	}
	if got := reach.Fruitful(g); got != set.Of(0, 1) {
		t.Error(got.List())
	}
	if got := reach.Reached(g); got != set.Of(0, 1, 2) {
		t.Error(got.List())
	}
	if l, e := reach.Trim(g); !slices.Equal(l, []int{1, 3, 4}) || e != api.OK {
		t.Error(l, e)
	}
}

// TestRefused: P5.1: of a grammar that gram.Check does not take: empty, ErrArg, also where its start would not be Fruitful.
func TestRefused(t *testing.T) {
	one, two := []string{"a"}, []string{"S", "T"}
	for i, g := range []api.Grammar{
		{},
		{Terms: one, Nons: two},
		{Nons: two, Prods: []api.Prod{prod(0), prod(1)}},
		{Terms: one, Prods: []api.Prod{prod(0)}},
		{Terms: one, Nons: two, Prods: []api.Prod{prod(0)}},
		{Terms: one, Nons: two, Prods: []api.Prod{prod(0, non), prod(0, 1)}},
		{Terms: one, Nons: two, Prods: []api.Prod{prod(0), prod(1), prod(0)}},
		{Terms: one, Nons: two, Prods: []api.Prod{prod(0), prod(1), prod(2)}},
		{Terms: one, Nons: two, Prods: []api.Prod{prod(0), prod(1), prod(-1)}},
		{Terms: one, Nons: two, Prods: []api.Prod{prod(0), prod(1), prod(63)}},
		{Terms: one, Nons: two, Prods: []api.Prod{prod(0), prod(1, 2)}},
		{Terms: one, Nons: two, Prods: []api.Prod{prod(0), prod(1, api.End)}},
		{Terms: one, Nons: two, Prods: []api.Prod{prod(0), prod(1), prod(1, non+2)}},
		{Terms: one, Nons: two, Prods: []api.Prod{prod(0), prod(1), prod(1, -1)}},
		{Terms: one, Nons: two, Prods: []api.Prod{prod(0), prod(1), prod(1, math.MaxInt, math.MinInt)}},
		{Terms: one, Nons: two, Prods: []api.Prod{prod(0), prod(1), {Left: math.MinInt}, {Left: math.MaxInt}}},
		{Terms: one, Nons: two, Prods: []api.Prod{prod(0), prod(1, 1, 1, 1, 1, 1, 1, 1)}},
		{Terms: []string{"a", "a"}, Nons: two, Prods: []api.Prod{prod(0), prod(1)}},
		{Terms: one, Nons: []string{"S", "S"}, Prods: []api.Prod{prod(0), prod(1)}},
		{Terms: []string{"A"}, Nons: two, Prods: []api.Prod{prod(0), prod(1)}},
		{Terms: one, Nons: []string{"S", "t"}, Prods: []api.Prod{prod(0), prod(1)}},
	} {
		if reach.Nullable(g) != 0 || reach.Fruitful(g) != 0 || reach.Reached(g) != 0 {
			t.Error(i, reach.Nullable(g), reach.Fruitful(g), reach.Reached(g))
		}
		if l, e := reach.Trim(g); len(l) != 0 || e != api.ErrArg {
			t.Error(i, l, e)
		}
	}
}

// chance is a row of numbers by a fixed rule.
type chance uint64

func (c *chance) below(n int) int {
	*c = *c*6364136223846793005 + 1442695040888963407
	return int(uint64(*c)>>33) % n
}

// grammar is one of just that many nonterminals, whose productions have at most long symbols.
func (c *chance) grammar(nons, long int) api.Grammar {
	g := api.Grammar{Terms: []string{"a", "b"}, Nons: []string{"A", "B", "C", "D", "E", "F", "G", "H"}[:nons]}
	for i := range 2 * nons {
		p := prod(i % nons)
		for range c.below(long + 1) {
			if sym := non + c.below(nons); c.below(5) > 0 {
				p.Right = append(p.Right, sym)
			} else {
				p.Right = append(p.Right, 1+c.below(2))
			}
		}
		if len(p.Right) == 0 && c.below(3) > 0 { // else nearly all would be Nullable
			p.Right = append(p.Right, 1+c.below(2))
		}
		g.Prods = append(g.Prods, p)
	}
	return g
}

// comes looks for a word of a nonterminal by its forms, the first symbol of a form replaced ahead of the others; of a word it keeps no terminal, unless it must be empty. A least tree is no higher than there are nonterminals, so forms need not be longer than most.
func comes(g api.Grammar, sym int, empty bool, most int) bool {
	forms, seen := [][]int{{sym}}, map[string]bool{}
	for len(forms) > 0 {
		form := forms[0]
		forms = forms[1:]
		if len(form) == 0 {
			return true
		}
		for _, p := range g.Prods {
			if p.Left != form[0] || empty && slices.ContainsFunc(p.Right, isTerm) {
				continue
			}
			next := slices.Concat(slices.DeleteFunc(slices.Clone(p.Right), isTerm), form[1:])
			key := ""
			for _, sym := range next {
				key += string(rune(sym))
			}
			if len(next) <= most && !seen[key] {
				seen[key] = true
				forms = append(forms, next)
			}
		}
	}
	return false
}

func isTerm(sym int) bool {
	return sym < non
}

// TestForms: P5.1 held against what comes of each nonterminal, symbol by symbol.
func TestForms(t *testing.T) {
	var c chance
	var yes, no [2]int
	for range 3000 {
		g := c.grammar(3, 2)
		if gram.Check(g) != api.OK {
			continue // two productions came out alike
		}
		for i := range g.Nons {
			for j, got := range []bool{reach.Nullable(g).Has(i), reach.Fruitful(g).Has(i)} {
				if want := comes(g, non+i, j == 0, 4); got != want {
					t.Error(g.Prods, i, j, got)
				}
				if got {
					yes[j]++
				} else {
					no[j]++
				}
			}
		}
	}
	if min(yes[0], yes[1], no[0], no[1]) < 300 {
		t.Error("the grammars are too much alike", yes, no)
	}
}

// least is what all sets that are closed have in common: of the nonterminals of g, each way to choose some of them is tried.
func least(g api.Grammar, closed func(p api.Prod, s set.Set) bool, start set.Set) set.Set {
	l := set.Set(math.MaxUint64)
	for s := range set.Set(1) << len(g.Nons) {
		if start.In(s) && !slices.ContainsFunc(g.Prods, func(p api.Prod) bool { return !closed(p, s) }) {
			l = l.Both(s)
		}
	}
	return l
}

func left(p api.Prod, s set.Set) bool {
	return s.Has(p.Left - non)
}

func hasOther(p api.Prod, s set.Set) bool {
	return slices.ContainsFunc(p.Right, func(sym int) bool { return !isTerm(sym) && !s.Has(sym-non) })
}

// TestLeast: P5.1 of grammars with all nonterminals that may be.
func TestLeast(t *testing.T) {
	var c chance
	sizes := map[int]bool{}
	for range 400 {
		g := c.grammar(8, 3)
		if gram.Check(g) != api.OK {
			continue
		}
		nullable := least(g, func(p api.Prod, s set.Set) bool {
			return left(p, s) || hasOther(p, s) || slices.ContainsFunc(p.Right, isTerm)
		}, 0)
		fruitful := least(g, func(p api.Prod, s set.Set) bool { return left(p, s) || hasOther(p, s) }, 0)
		reached := least(g, func(p api.Prod, s set.Set) bool { return !left(p, s) || !hasOther(p, s) }, set.Of(0))
		if reach.Nullable(g) != nullable || reach.Fruitful(g) != fruitful || reach.Reached(g) != reached {
			t.Error(g.Prods, nullable, fruitful, reached)
		}
		var want []int
		for i, p := range g.Prods {
			if left(p, fruitful) && !hasOther(p, fruitful) {
				want = append(want, i)
			}
		}
		wantErr := api.OK
		if !fruitful.Has(0) {
			want, wantErr = nil, api.ErrEmpty
		}
		if l, e := reach.Trim(g); !slices.Equal(l, want) || e != wantErr {
			t.Error(g.Prods, l, e)
		}
		sizes[nullable.Count()] = true
		sizes[100+fruitful.Count()] = true
		sizes[200+reached.Count()] = true
	}
	if len(sizes) < 12 {
		t.Error("the grammars are too much alike", sizes)
	}
}

// TestMemory: R4: what is handed in stays as it is, what lies behind its length is neither read nor written, and what is handed out is new.
func TestMemory(t *testing.T) {
	g := parse(t, "S: a S | b T\nT: U |\nU: U a")
	kept := copyOf(g)
	// Each list has more behind its length, which would tell otherwise if it were read.
	g.Prods = append(g.Prods, prod(2), prod(0, non+7))[:5]
	for i := range g.Prods {
		l := g.Prods[i].Right
		g.Prods[i].Right = append(l, non+2, -1)[:len(l)]
	}
	for range 2 { // R5: the answers are the same each time
		if reach.Nullable(g) != set.Of(1) || reach.Fruitful(g) != set.Of(0, 1) || reach.Reached(g) != set.Of(0, 1, 2) {
			t.Error(reach.Nullable(g), reach.Fruitful(g), reach.Reached(g))
		}
		l, e := reach.Trim(g)
		if !slices.Equal(l, []int{0, 1, 3}) || e != api.OK {
			t.Error(l, e)
		}
		for i := range l {
			l[i] = -1
		}
	}
	if !gram.Same(g, kept) || len(g.Prods[:6]) != 6 || g.Prods[:6][5].Left != non+2 || g.Prods[3].Right[:1][0] != non+2 {
		t.Error("changed")
	}
}
