package driver_test

import (
	"slices"
	"testing"

	"exegete/api"
	"exegete/derive"
	"exegete/driver"
	"exegete/lang"
	"exegete/run"
	"exegete/states"
	"exegete/table"
	"exegete/tree"
)

// chance is a row of numbers by a fixed rule.
type chance uint64

func (c *chance) below(n int) int {
	*c = *c*6364136223846793005 + 1442695040888963407
	return int(*c >> 33 % chance(n))
}

// grammar has up to wide terminals and nonterminals, which have productions of up to long symbols, in any order.
func (c *chance) grammar(wide, long int) api.Grammar {
	g := api.Grammar{
		Terms: []string{"a", "b", "c", "d", "e", "f", "g", "h"}[:1+c.below(wide)],
		Nons:  []string{"S", "T", "U", "V", "W", "X", "Y", "Z"}[:1+c.below(wide)],
	}
	for i := range g.Nons {
		for range 1 + c.below(4) {
			p := api.Prod{Left: non + i}
			for range c.below(long + 1) {
				if c.below(2) == 0 {
					p.Right = append(p.Right, 1+c.below(len(g.Terms)))
				} else {
					p.Right = append(p.Right, non+c.below(len(g.Nons)))
				}
			}
			if !slices.ContainsFunc(g.Prods, func(q api.Prod) bool { return q.Left == p.Left && slices.Equal(q.Right, p.Right) }) {
				g.Prods = slices.Insert(g.Prods, c.below(len(g.Prods)+1), p)
			}
		}
	}
	return g
}

// table has a Table without conflicts of a grammar; nil: it isn't one.
func (c *chance) table(wide, long int) *table.Table {
	m, e := states.New(c.grammar(wide, long), 90)
	if e != api.OK {
		return nil
	}
	tab := table.New(m)
	if len(tab.Conflicts()) > 0 {
		return nil
	}
	return tab
}

// up tells the productions of a tree, each behind those of what stands below it.
func up(x api.Tree) []int {
	var l []int
	for _, kid := range x.Kids {
		l = append(l, up(kid)...)
	}
	if x.Prod != leaf {
		l = append(l, x.Prod)
	}
	return l
}

// reduced tells the productions of run's Reduce steps.
func reduced(tab *table.Table, w []int) []int {
	steps, _ := run.Steps(tab, w)
	var l []int
	for _, a := range steps {
		if a.Kind == api.Reduce {
			l = append(l, a.N)
		}
	}
	return l
}

// holdTree holds what is told of an accepted word against the words of P15.1 and P15.2, but not whether there is another tree.
func holdTree(t *testing.T, tab *table.Table, g api.Grammar, w []int, x api.Tree) {
	t.Helper()
	prods, e := driver.Rights(tab, w)
	if e != api.OK || !slices.Equal(prods, reduced(tab, w)) || !slices.Equal(prods, up(x)) {
		t.Fatal(g, w, x, prods, e)
	}
	if !tree.Check(g, x, non) || !slices.Equal(tree.Leaves(x), w) {
		t.Fatal(g, w, x)
	}
}

// hold holds the calls over a word of at most 12 terminals against the words of P15.1 and P15.2, and tells whether it is accepted.
func hold(t *testing.T, tab *table.Table, g api.Grammar, w []int) bool {
	t.Helper()
	x, r, e := driver.Parse(tab, w)
	want, _ := run.Run(tab, w)
	if e != api.OK || r != want || r.Accepted != lang.Has(g, w) {
		t.Fatal(g, w, r, want, e)
	}
	if !r.Accepted {
		if l, e := driver.Rights(tab, w); !isNone(x) || len(l) != 0 || e != api.ErrNone {
			t.Fatal(g, w, x, l, e)
		}
		return false
	}
	holdTree(t, tab, g, w, x)
	if all, _ := derive.Trees(g, non, w, 2); len(all) != 1 || !tree.Same(x, all[0]) {
		t.Fatal(g, w, x, all)
	}
	return true
}

// TestHold: P15.1, P15.2, T2: held against the only trees of grammars by a fixed rule: all words of few terminals.
func TestHold(t *testing.T) {
	var c chance
	tables, sums := 0, map[bool]int{}
	for i := range 2500 {
		tab := c.table(2+i%2, 1+c.below(4))
		if tab == nil {
			continue
		}
		g := tab.Machine().Grammar()
		tables++
		for _, w := range lang.All(len(g.Terms), 6-len(g.Terms)) {
			sums[hold(t, tab, g, w)]++
		}
	}
	if tables < 300 || sums[true] < 500 || sums[false] < 2000 {
		t.Error("the grammars are too much alike", tables, sums)
	}
}

// TestNear: P15.1, P15.2, T2: of words that come of the start, and of those in which one terminal is another one, or isn't there, or is one more.
func TestNear(t *testing.T) {
	var c chance
	sums := map[bool]int{}
	for i := range 4000 {
		tab := c.table([]int{2, 3, 5, 8}[i%4], 1+c.below(4))
		if tab == nil {
			continue
		}
		g := tab.Machine().Grammar()
		words, _ := lang.Words(g, 6, 20)
		for _, w := range words {
			sums[hold(t, tab, g, w)]++
			for place := range w {
				x := slices.Clone(w)
				x[place] = 1 + c.below(len(g.Terms))
				sums[hold(t, tab, g, x)]++
				sums[hold(t, tab, g, slices.Delete(slices.Clone(w), place, place+1))]++
				sums[hold(t, tab, g, slices.Insert(slices.Clone(w), place, 1+c.below(len(g.Terms))))]++
			}
		}
	}
	if sums[true] < 3000 || sums[false] < 5000 {
		t.Error("the grammars are too much alike", sums)
	}
}

const none = -1 // no production

// grower grows derivations by a fixed rule.
type grower struct {
	*chance
	g      api.Grammar
	least  []int // of each nonterminal: the production that ends soonest (none: no word comes of it)
	wanted int   // how many productions may still be any, ahead of the soonest end
}

// newGrower looks for the productions that end soonest round by round: each one's nonterminals were found in an earlier round.
func newGrower(c *chance, g api.Grammar, wanted int) *grower {
	w := &grower{chance: c, g: g, least: slices.Repeat([]int{none}, len(g.Nons)), wanted: wanted}
	for range g.Nons {
		was := slices.Clone(w.least)
		for i, p := range g.Prods {
			if w.least[p.Left-non] == none && !slices.ContainsFunc(p.Right, func(sym int) bool { return sym >= non && was[sym-non] == none }) {
				w.least[p.Left-non] = i
			}
		}
	}
	return w
}

// tree grows a derivation of sym, of which a word comes.
func (w *grower) tree(sym int) api.Tree {
	if sym < non {
		return api.Tree{Sym: sym, Prod: leaf}
	}
	x := api.Tree{Sym: sym, Prod: w.least[sym-non]}
	if w.wanted > 0 {
		x.Prod = w.any(sym)
	}
	w.wanted--
	for _, next := range w.g.Prods[x.Prod].Right {
		x.Kids = append(x.Kids, w.tree(next))
	}
	return x
}

// any tells a production of sym of which words come.
func (w *grower) any(sym int) int {
	for {
		i := w.below(len(w.g.Prods))
		p := w.g.Prods[i]
		if p.Left == sym && !slices.ContainsFunc(p.Right, func(s int) bool { return s >= non && w.least[s-non] == none }) {
			return i
		}
	}
}

// holdGrown tells how long the leaves of a grown derivation are, which is found again from them.
func holdGrown(t *testing.T, c *chance, tab *table.Table) int {
	t.Helper()
	g := tab.Machine().Grammar()
	x := newGrower(c, g, 5+c.below(150)).tree(non)
	w := tree.Leaves(x)
	if len(w) > api.MaxWord {
		return 0
	}
	got, r, e := driver.Parse(tab, w)
	if e != api.OK || !r.Accepted || r.Place != len(w) || !tree.Same(got, x) {
		t.Fatal(g, w, x, got, r, e)
	}
	holdTree(t, tab, g, w, got)
	return len(w)
}

// TestGrown: P15.1, P15.2, T2: of words that are too long for derive.
func TestGrown(t *testing.T) {
	var c chance
	var tables []*table.Table
	for _, text := range []string{
		"E: E p T | T\nT: T m F | F\nF: o E c | n",
		"E: T G\nG: p T G |\nT: F H\nH: m F H |\nF: o E c | n",
		"V: s | o M c | b L d\nM: | P\nP: P k N | N\nN: s e V\nL: | W\nW: V | W k V",
		"S: D S |\nD: i e B | b S d f\nB: B a i | i | n",
		"S: a S b S |",
		"S: T T T U\nT: a T b | c\nU: U d T |",
		"S: a S a | b S b | c | d S U\nU: V V V\nV:",
	} {
		tab := parse(t, text)
		if len(tab.Conflicts()) > 0 {
			t.Fatal(text)
		}
		tables = append(tables, slices.Repeat([]*table.Table{tab}, 60)...)
	}
	for i := range 4000 {
		if tab := c.table([]int{3, 5, 8}[i%3], 2+c.below(4)); tab != nil {
			tables = append(tables, tab)
		}
	}
	long, full := 0, 0
	for _, tab := range tables {
		for range 4 {
			n := holdGrown(t, &c, tab)
			if n > 12 {
				long++
			}
			if n > 100 {
				full++
			}
		}
	}
	if long < 300 || full < 50 {
		t.Error("the words are too short", long, full)
	}
}
