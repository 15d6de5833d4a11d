package run_test

import (
	"slices"
	"testing"

	"exegete/api"
	"exegete/derive"
	"exegete/lang"
	"exegete/run"
	"exegete/states"
	"exegete/table"
)

// chance is a row of numbers by a fixed rule.
type chance uint64

func (c *chance) below(n int) int {
	*c = *c*6364136223846793005 + 1442695040888963407
	return int(*c >> 33 % chance(n))
}

// grammar has up to wide terminals and nonterminals, which have productions of up to long symbols, in any order.
func (c *chance) grammar(wide, long int) api.Grammar {
	g := api.Grammar{
		Terms: []string{"a", "b", "c", "d", "e", "f", "g", "h"}[:1+c.below(wide)],
		Nons:  []string{"S", "T", "U", "V", "W", "X", "Y", "Z"}[:1+c.below(wide)],
	}
	for i := range g.Nons {
		for range 1 + c.below(4) {
			p := api.Prod{Left: non + i}
			for range c.below(long + 1) {
				if c.below(2) == 0 {
					p.Right = append(p.Right, 1+c.below(len(g.Terms)))
				} else {
					p.Right = append(p.Right, non+c.below(len(g.Nons)))
				}
			}
			if !slices.ContainsFunc(g.Prods, func(q api.Prod) bool { return q.Left == p.Left && slices.Equal(q.Right, p.Right) }) {
				g.Prods = slices.Insert(g.Prods, c.below(len(g.Prods)+1), p)
			}
		}
	}
	return g
}

// table has a Table without conflicts of a grammar; nil: it isn't one.
func (c *chance) table(wide, long int) *table.Table {
	m, e := states.New(c.grammar(wide, long), 90)
	if e != api.OK {
		return nil
	}
	tab := table.New(m)
	if len(tab.Conflicts()) > 0 {
		return nil
	}
	return tab
}

// walk tells the states that the symbols of form lead through.
func walk(m *states.Machine, form []int) []int {
	l := []int{0}
	for i, sym := range form {
		l = append(l, m.Go(l[i], sym))
	}
	return l
}

// replay holds what is done over w, step by step, against a form of symbols: it tells the form at the end, the place there, and whether it was accepted.
func replay(t *testing.T, tab *table.Table, w []int, steps []api.Action) (form []int, place int, accepted bool) {
	t.Helper()
	m := tab.Machine()
	g := m.Grammar()
	for _, a := range steps {
		term := end
		if place < len(w) {
			term = w[place]
		}
		on := walk(m, form)
		if got := tab.Actions(on[len(form)], term); accepted || !slices.Equal(got, []api.Action{a}) {
			t.Fatal(g, w, steps, form, got)
		}
		switch a.Kind {
		case api.Accept:
			accepted = true
		case api.Shift:
			form, place = append(form, term), place+1
		default:
			p := g.Prods[a.N]
			from := len(form) - len(p.Right)
			if from < 0 || !slices.Equal(form[from:], p.Right) {
				t.Fatal(g, w, steps, form)
			}
			form = append(form[:from], p.Left)
		}
	}
	return form, place, accepted
}

// up tells the productions of a tree, each behind those of what stands below it.
func up(x api.Tree) []int {
	var l []int
	for _, kid := range x.Kids {
		l = append(l, up(kid)...)
	}
	if x.Prod >= 0 {
		l = append(l, x.Prod)
	}
	return l
}

// longest tells the length of the longest beginning of w that a word of g has.
func longest(g api.Grammar, w []int) int {
	n := len(w)
	for n > 0 && !lang.Begins(g, w[:n]) {
		n--
	}
	return n
}

// hold holds the calls over w against the words of P14.1 and P14.2.
func hold(t *testing.T, tab *table.Table, g api.Grammar, w []int) bool {
	t.Helper()
	r, e := run.Run(tab, w)
	steps, e1 := run.Steps(tab, w)
	stack, e2 := run.Stack(tab, w)
	if e != api.OK || e1 != api.OK || e2 != api.OK {
		t.Fatal(g, w, e, e1, e2)
	}
	form, place, accepted := replay(t, tab, w, steps)
	if r.Accepted != accepted || r.Place != place || !slices.Equal(stack, walk(tab.Machine(), form)) || r.State != stack[len(stack)-1] {
		t.Fatal(g, w, r, place, accepted, stack, form)
	}
	if accepted != lang.Has(g, w) || place != longest(g, w) {
		t.Fatal(g, w, accepted, place)
	}
	if !accepted {
		term := end
		if place < len(w) {
			term = w[place]
		}
		if l := tab.Actions(r.State, term); len(l) > 0 {
			t.Fatal(g, w, r, l)
		}
		return false
	}
	trees, _ := derive.Trees(g, non, w, 2)
	var prods []int
	for _, a := range steps {
		if a.Kind == api.Reduce {
			prods = append(prods, a.N)
		}
	}
	if len(trees) != 1 || !slices.Equal(prods, up(trees[0])) || place != len(w) || !slices.Equal(form, []int{non}) {
		t.Fatal(g, w, trees, prods, form)
	}
	return true
}

// TestHold: P14.1, P14.2, T2: held against the words of grammars by a fixed rule: all words of few terminals.
func TestHold(t *testing.T) {
	var c chance
	sums := map[string]int{}
	for i := range 2500 {
		tab := c.table(2+i%2, 1+c.below(4))
		if tab == nil {
			continue
		}
		g := tab.Machine().Grammar()
		sums["tables"]++
		for _, w := range lang.All(len(g.Terms), 6-len(g.Terms)) {
			if hold(t, tab, g, w) {
				sums["in"]++
			} else if longest(g, w) < len(w) {
				sums["within"]++
			} else {
				sums["at End"]++
			}
		}
	}
	if sums["tables"] < 300 || sums["in"] < 500 || sums["within"] < 2000 || sums["at End"] < 300 {
		t.Error("the grammars are too much alike", sums)
	}
}

// TestNear: P14.2, T2: of words that come of the start, and of those in which one terminal is another one, or isn't there.
func TestNear(t *testing.T) {
	var c chance
	sums := map[bool]int{}
	for i := range 4000 {
		tab := c.table([]int{2, 3, 5, 8}[i%4], 1+c.below(4))
		if tab == nil {
			continue
		}
		g := tab.Machine().Grammar()
		words, _ := lang.Words(g, 6, 20)
		for _, w := range words {
			sums[hold(t, tab, g, w)]++
			for place := range w {
				x := slices.Clone(w)
				x[place] = 1 + c.below(len(g.Terms))
				sums[hold(t, tab, g, x)]++
				sums[hold(t, tab, g, slices.Delete(slices.Clone(w), place, place+1))]++
				sums[hold(t, tab, g, slices.Insert(slices.Clone(w), place, 1+c.below(len(g.Terms))))]++
			}
		}
	}
	if sums[true] < 3000 || sums[false] < 5000 {
		t.Error("the grammars are too much alike", sums)
	}
}
