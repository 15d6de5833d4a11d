package table_test

import (
	"slices"
	"testing"

	"exegete/api"
	"exegete/derive"
	"exegete/item"
	"exegete/lang"
	"exegete/states"
	"exegete/table"
)

// chance is a row of numbers by a fixed rule.
type chance uint64

func (c *chance) below(n int) int {
	*c = *c*6364136223846793005 + 1442695040888963407
	return int(*c >> 33 % chance(n))
}

// grammar has up to wide terminals and nonterminals, which have productions of up to long symbols, in any order.
func (c *chance) grammar(wide, long int) api.Grammar {
	g := api.Grammar{
		Terms: []string{"a", "b", "c", "d", "e", "f", "g", "h"}[:1+c.below(wide)],
		Nons:  []string{"S", "T", "U", "V", "W", "X", "Y", "Z"}[:1+c.below(wide)],
	}
	for i := range g.Nons {
		for range 1 + c.below(api.MaxProds/wide) {
			p := api.Prod{Left: non + i}
			for range c.below(long + 1) {
				if c.below(2) == 0 {
					p.Right = append(p.Right, 1+c.below(len(g.Terms)))
				} else {
					p.Right = append(p.Right, non+c.below(len(g.Nons)))
				}
			}
			if !slices.ContainsFunc(g.Prods, func(q api.Prod) bool { return q.Left == p.Left && slices.Equal(q.Right, p.Right) }) {
				g.Prods = slices.Insert(g.Prods, c.below(len(g.Prods)+1), p)
			}
		}
	}
	return g
}

// may tells what may be done, by the words of P13.1: Shift, then Reduce of each production, then Accept.
func may(m *states.Machine, state, term int) []api.Action {
	var l []api.Action
	if to := m.Go(state, term); to != -1 {
		l = append(l, api.Action{Kind: api.Shift, N: to})
	}
	items := m.Items(state)
	for i, p := range m.Grammar().Prods {
		if slices.Contains(items, api.Item{Prod: i, Dot: len(p.Right), Ahead: term}) {
			l = append(l, api.Action{Kind: api.Reduce, N: i})
		}
	}
	if term == end && slices.Contains(items, api.Item{Prod: -1, Dot: 1, Ahead: end}) {
		l = append(l, api.Action{Kind: api.Accept})
	}
	return l
}

// hold holds a Table against the words of P13.1 and P13.2.
func hold(t *testing.T, m *states.Machine, tab *table.Table) {
	t.Helper()
	var conflicts []api.Conflict
	for state := range m.Len() {
		var errors []int
		for term := range 1 + len(m.Grammar().Terms) {
			l := may(m, state, term)
			if got := tab.Actions(state, term); !slices.Equal(got, l) {
				t.Fatal(m.Grammar(), state, term, got, l)
			}
			if len(l) == 0 {
				errors = append(errors, term)
			}
			for i := range l {
				for j := i + 1; j < len(l); j++ {
					conflicts = append(conflicts, api.Conflict{State: state, Term: term, A: l[i], B: l[j]})
				}
			}
		}
		if got := tab.Errors(state); !slices.Equal(got, errors) {
			t.Fatal(m.Grammar(), state, got, errors)
		}
	}
	if got := tab.Conflicts(); !slices.Equal(got, conflicts) {
		t.Fatal(m.Grammar(), got, conflicts)
	}
	b := row(tab)
	if got := tab.Pack(); !slices.Equal(got, b) {
		t.Fatal(m.Grammar(), got, b)
	}
	if got, e := table.Unpack(m, b); e != api.OK || got.Machine() != m || all(got) != all(tab) {
		t.Fatal(m.Grammar(), e)
	}
}

// TestHold: P13.1, P13.2 held against their words, of grammars by a fixed rule.
func TestHold(t *testing.T) {
	var c chance
	sums := map[string]int{}
	for i := range 1000 {
		m, e := states.New(c.grammar([]int{1, 2, 3, 5, 8}[i%5], 1+c.below(4)), 90)
		if e != api.OK {
			sums["none"]++
			continue
		}
		tab := table.New(m)
		hold(t, m, tab)
		for _, x := range tab.Conflicts() {
			sums[one(x.A)[:1]+one(x.B)[:1]]++
			if x.Term > 1 {
				sums["past 1"]++
			}
		}
		if len(tab.Conflicts()) == 0 {
			sums["calm"]++
		}
	}
	if sums["none"] > 600 || sums["calm"] < 100 || sums["sr"] < 100 || sums["rr"] < 100 || sums["ra"] < 20 || sums["sa"] > 0 || sums["past 1"] < 100 {
		t.Error("the grammars are too much alike", sums)
	}
}

// accepts runs a Table without conflicts.
func accepts(t *testing.T, tab *table.Table, word []int) bool {
	t.Helper()
	m, stack := tab.Machine(), []int{0}
	prods := m.Grammar().Prods
	for range 1000 {
		term := end
		if len(word) > 0 {
			term = word[0]
		}
		l := tab.Actions(stack[len(stack)-1], term)
		switch {
		case len(l) == 0:
			return false
		case l[0].Kind == api.Accept:
			return true
		case l[0].Kind == api.Shift:
			stack, word = append(stack, l[0].N), word[1:]
		default:
			p := prods[l[0].N]
			stack = stack[:len(stack)-len(p.Right)]
			stack = append(stack, m.Go(stack[len(stack)-1], p.Left))
		}
	}
	t.Fatal(m.Grammar(), word, "no end")
	return false
}

// TestWords: T3: where there are no conflicts, the words that the table accepts are those that come of the start, and each has one tree.
func TestWords(t *testing.T) {
	var c chance
	sums := map[string]int{}
	for i := range 1800 {
		g := c.grammar(2+i%2, 1+c.below(3))
		m, e := states.New(g, most)
		if e != api.OK {
			continue
		}
		tab := table.New(m)
		calm := len(tab.Conflicts()) == 0
		for _, word := range lang.All(len(g.Terms), 4) {
			trees := derive.Count(g, non, word, 2)
			if trees > 1 && calm {
				t.Fatal(g, word, "two trees")
			}
			if trees > 1 {
				sums["two"]++
			}
			if !calm {
				continue
			}
			if got := accepts(t, tab, word); got != (trees == 1) {
				t.Fatal(g, word, got)
			}
			sums[map[bool]string{true: "in", false: "out"}[trees == 1]]++
		}
	}
	if sums["two"] < 100 || sums["in"] < 500 || sums["out"] < 1000 {
		t.Error("the grammars are too much alike", sums)
	}
}

// TestItems: T3: two things may be done just where a list of items, made anew, asks for them.
func TestItems(t *testing.T) {
	var c chance
	seen := 0
	for range 300 {
		g := c.grammar(3, 1+c.below(3))
		m, e := states.New(g, most)
		if e != api.OK {
			continue
		}
		maker, _ := item.New(g)
		tab := table.New(m)
		for state := range m.Len() {
			asked := map[int]int{} // of each term, how many things
			shifts := map[int]int{}
			for _, x := range m.Items(state) {
				sym, ok := maker.Next(x)
				if !ok {
					asked[x.Ahead]++
				} else if sym < non {
					shifts[sym] = 1
				}
			}
			pairs := map[int]int{}
			for _, x := range tab.Conflicts() {
				if x.State == state {
					pairs[x.Term]++
					seen++
				}
			}
			for term := range 1 + len(g.Terms) {
				if n := asked[term] + shifts[term]; pairs[term] != n*(n-1)/2 {
					t.Fatal(g, state, term, n, pairs[term])
				}
			}
		}
	}
	if seen < 300 {
		t.Error("the grammars are too much alike", seen)
	}
}
