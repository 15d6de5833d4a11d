package states_test

import (
	"slices"
	"strconv"
	"testing"

	"exegete/api"
	"exegete/gram"
	"exegete/item"
	"exegete/states"
)

// chance is a row of numbers by a fixed rule.
type chance uint64

func (c *chance) below(n int) int {
	*c = *c*6364136223846793005 + 1442695040888963407
	return int(*c >> 33 % chance(n))
}

// grammar has up to wide terminals and nonterminals, which have productions of up to long symbols, in any order.
func (c *chance) grammar(wide, long int) api.Grammar {
	g := api.Grammar{
		Terms: []string{"a", "b", "c", "d", "e", "f", "g", "h"}[:1+c.below(wide)],
		Nons:  []string{"S", "T", "U", "V", "W", "X", "Y", "Z"}[:1+c.below(wide)],
	}
	for i := range g.Nons {
		for range 1 + c.below(api.MaxProds/wide) {
			p := prod(i)
			for range c.below(long + 1) {
				if c.below(2) == 0 {
					p.Right = append(p.Right, 1+c.below(len(g.Terms)))
				} else {
					p.Right = append(p.Right, non+c.below(len(g.Nons)))
				}
			}
			if !slices.ContainsFunc(g.Prods, func(q api.Prod) bool { return q.Left == p.Left && slices.Equal(q.Right, p.Right) }) {
				g.Prods = slices.Insert(g.Prods, c.below(len(g.Prods)+1), p)
			}
		}
	}
	return g
}

// symbols are those of g in their order.
func symbols(g api.Grammar) []int {
	var l []int
	for i := range g.Terms {
		l = append(l, i+1)
	}
	for i := range g.Nons {
		l = append(l, non+i)
	}
	return l
}

// hold holds a Machine against the words of P12.1: each Go of a state's items is the state that is told, each state is new when it is first come to, and none is twice.
func hold(t *testing.T, g api.Grammar, m *states.Machine) {
	t.Helper()
	maker, e := item.New(g)
	if e != api.OK {
		t.Fatal(g, e)
	}
	if !item.Same(m.Items(0), maker.Begin()) || m.By(0) != end {
		t.Fatal(g.Prods, m.Items(0))
	}
	seen := 1
	for state := range m.Len() {
		if state >= seen {
			t.Fatal(g.Prods, state, "is not come to")
		}
		for _, sym := range symbols(g) {
			want, to := maker.Go(m.Items(state), sym), m.Go(state, sym)
			if len(want) == 0 {
				if to != none {
					t.Fatal(g.Prods, state, sym, to)
				}
				continue
			}
			if to == seen {
				seen++
			}
			if to < 1 || to >= seen || !item.Same(m.Items(to), want) || m.By(to) != sym {
				t.Fatal(g.Prods, state, sym, to, m.By(to))
			}
		}
		for _, sym := range []int{-1, end, len(g.Terms) + 1, non - 1, non + len(g.Nons)} {
			if to := m.Go(state, sym); to != none {
				t.Fatal(g.Prods, state, sym, to)
			}
		}
	}
	if seen != m.Len() || len(m.Items(seen)) != 0 || m.By(seen) != none {
		t.Fatal(g.Prods, seen, m.Len())
	}
	once(t, g, m)
}

// once: no list of items is two states.
func once(t *testing.T, g api.Grammar, m *states.Machine) {
	t.Helper()
	lists := map[string]int{}
	for state := range m.Len() {
		text := ""
		for _, x := range m.Items(state) {
			text += strconv.Itoa(x.Prod) + "." + strconv.Itoa(x.Dot) + "." + strconv.Itoa(x.Ahead) + " "
		}
		if other, ok := lists[text]; ok {
			t.Fatal(g.Prods, other, state, text)
		}
		lists[text] = state
	}
}

// count tells how many lists of items are come to, up to one more than most.
func count(g api.Grammar, maker *item.Maker, most int) int {
	lists := [][]api.Item{maker.Begin()}
	for i := 0; i < len(lists) && len(lists) <= most; i++ {
		for _, sym := range symbols(g) {
			l := maker.Go(lists[i], sym)
			if len(l) > 0 && len(lists) <= most && !slices.ContainsFunc(lists, func(k []api.Item) bool { return slices.Equal(k, l) }) {
				lists = append(lists, l)
			}
		}
	}
	return len(lists)
}

// TestHold: P12.1 held against its words, of grammars by a fixed rule.
func TestHold(t *testing.T) {
	var c chance
	sums := map[string]int{}
	for i := range 1500 {
		g := c.grammar([]int{1, 2, 3, 5, 8}[i%5], 1+c.below(4))
		if gram.Check(g) != api.OK {
			t.Fatal(g)
		}
		maker, e := item.New(g)
		if e != api.OK {
			if m, f := states.New(g, most); m != nil || f != e {
				t.Fatal(g.Prods, m, f)
			}
			sums["empty"]++
			continue
		}
		n := count(g, maker, 80)
		for _, budget := range []int{1, 2, n - 1, n, n + 1, 1 + c.below(80), 80} {
			if budget < 1 || budget > 80 {
				continue
			}
			m, e := states.New(g, budget)
			if n > budget && (m != nil || e != api.ErrBudget) || n <= budget && (m == nil || e != api.OK) {
				t.Fatal(g.Prods, n, budget, m, e)
			}
			if m == nil {
				sums["budget"]++
				continue
			}
			hold(t, g, m)
			if m.Len() != n {
				t.Fatal(g.Prods, n, m.Len())
			}
			sums["made"]++
			if n > 30 {
				sums["many"]++
			}
		}
	}
	if sums["empty"] < 100 || sums["budget"] < 1000 || sums["made"] < 1000 || sums["many"] < 300 {
		t.Error("the grammars are too much alike", sums)
	}
}

// TestLeast: P12.1: the states stand in the order of the least rows of symbols that lead to them: the shorter row ahead, and of two as long the one that is ahead at the first place where they differ.
func TestLeast(t *testing.T) {
	var c chance
	long := 0
	for i := range 400 {
		g := c.grammar([]int{2, 3, 4}[i%3], 1+c.below(4))
		m, e := states.New(g, most)
		if e != api.OK {
			continue
		}
		rows := [][]int{{}} // of each state, as they are met by rows that grow
		at := map[int]int{0: 0}
		for i := 0; i < len(rows); i++ {
			state := walk(m, rows[i])
			for _, sym := range symbols(g) {
				to := m.Go(state, sym)
				if _, ok := at[to]; to == none || ok {
					continue
				}
				at[to] = len(rows)
				rows = append(rows, append(slices.Clone(rows[i]), sym))
			}
		}
		for state, place := range at {
			if state != place {
				t.Fatal(g.Prods, state, rows[place])
			}
		}
		if len(at) != m.Len() {
			t.Fatal(g.Prods, len(at), m.Len())
		}
		if len(at) > 10 {
			long++
		}
	}
	if long < 100 {
		t.Error("the grammars are too much alike", long)
	}
}

func walk(m *states.Machine, row []int) int {
	state := 0
	for _, sym := range row {
		state = m.Go(state, sym)
	}
	return state
}
