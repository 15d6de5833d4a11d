package item_test

import (
	"cmp"
	"slices"
	"testing"

	"exegete/api"
	"exegete/first"
	"exegete/gram"
	"exegete/item"
)

// chance is a row of numbers by a fixed rule.
type chance uint64

func (c *chance) below(n int) int {
	*c = *c*6364136223846793005 + 1442695040888963407
	return int(*c >> 33 % chance(n))
}

// grammar has one to five nonterminals, each of which has productions of up to long symbols; of a finite one each nonterminal has just later ones, but perhaps a last one, that has itself in all it has: no word comes of that. The productions stand in any order.
func (c *chance) grammar(long int, finite bool) api.Grammar {
	g := api.Grammar{Terms: []string{"a", "b", "c"}[:1+c.below(3)], Nons: []string{"S", "T", "U", "V", "W"}[:1+c.below(5)]}
	last := len(g.Nons) - 1
	barren := finite && last > 0 && c.below(2) == 0
	for i := range g.Nons {
		from := 0
		if finite {
			from = i + 1
		}
		for range 1 + c.below(3) {
			p := prod(i)
			for range c.below(long + 1) {
				p.Right = append(p.Right, c.symbol(g, from))
			}
			if barren && i == last {
				p.Right = append(p.Right, non+last)
			}
			if !slices.ContainsFunc(g.Prods, func(q api.Prod) bool { return q.Left == p.Left && slices.Equal(q.Right, p.Right) }) {
				g.Prods = slices.Insert(g.Prods, c.below(len(g.Prods)+1), p)
			}
		}
	}
	return g
}

// symbol is a terminal, or a nonterminal from the from-th on.
func (c *chance) symbol(g api.Grammar, from int) int {
	if from == len(g.Nons) || c.below(5) < 2 {
		return 1 + c.below(len(g.Terms))
	}
	return non + from + c.below(len(g.Nons)-from)
}

// bearing tells of each production whether a word comes of it.
func bearing(g api.Grammar) []bool {
	bears, known := make([]bool, len(g.Prods)), map[int]bool{}
	for was := -1; was < len(known); {
		was = len(known)
		for i, p := range g.Prods {
			if !slices.ContainsFunc(p.Right, func(sym int) bool { return sym >= non && !known[sym] }) {
				bears[i], known[p.Left] = true, true
			}
		}
	}
	return bears
}

// hasWord tells whether a word comes of the start.
func hasWord(g api.Grammar, bears []bool) bool {
	for i, p := range g.Prods {
		if p.Left == non && bears[i] {
			return true
		}
	}
	return false
}

// rightOf tells the Right of a production, the start's own too.
func rightOf(g api.Grammar, place int) []int {
	if place == own {
		return []int{non}
	}
	return g.Prods[place].Right
}

// box are all items that may be, and more.
func box(g api.Grammar) []api.Item {
	var l []api.Item
	for i := -2; i <= len(g.Prods); i++ {
		for dot := -1; dot <= 5; dot++ {
			for ahead := -1; ahead <= len(g.Terms)+1; ahead++ {
				l = append(l, api.Item{Prod: i, Dot: dot, Ahead: ahead})
			}
			l = append(l, api.Item{Prod: i, Dot: dot, Ahead: non})
		}
	}
	return l
}

// is tells whether x is Right, by the words of P11.1.
func is(g api.Grammar, bears []bool, x api.Item) bool {
	if x.Prod == own {
		return x.Ahead == end && (x.Dot == 0 || x.Dot == 1)
	}
	if x.Prod < 0 || x.Prod >= len(g.Prods) || !bears[x.Prod] {
		return false
	}
	return x.Dot >= 0 && x.Dot <= len(g.Prods[x.Prod].Right) && (x.Ahead == end || x.Ahead >= 1 && x.Ahead <= len(g.Terms))
}

// closed is Close by the words of P11.2, step by step: they, and, as long as there are new ones, what those bring.
func closed(g api.Grammar, bears []bool, table *first.Table, from []api.Item) []api.Item {
	var l []api.Item
	add := func(x api.Item) {
		if !slices.Contains(l, x) {
			l = append(l, x)
		}
	}
	for _, x := range from {
		if is(g, bears, x) {
			add(x)
		}
	}
	for i := 0; i < len(l); i++ {
		rest := rightOf(g, l[i].Prod)[l[i].Dot:]
		for j, p := range g.Prods {
			if len(rest) > 0 && rest[0] == p.Left && bears[j] {
				for _, ahead := range table.Ahead(rest[1:], l[i].Ahead).List() {
					add(api.Item{Prod: j, Dot: 0, Ahead: ahead})
				}
			}
		}
	}
	return sorted(l)
}

func sorted(l []api.Item) []api.Item {
	slices.SortFunc(l, func(a, b api.Item) int {
		return cmp.Or(cmp.Compare(a.Prod, b.Prod), cmp.Compare(a.Dot, b.Dot), cmp.Compare(a.Ahead, b.Ahead))
	})
	return l
}

// TestHold: P11.1, P11.2 held against their words, of grammars and lists of items by a fixed rule.
func TestHold(t *testing.T) {
	var c chance
	sums := map[string]int{}
	for range 3000 {
		g := c.grammar(4, false)
		bears := bearing(g)
		m, e := item.New(g)
		if !hasWord(g, bears) {
			if m != nil || e != api.ErrEmpty {
				t.Fatal(g.Prods, m, e)
			}
			sums["empty"]++
			continue
		}
		if m == nil || e != api.OK {
			t.Fatal(g.Prods, m, e)
		}
		table, _ := first.New(g)
		all := box(g)
		for _, x := range all {
			right := is(g, bears, x)
			if m.Right(x) != right {
				t.Fatal(g.Prods, x, right)
			}
			sym, ok := m.Next(x)
			if want := right && x.Dot < len(rightOf(g, x.Prod)); ok != want || ok && sym != rightOf(g, x.Prod)[x.Dot] || !ok && sym != 0 {
				t.Fatal(g.Prods, x, sym, ok)
			}
		}
		for range 6 {
			var from []api.Item
			for range c.below(8) {
				from = append(from, all[c.below(len(all))])
			}
			for range c.below(3) { // else few were Right
				i := c.below(len(g.Prods))
				from = append(from, api.Item{Prod: i, Dot: c.below(len(g.Prods[i].Right) + 1), Ahead: c.below(len(g.Terms) + 1)})
			}
			want := closed(g, bears, table, from)
			if got := m.Close(from...); !item.Same(got, want) || !rising(got) {
				t.Fatal(g.Prods, from, got, want)
			}
			if len(want) > 6 {
				sums["long"]++
			}
			sums["over"] += holdGo(t, g, bears, table, m, from)
		}
	}
	if sums["empty"] < 100 || sums["long"] < 1000 || sums["over"] < 3000 {
		t.Error("the grammars are too much alike", sums)
	}
}

// holdGo holds Go against its words, by each symbol, and some that are none. It tells how many led on.
func holdGo(t *testing.T, g api.Grammar, bears []bool, table *first.Table, m *item.Maker, from []api.Item) int {
	t.Helper()
	sum := 0
	for _, sym := range []int{-1, end, 1, 2, 3, 4, non - 1, non, non + 1, non + 2, non + 3, non + 4, non + 5} {
		var over []api.Item
		for _, x := range from {
			if is(g, bears, x) && x.Dot < len(rightOf(g, x.Prod)) && rightOf(g, x.Prod)[x.Dot] == sym {
				over = append(over, api.Item{Prod: x.Prod, Dot: x.Dot + 1, Ahead: x.Ahead})
			}
		}
		if got, want := m.Go(from, sym), closed(g, bears, table, over); !item.Same(got, want) {
			t.Fatal(g.Prods, from, sym, got, want)
		}
		if len(over) > 0 {
			sum++
		}
	}
	return sum
}

// form is a beginning of a form, and the first of the terminals behind it.
type form struct {
	row   []int
	ahead int
}

// valid tells the items that stand behind each beginning: of all forms that come of the start, where the last nonterminal is put out each time, those of the production that is put in there, whose ahead is the first terminal behind. Beginnings of forms that are longer than most are left out.
func valid(g api.Grammar, most int) map[string][]api.Item {
	bears := bearing(g)
	l := map[string][]api.Item{"": {{Prod: own}}, key([]int{non}): {{Prod: own, Dot: 1}}}
	forms, seen := []form{{[]int{non}, end}}, map[string]bool{}
	for len(forms) > 0 {
		f := forms[0]
		forms = forms[1:]
		for len(f.row) > 0 && f.row[len(f.row)-1] < non {
			f.ahead = f.row[len(f.row)-1]
			f.row = f.row[:len(f.row)-1]
		}
		if k := key(append(slices.Clone(f.row), f.ahead)); len(f.row) == 0 || seen[k] {
			continue
		} else {
			seen[k] = true
		}
		head, left := f.row[:len(f.row)-1], f.row[len(f.row)-1]
		for i, p := range g.Prods {
			if p.Left != left || !bears[i] || len(head)+len(p.Right) > most {
				continue
			}
			row := slices.Concat(head, p.Right)
			for dot := range len(p.Right) + 1 {
				k, x := key(row[:len(head)+dot]), api.Item{Prod: i, Dot: dot, Ahead: f.ahead}
				if !slices.Contains(l[k], x) {
					l[k] = append(l[k], x)
				}
			}
			forms = append(forms, form{row, f.ahead})
		}
	}
	return l
}

func key(row []int) string {
	text := ""
	for _, sym := range row {
		text += string(rune(sym))
	}
	return text
}

// along tells the items behind a beginning, by Begin and Go.
func along(m *item.Maker, beginning string) []api.Item {
	l := m.Begin()
	for _, sym := range beginning {
		l = m.Go(l, int(sym))
	}
	return l
}

// TestFinite: P11.2: where forms come to an end, Begin and Go tell of each row of symbols just the items that stand behind it in a form, and nothing of a row with which no form begins.
func TestFinite(t *testing.T) {
	var c chance
	sums := map[string]int{}
	for range 2000 {
		g := c.grammar(3, true)
		if gram.Check(g) != api.OK {
			t.Fatal(g)
		}
		m, e := item.New(g)
		if e != api.OK {
			sums["empty"]++
			continue
		}
		l := valid(g, 99)
		for k, want := range l {
			if got := along(m, k); !item.Same(got, sorted(want)) {
				t.Fatalf("%v, %q: %v, not %v", g.Prods, k, got, want)
			}
			for _, sym := range []int{end, 1, 2, 3, non, non + 1, non + 2, non + 3, non + 4} {
				if next := k + string(rune(sym)); len(l[next]) == 0 && len(m.Go(along(m, k), sym)) > 0 {
					t.Fatalf("%v, %q", g.Prods, next)
				}
			}
			sums["rows"]++
			if len(want) > 3 {
				sums["long"]++
			}
		}
	}
	if sums["empty"] < 20 || sums["rows"] < 10000 || sums["long"] < 1000 {
		t.Error("the grammars are too much alike", sums)
	}
}

// TestForms: P11.2: where there is no end of forms, the items of all that are short stand behind their beginnings; and nearly all others need no more than these.
func TestForms(t *testing.T) {
	var c chance
	rows, alike := 0, 0
	for range 400 {
		g := c.grammar(2, false)
		m, e := item.New(g)
		if e != api.OK {
			continue
		}
		for k, want := range valid(g, 6) {
			got := along(m, k)
			for _, x := range want {
				if !slices.Contains(got, x) {
					t.Fatalf("%v, %q: %v, not %v", g.Prods, k, got, want)
				}
			}
			if len(k) > 2 {
				continue // the forms that would be needed are too long
			}
			rows++
			if item.Same(got, sorted(want)) {
				alike++
			}
		}
	}
	if rows < 800 || alike < rows*9/10 {
		t.Error(rows, alike)
	}
}
