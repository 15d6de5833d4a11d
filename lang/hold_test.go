package lang_test

import (
	"slices"
	"strings"
	"testing"

	"exegete/api"
	"exegete/derive"
	"exegete/gram"
	"exegete/lang"
	"exegete/word"
)

// left is what is left of the words of a symbol that begin with the places from from to to of a word, behind that beginning; to is 0 of a symbol as it is.
type left struct{ sym, from, to int }

// lefts has the productions of each left of a word, and of which of them the empty word, and any word, comes: a way to Has and Begins by grammars alone.
type lefts struct {
	prods         map[left][][]left
	empty, fruits map[left]int
}

func newLefts(g api.Grammar, w []int) *lefts {
	x := &lefts{prods: map[left][][]left{}}
	for _, p := range g.Prods {
		var row []left
		for _, sym := range p.Right {
			row = append(row, left{sym: sym})
		}
		k := left{sym: p.Left}
		x.prods[k] = append(x.prods[k], row)
	}
	x.empty = x.grow(func(left) bool { return false })
	for to := 1; to <= len(w); to++ {
		for from := range to {
			for i := range g.Nons {
				x.take(left{non + i, from, to}, w[to-1])
			}
		}
		x.empty = x.grow(func(left) bool { return false })
	}
	x.fruits = x.grow(func(k left) bool { return k.sym < non })
	return x
}

// take makes the productions of k out of those without its last terminal.
func (x *lefts) take(k left, term int) {
	was := left{k.sym, k.from, k.to - 1}
	if k.from == k.to-1 {
		was = left{sym: k.sym}
	}
	for _, row := range x.prods[was] {
		for i, head := range row {
			if head.sym == term {
				x.add(k, row[i+1:])
			}
			if head.sym >= non {
				next := left{head.sym, head.from, k.to}
				if head.to == 0 {
					next.from = k.to - 1
				}
				x.add(k, append([]left{next}, row[i+1:]...))
			}
			if x.empty[head] == 0 {
				break
			}
		}
	}
}

func (x *lefts) add(k left, row []left) {
	if !slices.ContainsFunc(x.prods[k], func(l []left) bool { return slices.Equal(l, row) }) {
		x.prods[k] = append(x.prods[k], slices.Clone(row))
	}
}

// grow tells all of which a production has just symbols that hold, or are told by now.
func (x *lefts) grow(holds func(left) bool) map[left]int {
	l := map[left]int{}
	for was := -1; was < len(l); {
		was = len(l)
		for k, rows := range x.prods {
			for _, row := range rows {
				if !slices.ContainsFunc(row, func(s left) bool { return l[s] == 0 && !holds(s) }) {
					l[k] = 1
				}
			}
		}
	}
	return l
}

// whole is what is left of the start behind all of a word.
func whole(w []int) left {
	return left{non, 0, len(w)}
}

// grown are all words of the start of at most a length, by growing those of each nonterminal.
func grown(g api.Grammar, length int) [][]int {
	all := make([][][]int, len(g.Nons))
	seen := map[string]int{}
	for was := -1; was < len(seen); {
		was = len(seen)
		for _, p := range g.Prods {
			rows := [][]int{nil}
			for _, sym := range p.Right {
				parts := [][]int{{sym}}
				if sym >= non {
					parts = all[sym-non]
				}
				var next [][]int
				known := map[string]int{}
				for _, row := range rows {
					for _, part := range parts {
						w := slices.Concat(row, part)
						if known[key(w)]++; len(w) <= length && known[key(w)] == 1 {
							next = append(next, w)
						}
					}
				}
				rows = next
			}
			for _, w := range rows {
				k := string(rune(p.Left)) + key(w)
				if seen[k]++; seen[k] == 1 {
					all[p.Left-non] = append(all[p.Left-non], w)
				}
			}
		}
	}
	l := slices.Clone(all[0])
	slices.SortFunc(l, func(a, b []int) int {
		if word.Less(a, b) {
			return -1
		}
		return 1
	})
	return l
}

func key(w []int) string {
	text := ""
	for _, sym := range w {
		text += string(rune(sym))
	}
	return text
}

// holdWords holds Words against all words that are grown.
func holdWords(t *testing.T, g api.Grammar, length int) {
	t.Helper()
	all := grown(g, length)
	for _, n := range []int{0, 1, 2, 3, len(all) / 2, len(all) - 1, len(all), len(all) + 1, maxWords - 1, maxWords} {
		if n < 0 || n > maxWords {
			continue
		}
		if l, e := lang.Words(g, length, n); e != api.OK || !sameWords(l, all[:min(n, len(all))]) {
			t.Fatalf("%v, %d, %d: %d %v, not %v", g.Prods, length, n, e, l, all)
		}
	}
}

// holdWord holds Has and Begins against what is left of the start, and against derive.
func holdWord(t *testing.T, g api.Grammar, w []int) (has, begins bool) {
	t.Helper()
	x := newLefts(g, w)
	has, begins = x.empty[whole(w)] == 1, x.fruits[whole(w)] == 1
	if lang.Has(g, w) != has || lang.Begins(g, w) != begins || derive.Can(g, non, w) != has {
		t.Fatal(g.Prods, w, lang.Has(g, w), lang.Begins(g, w), has, begins)
	}
	return has, begins
}

func TestAllSmall(t *testing.T) { // P10.1: grammars with a few short productions
	var rights [][]int
	symbols := []int{1, 2, non, non + 1}
	for _, w := range lang.All(len(symbols), 2) {
		var right []int
		for _, i := range w {
			right = append(right, symbols[i-1])
		}
		rights = append(rights, right)
	}
	var pairs [][]int // of places in rights
	for i := range rights {
		for j := range i + 1 {
			pairs = append(pairs, []int{i, j})
		}
	}
	round, sums := 0, [3]int{}
	for _, one := range pairs {
		for _, two := range pairs {
			if round++; round%23 != 0 {
				continue
			}
			g := api.Grammar{Terms: []string{"a", "b"}, Nons: []string{"S", "T"}}
			for _, i := range slices.Compact(slices.Clone(one)) {
				g.Prods = append(g.Prods, api.Prod{Left: non, Right: rights[i]})
			}
			for _, i := range slices.Compact(slices.Clone(two)) {
				g.Prods = append(g.Prods, api.Prod{Left: non + 1, Right: rights[i]})
			}
			holdWords(t, g, round%7)
			for _, w := range lang.All(2, 3) {
				has, begins := holdWord(t, g, w)
				switch {
				case has:
					sums[0]++
				case begins:
					sums[1]++
				default:
					sums[2]++
				}
			}
		}
	}
	if slices.Min(sums[:]) < 1000 {
		t.Error("few were held", sums)
	}
}

// chance is a row of numbers by a fixed rule.
type chance uint64

func (c *chance) below(n int) int {
	*c = *c*6364136223846793005 + 1442695040888963407
	return int(*c >> 33 % chance(n))
}

// grammar has one to five nonterminals, and productions of up to four symbols, in any order.
func (c *chance) grammar() api.Grammar {
	g := api.Grammar{Terms: []string{"a", "b", "c"}[:1+c.below(3)], Nons: []string{"S", "T", "U", "V", "W"}[:1+c.below(5)]}
	add := func(left int) {
		p := api.Prod{Left: left}
		for range c.below(5) {
			p.Right = append(p.Right, c.symbol(g))
		}
		alike := func(q api.Prod) bool { return q.Left == left && slices.Equal(p.Right, q.Right) }
		if !slices.ContainsFunc(g.Prods, alike) {
			g.Prods = append(g.Prods, p)
		}
	}
	for i := range g.Nons {
		add(non + i)
	}
	for range c.below(10) {
		add(non + c.below(len(g.Nons)))
	}
	return g
}

func (c *chance) symbol(g api.Grammar) int {
	if c.below(5) < 3 {
		return 1 + c.below(len(g.Terms))
	}
	return non + c.below(len(g.Nons))
}

// word has up to 12 terminals. It is mostly a beginning of what productions make: else few words would come of the start.
func (c *chance) word(g api.Grammar) []int {
	form := []int{non}
	for range 200 {
		i := slices.IndexFunc(form, func(sym int) bool { return sym >= non })
		if i < 0 {
			break
		}
		p := g.Prods[c.below(len(g.Prods))]
		if p.Left == form[i] && len(form)+len(p.Right) < 20 {
			form = slices.Replace(form, i, i+1, p.Right...)
		}
	}
	w := slices.DeleteFunc(form, func(sym int) bool { return sym >= non })
	w = w[:min(len(w), maxWord)]
	switch c.below(4) {
	case 0:
		return w[:c.below(len(w)+1)]
	case 1:
		if len(w) > 0 {
			w[c.below(len(w))] = 1 + c.below(len(g.Terms))
		}
	}
	return w
}

func TestMany(t *testing.T) { // P10.1: grammars and words by a fixed rule
	var c chance
	sums, long := [3]int{}, 0
	for range 3000 {
		g := c.grammar()
		if gram.Check(g) != api.OK {
			t.Fatal(g)
		}
		if len(g.Terms) < 3 {
			holdWords(t, g, c.below(maxLength+1))
		} else {
			holdWords(t, g, c.below(5))
		}
		for range 4 {
			w := c.word(g)
			has, begins := holdWord(t, g, w)
			if len(w) > 8 {
				long++
			}
			switch {
			case has:
				sums[0]++
			case begins:
				sums[1]++
			default:
				sums[2]++
			}
		}
	}
	if slices.Min(sums[:]) < 1000 || long < 500 {
		t.Error("few were held", sums, long)
	}
}

func TestFirstOfMany(t *testing.T) { // P10.1: the first most, where there are far more
	for _, text := range []string{"S: S S | a | b | c", "S: a S c | T\nT: b T a | S S | b | c |", "S: T S | T\nT: a | b | c | d S", "S: T T T a T T\nT: b | c | d |"} {
		g := parse(t, text)
		for length := range maxLength + 1 {
			var all [][]int
			for _, w := range lang.All(len(g.Terms), min(length, maxAll)) {
				if lang.Has(g, w) {
					all = append(all, w)
				}
			}
			l, e := lang.Words(g, length, maxWords)
			n := min(len(all), maxWords)
			if e != api.OK || !rising(l) || len(l) < n || !sameWords(l[:n], all[:n]) {
				t.Fatal(text, length, len(l), e)
			}
			for _, w := range l[n:] { // of the greatest length
				if len(w) != maxLength || !lang.Has(g, w) {
					t.Fatal(text, w)
				}
			}
			if length == maxLength && len(l) != maxWords {
				t.Error(text, len(l))
			}
		}
	}
}

// TestBeginnings: each beginning of a word begins one, and what begins one of no more than six is the beginning of one of Words.
func TestBeginnings(t *testing.T) {
	for _, text := range []string{"S: a S b | c", "S: S b S | a | c c", "S: T a | b\nT: c S | T T |", "S: a U | b | T\nT: a b c | U b\nU: U c"} {
		g := parse(t, text)
		l, e := lang.Words(g, maxLength, maxWords)
		if e != api.OK || len(l) == 0 || len(l) == maxWords {
			t.Fatal(text, len(l), e)
		}
		begins := map[string]int{}
		for _, w := range l {
			for n := range len(w) + 1 {
				begins[key(w[:n])] = 1
			}
		}
		for _, w := range lang.All(len(g.Terms), 3) {
			if begins[key(w)] == 1 && !lang.Begins(g, w) {
				t.Error(text, w)
			}
			// The end of any beginning of one or two is near, in these.
			if len(w) < 3 && lang.Begins(g, w) != (begins[key(w)] == 1) {
				t.Error(text, w)
			}
		}
	}
}

// TestHard: R1: it ends, and soon, where each nonterminal can be empty and can stand in each other one.
func TestHard(t *testing.T) {
	for _, last := range []string{"a b c d e f | g h", "a", "S S a", "a b c | d e f | g h"} {
		g := parse(t, strings.Join([]string{
			"S: A B C D E F | B C D E F G |", "A: B C D E F G | S C D E F G |", "B: C D E F G S | A C D E F G |", "C: D E F G S A | A B D E F G |",
			"D: E F G S A B | A B C E F G |", "E: F G S A B C | A B C D F G |", "F: G S A B C D | A B C D E G |", "G: " + last,
		}, "\n"))
		holdWords(t, g, 3)
		for length := range maxLength + 1 {
			if l, e := lang.Words(g, length, maxWords); e != api.OK || !rising(l) {
				t.Error(last, length, len(l), e)
			}
		}
		for sym := range len(g.Terms) {
			w := slices.Repeat([]int{sym + 1}, maxWord)
			if lang.Has(g, w) != derive.Can(g, non, w) {
				t.Error(last, w)
			}
			if lang.Has(g, w) && !lang.Begins(g, w) {
				t.Error(last, w)
			}
		}
	}
}

// TestMemory: R4: what is handed in is neither changed nor kept, and what lies behind its length is neither read nor written.
func TestMemory(t *testing.T) {
	const text = "S: a S b | T c |\nT: b T | a"
	clean := parse(t, text)
	g := parse(t, text)
	for i := range g.Prods {
		g.Prods[i].Right = append(slices.Clone(g.Prods[i].Right), 2, 1)[:len(g.Prods[i].Right)]
	}
	g.Prods = append(g.Prods, api.Prod{Left: non, Right: []int{2}})[:len(g.Prods)]
	g.Terms, g.Nons = append(g.Terms, "d")[:3], append(g.Nons, "U")[:2]
	want := grown(clean, maxLength)
	l, e := lang.Words(g, maxLength, maxWords)
	if e != api.OK || !sameWords(l, want) || len(want) < 8 {
		t.Error(told(g, l), told(g, want), e)
	}
	for _, w := range lang.All(3, 4) {
		long := append(slices.Clone(w), 3, 77)
		x := newLefts(clean, w)
		if lang.Has(g, long[:len(w)]) != (x.empty[whole(w)] == 1) || lang.Begins(g, long[:len(w)]) != (x.fruits[whole(w)] == 1) {
			t.Error(w)
		}
		if !slices.Equal(long, append(slices.Clone(w), 3, 77)) {
			t.Error("changed", long)
		}
	}
	if !gram.Same(g, clean) || g.Prods[:len(g.Prods)+1][len(g.Prods)].Right[0] != 2 || g.Terms[:4][3] != "d" || g.Nons[:3][2] != "U" {
		t.Error("changed", g)
	}
	for _, p := range g.Prods {
		if !slices.Equal(p.Right[len(p.Right):][:2], []int{2, 1}) {
			t.Error("changed", p)
		}
	}
	g.Prods[0].Right[0], g.Terms[0], g.Nons[1] = 2, "x", "X"
	if again, e := lang.Words(clean, maxLength, maxWords); e != api.OK || !sameWords(again, want) || !sameWords(l, want) {
		t.Error("kept", again, e)
	}
}

// TestNewMemory: R4: each list handed out is new memory, lists within it as well; R5: the same is answered each time.
func TestNewMemory(t *testing.T) {
	g := parse(t, "S: S S | a | b |")
	for _, fresh := range []func() [][]int{
		func() [][]int { return lang.All(3, 4) },
		func() [][]int { l, _ := lang.Words(g, 5, maxWords); return l },
	} {
		l, want := fresh(), fresh()
		if !sameWords(l, want) || len(l) < 60 {
			t.Fatal(len(l))
		}
		_ = append(l, []int{77})
		for i := range l { // what lies behind one list is no other one's
			_ = append(l[i], 77, 77, 77)
		}
		if !sameWords(l, want) {
			t.Error("lists share memory")
		}
		for i := range l {
			for j := range l[i] {
				l[i][j] = 77
			}
			if !sameWords(l[i+1:], want[i+1:]) {
				t.Fatal("lists share memory", i)
			}
		}
		if !sameWords(fresh(), want) {
			t.Error("not the same again")
		}
	}
}
