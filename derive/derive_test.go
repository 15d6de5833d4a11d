package derive_test

import (
	"cmp"
	"math"
	"reflect"
	"slices"
	"strings"
	"testing"

	"exegete/api"
	"exegete/derive"
	"exegete/gram"
	"exegete/tree"
)

const (
	non     = api.Non
	maxWord = 12
	most    = 200
)

func parse(t *testing.T, text string) api.Grammar {
	t.Helper()
	g, line, col, e := gram.Parse(text)
	if e != api.OK {
		t.Fatalf("%q: error %d at %d, %d", text, e, line, col)
	}
	return g
}

// syms are the symbols of names, with blanks between.
func syms(t *testing.T, g api.Grammar, names string) []int {
	t.Helper()
	var l []int
	for _, name := range strings.Fields(names) {
		sym, ok := gram.Find(g, name)
		if !ok {
			t.Fatal(name)
		}
		l = append(l, sym)
	}
	return l
}

func prints(g api.Grammar, l []api.Tree) []string {
	var texts []string
	for _, x := range l {
		texts = append(texts, tree.Print(g, x))
	}
	return texts
}

// holdAll holds Trees, Count and Can, of each most, against all plain trees in their order.
func holdAll(t *testing.T, g api.Grammar, root int, word []int, want []string) {
	t.Helper()
	for _, n := range []int{0, 1, 2, 3, len(want) - 1, len(want), len(want) + 1, most - 1, most} {
		if n < 0 || n > most {
			continue
		}
		l, e := derive.Trees(g, root, word, n)
		first := want[:min(n, len(want))]
		if got := prints(g, l); e != api.OK || !slices.Equal(got, first) {
			t.Fatalf("%v of %d, %v, at most %d: %d\n got  %q\n want %q", g.Prods, root, word, n, e, got, first)
		}
		if got := derive.Count(g, root, word, n); got != len(first) {
			t.Fatal(g.Prods, root, word, n, got)
		}
	}
	if derive.Can(g, root, word) != (len(want) > 0) {
		t.Fatal(g.Prods, root, word)
	}
}

func TestTrees(t *testing.T) { // P9.1
	for _, r := range []struct {
		text, root, word string
		want             []string
	}{
		// No ambiguity, or no tree.
		{"S: a S | b", "S", "a a b", []string{"(S a (S a (S b)))"}},
		{"S: a S | b", "S", "b", []string{"(S b)"}},
		{"S: a S | b", "S", "", nil},
		{"S: a S | b", "S", "a", nil},
		{"S: a S | b", "S", "b a", nil},
		{"S: a S b |", "S", "a a b b", []string{"(S a (S a (S) b) b)"}},
		{"S: a S b |", "S", "a b b", nil},
		{"S: a S b |", "S", "", []string{"(S)"}},
		// A terminal as the root.
		{"S: a S | b", "a", "a", []string{"a"}},
		{"S: a S | b", "a", "b", nil},
		{"S: a S | b", "a", "S", nil},
		{"S: a S | b", "b", "", nil},
		{"S: a S | b", "a", "a a", nil},
		// Nonterminals in the word.
		{"S: a S | b", "S", "S", []string{"S"}},
		{"S: a S | b", "S", "a S", []string{"(S a S)"}},
		{"S: a S | b", "S", "a a S", []string{"(S a (S a S))"}},
		{"S: a S | b", "S", "S S", nil},
		{"S: A B\nA: a\nB: A", "S", "A A", []string{"(S A (B A))"}},
		{"S: A B\nA: a\nB: A", "S", "a B", []string{"(S (A a) B)"}},
		{"S: A B\nA: a\nB: A", "B", "a", []string{"(B (A a))"}},
		{"S: A B\nA: a\nB: A", "A", "B", nil},
		// Productions of which no word of terminals comes count as well.
		{"S: a U | b\nU: U c", "S", "a U c c", []string{"(S a (U (U U c) c))"}},
		{"S: a U | b\nU: U c", "S", "a U", []string{"(S a U)"}},
		{"S: a U | b\nU: U c", "U", "c", nil},
		{"S: S a", "S", "S a a", []string{"(S (S S a) a)"}},
		// So do those that the start does not lead to.
		{"S: b\nT: a T | a", "T", "a a", []string{"(T a (T a))"}},
		// By how many leaves the first of Kids has, fewer first; then by that one's tree; then likewise the next ones.
		{"S: S S | a", "S", "a a a", []string{"(S (S a) (S (S a) (S a)))", "(S (S (S a) (S a)) (S a))"}},
		{"S: S S | a", "S", "a a a a", []string{
			"(S (S a) (S (S a) (S (S a) (S a))))", "(S (S a) (S (S (S a) (S a)) (S a)))",
			"(S (S (S a) (S a)) (S (S a) (S a)))",
			"(S (S (S a) (S (S a) (S a))) (S a))", "(S (S (S (S a) (S a)) (S a)) (S a))",
		}},
		{"S: A A A\nA: a | a a |", "S", "a a", []string{
			"(S (A) (A) (A a a))", "(S (A) (A a) (A a))", "(S (A) (A a a) (A))", "(S (A a) (A) (A a))", "(S (A a) (A a) (A))", "(S (A a a) (A) (A))",
		}},
		{"S: A A\nA: B | a\nB: a", "S", "a a", []string{"(S (A (B a)) (A (B a)))", "(S (A (B a)) (A a))", "(S (A a) (A (B a)))", "(S (A a) (A a))"}},
		// By the production, whatever stands below.
		{"S: B | A A | b A\nA: b | B\nB: A A | b b", "S", "b b", []string{
			"(S (B (A b) (A b)))", "(S (B b b))", "(S (A b) (A b))", "(S b (A b))",
		}},
		{"S: b A | B | A A\nA: b | B\nB: b b | A A", "S", "b b", []string{
			"(S b (A b))", "(S (B b b))", "(S (B (A b) (A b)))", "(S (A b) (A b))",
		}},
		// A production ahead of one whose first tree has fewer leaves.
		{"S: A a | B A\nA: a a | a\nB:", "S", "a a", []string{"(S (A a) a)", "(S (B) (A a a))"}},
	} {
		g := parse(t, r.text)
		holdAll(t, g, syms(t, g, r.root)[0], syms(t, g, r.word), r.want)
	}
}

func TestPlain(t *testing.T) { // P9.1: what is plain, and what is not
	for _, r := range []struct {
		text, root, word string
		want             []string
	}{
		// One under itself, straight or further down.
		{"S: S | a", "S", "a", []string{"(S a)"}},
		{"S: A | B | a\nA: S | a\nB: A", "S", "a", []string{"(S (A a))", "(S (B (A a)))", "(S a)"}},
		{"S: A | B | a\nA: S | a\nB: A", "A", "a", []string{"(A (S a))", "(A a)"}},
		{"S: A | B | a\nA: S | a\nB: A", "B", "a", []string{"(B (A (S a)))", "(B (A a))"}},
		// A leaf of a nonterminal under that one.
		{"S: S | a", "S", "S", []string{"S"}},
		{"S: A | a\nA: S | b", "S", "S", []string{"S"}},
		{"S: A | a\nA: S | b", "A", "S", []string{"(A S)"}},
		{"S: A | a\nA: S | b", "S", "A", []string{"(S A)"}},
		{"S: A | B | a\nA: B | b\nB: b", "S", "B", []string{"(S (A B))", "(S B)"}},
		// With something empty beside it.
		{"S: S A | a\nA:", "S", "a", []string{"(S a)"}},
		{"S: A S | a\nA:", "S", "S", []string{"S"}},
		{"S: A S A | a\nA:", "S", "a", []string{"(S a)"}},
		{"S: S S | a |", "S", "a", []string{"(S a)"}},
		{"S: S S | a |", "S", "a a", []string{"(S (S a) (S a))"}},
		// The empty word: no leaves are the same leaves.
		{"S: S S |\nX: x", "S", "", []string{"(S)"}},
		{"S: A |\nA: S | B\nB: A |\nX: x", "S", "", []string{"(S (A (B)))", "(S)"}},
		{"S: A A\nA: B |\nB:\nX: x", "S", "", []string{"(S (A (B)) (A (B)))", "(S (A (B)) (A))", "(S (A) (A (B)))", "(S (A) (A))"}},
		{"S: A A\nA: S |\nX: x", "S", "", []string{"(S (A) (A))"}},
		{"S: A A\nA: S |\nX: x", "A", "", []string{"(A)"}},
		// Under itself with other leaves, also with none.
		{"S: A S | a\nA: S |", "S", "a", []string{"(S a)"}},
		{"S: A a\nA: S |", "S", "a a", []string{"(S (A (S (A) a)) a)"}},
		{"S: A a A\nA: A A | S |", "S", "a", []string{"(S (A) a (A))"}},
		{"S: S T | a\nT: S |", "S", "a a", []string{"(S (S a) (T (S a)))"}},
		{"S: a S S | a |", "S", "a a", []string{"(S a (S) (S a (S) (S)))", "(S a (S) (S a))", "(S a (S a (S) (S)) (S))", "(S a (S a) (S))"}},
		// Under itself with the same leaves far below, another one between.
		{"S: A | a\nA: B\nB: C | b\nC: A | S | c", "S", "c", []string{"(S (A (B (C c))))"}},
		{"S: A | a\nA: B\nB: C | b\nC: A | S | c", "C", "c", []string{"(C c)"}},
		{"S: A | a\nA: B\nB: C | b\nC: A | S | c", "C", "a", []string{"(C (S a))"}},
		{"S: A | a\nA: B\nB: C | b\nC: A | S | c", "C", "b", []string{"(C (A (B b)))", "(C (S (A (B b))))"}},
		// One beside the other is not under it.
		{"S: A A\nA: a", "S", "a a", []string{"(S (A a) (A a))"}},
		{"S: A A A\nA:\nX: x", "S", "", []string{"(S (A) (A) (A))"}},
	} {
		g := parse(t, r.text)
		holdAll(t, g, syms(t, g, r.root)[0], syms(t, g, r.word), r.want)
	}
}

// holdWrong: ErrArg of Trees, 0 of Count.
func holdWrong(t *testing.T, g api.Grammar, root int, word []int, n int) {
	t.Helper()
	if l, e := derive.Trees(g, root, word, n); len(l) != 0 || e != api.ErrArg {
		t.Error(root, word, n, l, e)
	}
	if got := derive.Count(g, root, word, n); got != 0 {
		t.Error(root, word, n, got)
	}
}

func TestWrong(t *testing.T) { // P9.1: each wrong in one thing
	g := parse(t, "S: S S | a | T\nT: b")
	word := []int{1, 1}
	for _, n := range []int{-1, math.MinInt, most + 1, math.MaxInt} {
		holdWrong(t, g, non, word, n)
	}
	for _, sym := range []int{api.End, -1, 3, non - 1, non + 2, math.MinInt, math.MaxInt} {
		holdWrong(t, g, sym, []int{1}, 9)
		holdWrong(t, g, sym, nil, 0)
		for _, w := range [][]int{{sym}, {sym, 1}, {1, sym}, {non, 1, sym, 1}} {
			holdWrong(t, g, non, w, 9)
			holdWrong(t, g, non, w, 0)
			if derive.Can(g, non, w) {
				t.Error(w)
			}
		}
		if derive.Can(g, sym, []int{1}) || derive.Can(g, sym, nil) {
			t.Error(sym)
		}
	}
	for _, n := range []int{maxWord + 1, maxWord + 2, 100, 100000} {
		for _, sym := range []int{1, non, non + 1} {
			w := slices.Repeat([]int{sym}, n)
			holdWrong(t, g, non, w, 9)
			if derive.Can(g, non, w) {
				t.Error(n)
			}
		}
	}
	refused := []api.Grammar{
		{}, {Terms: []string{"a"}, Nons: []string{"S"}}, {Nons: []string{"S"}, Prods: []api.Prod{{Left: non}}},
		{Terms: []string{"a"}, Nons: []string{"S"}, Prods: []api.Prod{{Left: non, Right: []int{1}}, {Left: non, Right: []int{1}}}},
		{Terms: []string{"a"}, Nons: []string{"S"}, Prods: []api.Prod{{Left: non, Right: []int{1}}, {Left: non, Right: []int{2}}}},
		{Terms: []string{"a"}, Nons: []string{"S", "T"}, Prods: []api.Prod{{Left: non, Right: []int{1}}}},
		{Terms: []string{"a"}, Nons: []string{"S"}, Prods: []api.Prod{{Left: non, Right: []int{1}}, {Left: 1}}},
		{Terms: []string{"a"}, Nons: []string{"S"}, Prods: []api.Prod{{Left: non, Right: []int{1}}, {Left: non, Right: slices.Repeat([]int{1}, 7)}}},
		{Terms: []string{"A"}, Nons: []string{"S"}, Prods: []api.Prod{{Left: non, Right: []int{1}}}},
	}
	for _, g := range refused {
		for _, w := range [][]int{nil, {1}, {non}} {
			for _, root := range []int{1, non} {
				holdWrong(t, g, root, w, 9)
				if derive.Can(g, root, w) {
					t.Error(g, root, w)
				}
			}
		}
	}
}

func TestEdges(t *testing.T) { // P9.1: the last that may be
	g := parse(t, "S: S S | a | T\nT: b")
	a12, b12, s12 := slices.Repeat([]int{1}, maxWord), slices.Repeat([]int{2}, maxWord), slices.Repeat([]int{non}, maxWord)
	for _, w := range [][]int{a12, b12, s12} {
		if l, e := derive.Trees(g, non, w, most); len(l) != most || e != api.OK || derive.Count(g, non, w, most) != most || !derive.Can(g, non, w) {
			t.Error(w, len(l), e)
		}
		if l, e := derive.Trees(g, non, w, 0); len(l) != 0 || e != api.OK || derive.Count(g, non, w, 0) != 0 {
			t.Error(w, l, e)
		}
	}
	// As many symbols of each kind as may be.
	full := parse(t, "A: B C D E F\nB: a b c d e f\nC: g h |\nD: C\nE: D\nF: E G\nG: H H\nH:")
	holdAll(t, full, non, []int{1, 2, 3, 4, 5, 6, 7, 8}, []string{
		"(A (B a b c d e f) (C) (D (C)) (E (D (C))) (F (E (D (C g h))) (G (H) (H))))",
		"(A (B a b c d e f) (C) (D (C)) (E (D (C g h))) (F (E (D (C))) (G (H) (H))))",
		"(A (B a b c d e f) (C) (D (C g h)) (E (D (C))) (F (E (D (C))) (G (H) (H))))",
		"(A (B a b c d e f) (C g h) (D (C)) (E (D (C))) (F (E (D (C))) (G (H) (H))))",
	})
	holdAll(t, full, non+7, []int{non + 7}, []string{"H"})
	holdAll(t, full, non+6, []int{non + 7}, []string{"(G (H) H)", "(G H (H))"})
	holdAll(t, full, 8, []int{8}, []string{"h"})
	// Words as long as may be.
	wide := parse(t, "S: T T a a\nT: b b b U\nU: b b |")
	b10 := slices.Repeat([]int{2}, 10)
	holdAll(t, wide, non, append(slices.Clone(b10), 1, 1), []string{"(S (T b b b (U b b)) (T b b b (U b b)) a a)"})
	holdAll(t, wide, non, append(slices.Clone(b10), 2, 1), nil)
	line := parse(t, "S: a S | b")
	holdAll(t, line, non, append(slices.Repeat([]int{1}, 11), 2), []string{strings.Repeat("(S a ", 11) + "(S b" + strings.Repeat(")", 12)})
	// Productions need not stand by their Left: it is their place that tells which is ahead.
	apart := api.Grammar{Terms: []string{"a"}, Nons: []string{"S", "T"}, Prods: []api.Prod{
		{Left: non + 1, Right: []int{1}}, {Left: non, Right: []int{1}}, {Left: non + 1, Right: []int{non + 1, non + 1}}, {Left: non, Right: []int{non + 1}}, {Left: non + 1},
	}}
	holdAll(t, apart, non, []int{1}, []string{"(S a)", "(S (T a))"})
	holdAll(t, apart, non+1, nil, []string{"(T)"})
}

func TestCounts(t *testing.T) { // P9.1: where it is known how many there are
	pairs := []int{1, 1, 2, 5, 14, 42, 132, 429, 1430, 4862, 16796, 58786}
	for _, text := range []string{"S: S S | a", "S: S S | a |", "S: T T | a\nT: S"} {
		g := parse(t, text)
		for i, all := range pairs {
			for _, n := range []int{0, 1, 2, 5, 14, 41, 42, 43, most - 1, most} {
				if got := derive.Count(g, non, slices.Repeat([]int{1}, i+1), n); got != min(all, n) {
					t.Error(text, i+1, n, got)
				}
			}
		}
	}
	g := parse(t, "S: A S |\nA: B | C\nB: a\nC: a")
	for i := range maxWord + 1 {
		if got := derive.Count(g, non, slices.Repeat([]int{1}, i), most); got != min(1<<i, most) {
			t.Error(i, got)
		}
	}
}

// part is a symbol, and which leaves of the word it has.
type part struct{ sym, from, to int }

// parts tells all that stands in x, from the left, its own first; x begins at from.
func parts(x api.Tree, from int) []part {
	own := part{x.Sym, from, from}
	if x.Prod == -1 {
		own.to++
	}
	l := []part{own}
	for _, kid := range x.Kids {
		below := parts(kid, l[0].to)
		l[0].to = below[0].to
		l = append(l, below...)
	}
	return l
}

// plain holds x, and each tree that stands in it, against all that stands below.
func plain(x api.Tree, from int) bool {
	l := parts(x, from)
	if slices.Contains(l[1:], l[0]) {
		return false
	}
	for _, kid := range x.Kids {
		if !plain(kid, from) {
			return false
		}
		from = parts(kid, from)[0].to
	}
	return true
}

// order is that of the chapter, word by word.
func order(x, y api.Tree) int {
	if c := cmp.Compare(min(x.Prod, 0), min(y.Prod, 0)); c != 0 {
		return c
	}
	if c := cmp.Compare(x.Prod, y.Prod); c != 0 {
		return c
	}
	for i := range x.Kids {
		if c := cmp.Compare(len(tree.Leaves(x.Kids[i])), len(tree.Leaves(y.Kids[i]))); c != 0 {
			return c
		}
		if c := order(x.Kids[i], y.Kids[i]); c != 0 {
			return c
		}
	}
	return 0
}

// grown has all plain trees of each part of a word, by growing: first the leaves; then, as long as there are new ones, what productions make of those there are. What stands in a plain tree is plain; so each has its turn.
type grown struct {
	g    api.Grammar
	word []int
	all  map[part][]api.Tree
	seen map[part]map[string]int
	size int
}

const tooMany = 1500

// grow answers nil where there are too many.
func grow(g api.Grammar, word []int) *grown {
	w := &grown{g: g, word: word, all: map[part][]api.Tree{}, seen: map[part]map[string]int{}}
	for i, sym := range word {
		w.add(part{sym, i, i + 1}, api.Tree{Sym: sym, Prod: -1})
	}
	for was := -1; was < w.size; {
		was = w.size
		for prod, p := range g.Prods {
			for from := 0; from <= len(word); from++ {
				w.rows(prod, p, from, from, nil)
				if w.size > tooMany {
					return nil
				}
			}
		}
	}
	return w
}

func (w *grown) add(k part, x api.Tree) {
	if w.seen[k] == nil {
		w.seen[k] = map[string]int{}
	}
	text := tree.Print(w.g, x)
	if w.seen[k][text]++; w.seen[k][text] > 1 || !plain(x, k.from) {
		return
	}
	w.all[k] = append(w.all[k], x)
	w.size++
}

func (w *grown) rows(prod int, p api.Prod, from, at int, kids []api.Tree) {
	if w.size > tooMany {
		return
	}
	if len(kids) == len(p.Right) {
		w.add(part{p.Left, from, at}, api.Tree{Sym: p.Left, Prod: prod, Kids: kids})
		return
	}
	for to := at; to <= len(w.word); to++ {
		for _, kid := range w.all[part{p.Right[len(kids)], at, to}] {
			w.rows(prod, p, from, to, append(slices.Clone(kids), kid))
		}
	}
}

// want tells all plain trees of root with just the word as leaves, in their order.
func (w *grown) want(root int) []string {
	l := slices.Clone(w.all[part{root, 0, len(w.word)}])
	slices.SortFunc(l, order)
	return prints(w.g, l)
}

// holdGrown holds the package's answers, of each root, against all plain trees, and tells whether these were few enough.
func holdGrown(t *testing.T, g api.Grammar, word []int) bool {
	t.Helper()
	if gram.Check(g) != api.OK {
		t.Fatal(g)
	}
	w := grow(g, word)
	if w == nil {
		return false
	}
	for i := range g.Nons {
		holdAll(t, g, non+i, word, w.want(non+i))
	}
	for i := range g.Terms {
		holdAll(t, g, i+1, word, w.want(i+1))
	}
	return true
}

// words are all rows of these symbols that are at most so long.
func words(l []int, length int) [][]int {
	rows := [][]int{nil}
	for i := 0; i < len(rows); i++ {
		if len(rows[i]) < length {
			for _, sym := range l {
				rows = append(rows, append(slices.Clone(rows[i]), sym))
			}
		}
	}
	return rows
}

func TestAllSmall(t *testing.T) { // P9.1: grammars with a few short productions
	rights := words([]int{1, non, non + 1}, 2)
	var pairs [][]int // of places in rights
	for i := range rights {
		for j := range i + 1 {
			pairs = append(pairs, []int{i, j})
		}
	}
	held, round := 0, 0
	for _, one := range pairs {
		for _, two := range pairs {
			if round++; round%5 != 0 {
				continue
			}
			g := api.Grammar{Terms: []string{"a"}, Nons: []string{"S", "T"}}
			for _, i := range slices.Compact(slices.Clone(one)) {
				g.Prods = append(g.Prods, api.Prod{Left: non, Right: rights[i]})
			}
			for _, i := range slices.Compact(slices.Clone(two)) {
				g.Prods = append(g.Prods, api.Prod{Left: non + 1, Right: rights[i]})
			}
			for _, word := range rights[round%2:] {
				if holdGrown(t, g, word) {
					held++
				}
			}
		}
	}
	if held < 10000 {
		t.Error("few were held", held)
	}
}

// chance is a row of numbers by a fixed rule.
type chance uint64

func (c *chance) below(n int) int {
	*c = *c*6364136223846793005 + 1442695040888963407
	return int(*c >> 33 % chance(n))
}

// grammar has one to four nonterminals, and productions of up to three symbols, in any order.
func (c *chance) grammar() api.Grammar {
	g := api.Grammar{Terms: []string{"a", "b"}[:1+c.below(2)], Nons: []string{"S", "T", "U", "V"}[:1+c.below(4)]}
	add := func(left int) {
		p := api.Prod{Left: left}
		for range c.below(4) {
			p.Right = append(p.Right, c.symbol(g))
		}
		same := func(q api.Prod) bool { return q.Left == left && slices.Equal(p.Right, q.Right) }
		if !slices.ContainsFunc(g.Prods, same) {
			g.Prods = append(g.Prods, p)
		}
	}
	for i := range g.Nons {
		add(non + i)
	}
	for range c.below(8) {
		add(non + c.below(len(g.Nons)))
	}
	return g
}

func (c *chance) symbol(g api.Grammar) int {
	if c.below(5) < 3 {
		return 1 + c.below(len(g.Terms))
	}
	return non + c.below(len(g.Nons))
}

// word mostly comes of a nonterminal: else few words would have a tree.
func (c *chance) word(g api.Grammar) []int {
	w := []int{non + c.below(len(g.Nons))}
	for range c.below(12) {
		i := c.below(len(w) + 1)
		if i == len(w) || w[i] < non {
			continue
		}
		p := g.Prods[c.below(len(g.Prods))]
		if p.Left == w[i] && len(w)+len(p.Right) < 8 {
			w = slices.Replace(w, i, i+1, p.Right...)
		}
		if len(w) == 0 {
			break
		}
	}
	if c.below(8) == 0 {
		w = append(w, c.symbol(g))
	}
	return w
}

func TestMany(t *testing.T) { // P9.1: grammars and words by a fixed rule
	var c chance
	held, sizes := 0, map[int]int{}
	for range 6000 {
		g := c.grammar()
		w := c.word(g)
		if holdGrown(t, g, w) {
			held++
			sizes[derive.Count(g, non, w, most)]++
		}
	}
	if held < 4000 || len(sizes) < 20 {
		t.Error("few were held", held, sizes)
	}
}

// comes tells of which parts any tree has its leaves there, plain or not.
func comes(g api.Grammar, word []int) map[part]int {
	l := map[part]int{}
	for i, sym := range word {
		l[part{sym, i, i + 1}] = 1
	}
	for was := -1; was < len(l); {
		was = len(l)
		for _, p := range g.Prods {
			for from := range len(word) + 1 {
				ends := []int{from}
				for _, sym := range p.Right {
					var next []int
					for _, at := range ends {
						for to := at; to <= len(word); to++ {
							if l[part{sym, at, to}] == 1 && !slices.Contains(next, to) {
								next = append(next, to)
							}
						}
					}
					ends = next
				}
				for _, to := range ends {
					l[part{p.Left, from, to}] = 1
				}
			}
		}
	}
	return l
}

func TestCan(t *testing.T) { // P9.1: where there is any tree, there is a plain one
	var c chance
	can := [2]int{}
	for range 3000 {
		g := c.grammar()
		w := c.word(g)
		l := comes(g, w)
		for i := range g.Nons {
			want := l[part{non + i, 0, len(w)}]
			if can[want]++; derive.Can(g, non+i, w) != (want == 1) || derive.Count(g, non+i, w, 1) != want {
				t.Fatal(g.Prods, non+i, w, want)
			}
		}
	}
	if can[0] < 1000 || can[1] < 1000 {
		t.Error(can)
	}
}

func TestFirstOfMany(t *testing.T) { // P9.1: the first most, where there are far more
	g := parse(t, "S: S S | a | T\nT: S S T | b |")
	for _, w := range [][]int{slices.Repeat([]int{1}, maxWord), slices.Repeat([]int{2}, maxWord), {1, 2, 1, non, 2, non + 1, 1, 1, 2, non, 1, 2}} {
		l, e := derive.Trees(g, non, w, most)
		if e != api.OK || len(l) != most {
			t.Fatal(len(l), e)
		}
		for i, x := range l {
			if !tree.Check(g, x, non) || !slices.Equal(tree.Leaves(x), w) || !plain(x, 0) || i > 0 && order(l[i-1], x) >= 0 {
				t.Fatal(tree.Print(g, x))
			}
		}
	}
	// Of eight there are 429: all of them are few enough to be grown.
	two := parse(t, "S: S S | a")
	w := slices.Repeat([]int{1}, 8)
	all := grow(two, w).want(non)
	if len(all) != 429 {
		t.Fatal(len(all))
	}
	holdAll(t, two, non, w, all)
}

// TestHard: R1: it ends, and soon, where each nonterminal can be empty and can stand in each other one.
func TestHard(t *testing.T) {
	for _, last := range []string{"a b", "a", "S S a"} {
		g := parse(t, strings.Join([]string{
			"S: A B C D E F | B C D E F G |", "A: B C D E F G | S C D E F G |", "B: C D E F G S | A C D E F G |", "C: D E F G S A | A B D E F G |",
			"D: E F G S A B | A B C E F G |", "E: F G S A B C | A B C D F G |", "F: G S A B C D | A B C D E G |", "G: S A B C D E | A B C D E F | " + last,
		}, "\n"))
		for _, sym := range []int{1, len(g.Terms), non, non + 7} {
			w := slices.Repeat([]int{sym}, maxWord)
			l, e := derive.Trees(g, non, w, 5)
			if e != api.OK || len(l) != derive.Count(g, non, w, 5) || (len(l) > 0) != derive.Can(g, non, w) {
				t.Error(last, sym, len(l), e)
			}
			for i, x := range l {
				if !tree.Check(g, x, non) || !slices.Equal(tree.Leaves(x), w) || i > 0 && tree.Same(x, l[i-1]) {
					t.Error(last, sym, i)
				}
			}
		}
	}
}

// TestMemory: R4: what is handed in is neither changed nor kept, and what lies behind its length is neither read nor written.
func TestMemory(t *testing.T) {
	const text = "S: S T | a | T | S S\nT: b | S |"
	g := parse(t, text)
	for i := range g.Prods {
		l := g.Prods[i].Right
		g.Prods[i].Right = append(slices.Clone(l), 2, 1)[:len(l)]
	}
	g.Prods = append(g.Prods, api.Prod{Left: non, Right: []int{1, 1}})[:len(g.Prods)]
	g.Terms, g.Nons = append(g.Terms, "c")[:2], append(g.Nons, "U")[:2]
	word := append([]int{1, 2}, 1, 77)[:2]
	want := grow(parse(t, text), []int{1, 2}).want(non)
	holdAll(t, g, non, word, want)
	if len(want) < 2 || !gram.Same(g, parse(t, text)) || !slices.Equal(word[:4], []int{1, 2, 1, 77}) {
		t.Error("changed", word[:4])
	}
	for _, p := range g.Prods {
		if !slices.Equal(p.Right[len(p.Right):][:2], []int{2, 1}) {
			t.Error("changed", p)
		}
	}
	holdWrong(t, g, non, []int{3}, 9)
	holdWrong(t, g, non, []int{non + 2}, 9)
	l, _ := derive.Trees(g, non, word, most)
	g.Prods[0].Right[0], word[0] = 2, 2
	if got := prints(parse(t, text), l); !slices.Equal(got, want) {
		t.Error("kept", got)
	}
}

// TestNewMemory: R4: each list handed out is new memory, lists within it as well; R5: the same is answered each time.
func TestNewMemory(t *testing.T) {
	g := parse(t, "S: S S | a | T\nT: S | T T | U\nU:")
	w := []int{1, 1, 1}
	first, _ := derive.Trees(g, non, w, most)
	want := prints(g, first)
	var spoil func(x *api.Tree)
	spoil = func(x *api.Tree) {
		_ = append(x.Kids, api.Tree{Sym: 77}, api.Tree{Sym: 77}) // what lies behind one list is no other one's
		for i := range x.Kids {
			spoil(&x.Kids[i])
		}
	}
	_ = append(first, api.Tree{Sym: 77})
	for i := range first {
		spoil(&first[i])
	}
	if got := prints(g, first); !slices.Equal(got, want) || len(want) < 8 {
		t.Error("lists share memory", got)
	}
	var change func(x *api.Tree)
	change = func(x *api.Tree) {
		x.Sym, x.Prod = 77, 77
		for i := range x.Kids {
			change(&x.Kids[i])
		}
	}
	for i := range first {
		change(&first[i])
		if got := prints(g, first[i+1:]); !slices.Equal(got, want[i+1:]) {
			t.Fatal("trees share memory", i)
		}
	}
	for range 3 {
		derive.Trees(g, non, w, -1)
		if again, e := derive.Trees(g, non, w, most); e != api.OK || !slices.Equal(prints(g, again), want) {
			t.Error(e)
		}
	}
	// nil and the empty list are the same.
	one, e1 := derive.Trees(g, non, nil, most)
	two, e2 := derive.Trees(g, non, []int{}, most)
	if !reflect.DeepEqual(one, two) || e1 != e2 || len(one) == 0 || derive.Count(g, non, nil, most) != derive.Count(g, non, []int{}, most) {
		t.Error(one, two)
	}
}
