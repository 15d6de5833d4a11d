package tree_test

import (
	"math"
	"reflect"
	"slices"
	"strconv"
	"strings"
	"testing"

	"exegete/api"
	"exegete/gram"
	"exegete/tree"
)

const non = api.Non

func parse(t *testing.T, text string) api.Grammar {
	t.Helper()
	g, line, col, e := gram.Parse(text)
	if e != api.OK {
		t.Fatalf("%q: error %d at %d, %d", text, e, line, col)
	}
	return g
}

func leaf(sym int) api.Tree {
	return api.Tree{Sym: sym, Prod: -1}
}

func node(sym, prod int, kids ...api.Tree) api.Tree {
	return api.Tree{Sym: sym, Prod: prod, Kids: kids}
}

// The productions of small: 0 to 2 are S's, 3 and 4 are T's.
const small = "S: a S T | b |\nT: S c | S"

const (
	a = 1
	b = 2
	c = 3
	s = non
	u = non + 1 // T
)

// ab is a derivation with something of all: (S a (S b) (T (S) c)).
func ab() api.Tree {
	return node(s, 0, leaf(a), node(s, 1, leaf(b)), node(u, 3, node(s, 2), leaf(c)))
}

func TestCheck(t *testing.T) { // P8.1
	g := parse(t, small)
	for i, x := range []api.Tree{
		ab(),
		leaf(a), leaf(c), leaf(s), leaf(u),
		{Sym: a, Prod: -1, Kids: []api.Tree{}},
		node(s, 2), {Sym: s, Prod: 2, Kids: []api.Tree{}},
		node(s, 1, leaf(b)),
		node(s, 0, leaf(a), leaf(s), leaf(u)),
		node(u, 4, node(s, 0, leaf(a), node(s, 2), node(u, 4, leaf(s)))),
		node(u, 4, leaf(s)), node(u, 3, leaf(s), leaf(c)),
	} {
		if !tree.Check(g, x, x.Sym) {
			t.Error(i, x)
		}
		for root := -1; root < non+4; root++ { // its Sym is root
			if tree.Check(g, x, root) != (root == x.Sym) {
				t.Error(i, x, root)
			}
		}
	}
}

func TestCheckWrong(t *testing.T) { // P8.1: each wrong in one thing
	g := parse(t, small)
	for i, x := range []api.Tree{
		// Leaves that have Kids, or are no symbol that there is.
		{Sym: a, Prod: -1, Kids: []api.Tree{leaf(a)}},
		{Sym: s, Prod: -1, Kids: []api.Tree{leaf(b)}},
		{Sym: s, Prod: -1, Kids: []api.Tree{leaf(a), leaf(s), leaf(u)}},
		leaf(api.End), leaf(-1), leaf(4), leaf(5), leaf(non - 1), leaf(non + 2), leaf(math.MaxInt), leaf(math.MinInt),
		{}, // the zero tree
		// No production.
		node(s, 5), node(s, -2), node(s, math.MaxInt), node(s, math.MinInt), node(a, -2), node(u, 5, leaf(s)),
		// Another one's.
		node(u, 2), node(s, 4, leaf(s)), node(u, 1, leaf(b)), node(a, 1, leaf(b)), node(api.End, 2), node(a, 2), node(non+2, 2),
		// Kids that are not the Right's: too few, too many, others, in another order.
		node(s, 0), node(s, 0, leaf(a)), node(s, 0, leaf(a), leaf(s)), node(s, 0, leaf(a), leaf(s), leaf(u), leaf(u)),
		node(s, 1), node(s, 1, leaf(b), leaf(b)), node(s, 2, leaf(b)), node(s, 1, leaf(a)), node(s, 1, leaf(s)),
		node(s, 0, leaf(s), leaf(a), leaf(u)), node(s, 0, leaf(a), leaf(u), leaf(s)), node(s, 0, leaf(a), leaf(s), leaf(s)),
		node(s, 0, leaf(a), leaf(s), node(s, 2)), node(s, 1, leaf(api.End)),
		// Kids that are themselves wrong, the first or the last of them, or far down.
		node(u, 4, node(s, 1)), node(u, 3, node(s, 1), leaf(c)), node(u, 3, leaf(s), node(c, -1, leaf(a))),
		node(u, 4, node(s, 5)), node(u, 3, node(s, 2), node(c, 2)),
		node(s, 0, leaf(a), node(s, 2), node(u, 4, node(s, 0, leaf(a), node(s, 2), node(u, 4)))),
	} {
		if tree.Check(g, x, x.Sym) {
			t.Error(i, x)
		}
	}
	if tree.Check(g, ab(), u) || tree.Check(api.Grammar{}, ab(), s) || tree.Check(api.Grammar{}, leaf(1), 1) || tree.Check(api.Grammar{}, leaf(s), s) || tree.Check(api.Grammar{}, api.Tree{}, 0) {
		t.Error("wrong root, or a zero grammar")
	}
}

func TestLeaves(t *testing.T) { // P8.1
	for i, r := range []struct {
		x    api.Tree
		want []int
	}{
		{ab(), []int{a, b, c}},
		{leaf(a), []int{a}},
		{leaf(s), []int{s}},
		{node(s, 2), nil},
		{node(s, 2, node(s, 2), node(s, 2, node(u, 2))), nil},
		{node(s, 0, leaf(u), node(s, 2), leaf(a), node(s, 9, node(s, 9, leaf(s), leaf(a)), leaf(b)), leaf(a)), []int{u, a, s, a, b, a}},
		// Prod -1 alone makes a leaf, whatever its Sym and its Kids are.
		{leaf(api.End), []int{0}}, {leaf(-7), []int{-7}},
		{node(a, -1, leaf(b)), []int{a}}, {node(s, -1, node(s, 2)), []int{s}},
		{node(s, 0, node(a, -1, leaf(b), node(s, 1, leaf(c))), leaf(u)), []int{a, u}},
		// All others are none, also those that are no production.
		{api.Tree{}, nil}, {node(a, 0), nil}, {node(a, -2), nil}, {node(a, -2, leaf(b)), []int{b}}, {node(a, math.MinInt, leaf(b), leaf(c)), []int{b, c}},
	} {
		if got := tree.Leaves(r.x); !slices.Equal(got, r.want) {
			t.Error(i, r.x, got)
		}
	}
}

func TestSame(t *testing.T) { // P8.1: any other Sym, Prod, Kids, far up or far down, is unlike
	l := []api.Tree{
		{}, leaf(a), leaf(b), leaf(s), node(a, 0), node(s, 2), node(s, 3), node(s, -1, leaf(a)), node(s, -1, leaf(b)), node(s, -2),
		node(s, 2, leaf(a)), node(s, 2, leaf(b)), node(s, 2, leaf(a), leaf(b)), node(s, 2, leaf(b), leaf(a)), node(s, 2, leaf(a), leaf(a)), node(s, 2, node(s, 2, leaf(a))),
		node(s, 2, node(s, 2), leaf(a)), node(s, 2, leaf(a), node(s, 2)), node(s, 2, api.Tree{}),
		ab(),
		node(u, 0, leaf(a), node(s, 1, leaf(b)), node(u, 3, node(s, 2), leaf(c))),
		node(s, 0, leaf(a), node(s, 1, leaf(b)), node(u, 3, node(s, 1), leaf(c))),
		node(s, 0, leaf(a), node(s, 1, leaf(b)), node(u, 3, node(s, 2), leaf(s))),
		node(s, 0, leaf(a), node(s, 1, leaf(b)), node(u, 3, node(s, 2))),
		node(s, 0, leaf(a), node(s, 1, leaf(b)), node(u, 3, node(s, 2), leaf(c)), leaf(c)),
		node(s, 0, leaf(a), node(s, 1), node(u, 3, node(s, 2), leaf(c))),
	}
	for i, x := range l {
		for j, y := range l {
			if tree.Same(x, copyOf(y)) != (i == j) {
				t.Error(x, y)
			}
		}
	}
	// R4: nil and the empty list are the same.
	if !tree.Same(node(s, 2), api.Tree{Sym: s, Prod: 2, Kids: []api.Tree{}}) || !tree.Same(node(s, 0, api.Tree{Kids: []api.Tree{}}), node(s, 0, api.Tree{})) {
		t.Error("nil")
	}
}

// copyOf shares no memory with x.
func copyOf(x api.Tree) api.Tree {
	x.Kids = slices.Clone(x.Kids)
	for i := range x.Kids {
		x.Kids[i] = copyOf(x.Kids[i])
	}
	return x
}

func TestSize(t *testing.T) { // P8.1
	for i, r := range []struct {
		x    api.Tree
		want int
	}{
		{api.Tree{}, 1}, {leaf(a), 1}, {node(s, 2), 1}, {node(s, 1, leaf(b)), 2}, {ab(), 7},
		{node(s, 0, leaf(a), leaf(s), leaf(u)), 4}, {node(s, 2, node(s, 2, node(s, 2, node(s, 2)))), 4},
		{node(s, -1, leaf(a), node(s, 1, leaf(b))), 4}, {node(9, -9, leaf(-9)), 2},
	} {
		if got := tree.Size(r.x); got != r.want {
			t.Error(i, r.x, got)
		}
	}
}

func TestPrint(t *testing.T) { // P8.2
	for _, r := range []struct {
		text string
		x    api.Tree
		want string
	}{
		{"S: a S | b", node(s, 0, leaf(1), node(s, 1, leaf(2))), "(S a (S b))"},
		{small, ab(), "(S a (S b) (T (S) c))"},
		{small, leaf(a), "a"}, {small, leaf(c), "c"}, {small, leaf(s), "S"}, {small, leaf(u), "T"},
		{small, node(s, 2), "(S)"}, {small, node(s, 1, leaf(b)), "(S b)"}, {small, node(u, 4, leaf(s)), "(T S)"}, {small, node(u, 4, node(s, 2)), "(T (S))"},
		{small, node(s, 0, leaf(a), leaf(s), leaf(u)), "(S a S T)"},
		{"Sum: Sum plus Number | Number\nNumber: digit | Number digit", node(non, 0, node(non, 1, leaf(non+1)), leaf(1), node(non+1, 2, leaf(2))), "(Sum (Sum Number) plus (Number digit))"},
	} {
		g := parse(t, r.text)
		if got := tree.Print(g, r.x); got != r.want {
			t.Errorf("%q", got)
		}
		if got, e := tree.Parse(g, r.want); !reflect.DeepEqual(copyOf(got), copyOf(r.x)) || e != api.OK {
			t.Error(r.want, got, e)
		}
	}
	g := parse(t, small)
	for _, x := range []api.Tree{
		{}, leaf(api.End), leaf(4), leaf(non + 2), leaf(-1), node(s, 1), node(s, 2, leaf(b)), node(u, 2), node(s, 5), node(a, -1, leaf(a)),
		node(u, 3, node(s, 1, leaf(a)), leaf(c)), node(u, 3, node(s, 2), leaf(api.End)),
	} {
		if got := tree.Print(g, x); got != "" {
			t.Errorf("%v %q", x, got)
		}
	}
	if got := tree.Print(api.Grammar{}, ab()) + tree.Print(api.Grammar{}, api.Tree{}); got != "" {
		t.Error(got)
	}
}

func TestParseWrong(t *testing.T) { // P8.2: what no tree's Print is
	g := parse(t, small)
	for _, text := range []string{
		"", " ", "(", ")", "()", "( )", "$", "($)", "(S $)", "x", "X", "(X)", "(X a)", "\x00", "A", "t",
		" a", "a ", "a b", "a a", "S S", "aa", "SS", "a\n", "\na", "(S)\n", "(S) ", " (S)", "(S)(S)", "(S) (S)", "(S))", "((S)", "((S))", "(S", "S)", "a)", "(S b", "(S b))", "(S b) b",
		"(S b )", "( S b)", "(S  b)", "(S\tb)", "(S b(S))", "(S b,)", "(Sb)", "(Sb )", "(S a(S b) (T S))", "(S a (S b)(T S))", "(S a (S b)(T S) )", "[S b]",
		"(S a)", "(S a b)", "(S a S)", "(S a T S)", "(S a S T T)", "(S a S T b)", "(S b b)", "(S S)", "(S T)", "(T)", "(T b)", "(T a)", "(T c)", "(T c S)", "(T S c c)", "(T T)", "(T S S)",
		"(a)", "(b)", "(a b)", "(b b)", "(T (a))", "(T (S) (c))", "(T (S a))", "(T (T S))", "(S a (S b) (T (S) a))", "(S a (S a) (T (S) c))", "(S a (T S) (T S))", "(S a S S)",
		"(S 2)", "2", "100", "(100 2)", "(S é)", "é", "(s b)", "(S B)", "(S b\x00)", "(S b|)", "S: b", "(S: b)",
	} {
		if got, e := tree.Parse(g, text); !reflect.DeepEqual(got, api.Tree{}) || e != api.ErrForm {
			t.Errorf("%q %v %d", text, got, e)
		}
		if got, e := tree.Parse(api.Grammar{}, text); !reflect.DeepEqual(got, api.Tree{}) || e != api.ErrForm {
			t.Errorf("%q %v %d", text, got, e)
		}
	}
	if got, e := tree.Parse(api.Grammar{}, "(S b)"); !reflect.DeepEqual(got, api.Tree{}) || e != api.ErrForm {
		t.Error(got, e)
	}
}

// line is a derivation of `S: a S | b` of that many symbols, which are two or more and even.
func line(symbols int) api.Tree {
	x := node(s, 1, leaf(2))
	for range symbols/2 - 1 {
		x = node(s, 0, leaf(1), x)
	}
	return x
}

func TestParseMost(t *testing.T) { // P8.2: at most 400 symbols
	chain := parse(t, "S: a S | b")
	six := parse(t, "S: S S S S S S | a | S")
	wide := func(symbols int) string { // each S has six
		text := "S"
		n := 1
		for n+6 <= symbols {
			text = strings.Replace(text, "S", "(s S S S S S S)", 1)
			n += 6
		}
		for ; n < symbols; n++ {
			text = strings.Replace(text, "S", "(s S)", 1)
		}
		return strings.ReplaceAll(text, "s", "S")
	}
	for n := 2; n <= 1000; n += 2 {
		x := line(n)
		if tree.Size(x) != n {
			t.Fatal(n)
		}
		text := strings.Repeat("(S a ", n/2-1) + "(S b" + strings.Repeat(")", n/2)
		if got := tree.Print(chain, x); got != text { // what Parse may not read is told all the same
			t.Fatal(n, got)
		}
		holdMost(t, chain, text, n)
		holdMost(t, six, strings.Repeat("(S ", n-1)+"S"+strings.Repeat(")", n-1), n)
		holdMost(t, six, strings.Repeat("(S ", n)+"S"+strings.Repeat(")", n), n+1)
		holdMost(t, six, wide(n), n)
		holdMost(t, six, wide(n+1), n+1)
	}
}

func holdMost(t *testing.T, g api.Grammar, text string, symbols int) {
	t.Helper()
	x, e := tree.Parse(g, text)
	if symbols > 400 {
		if !reflect.DeepEqual(x, api.Tree{}) || e != api.ErrForm {
			t.Error(symbols, e)
		}
	} else if e != api.OK || tree.Size(x) != symbols || tree.Print(g, x) != text {
		t.Error(symbols, tree.Size(x), e)
	}
}

func TestLong(t *testing.T) { // R1: long texts, deep trees
	const many = 5000000
	g := parse(t, small)
	for _, text := range []string{
		strings.Repeat("(", many), strings.Repeat("(T ", many), strings.Repeat("(T ", many) + "S" + strings.Repeat(")", many), strings.Repeat(")", many),
		strings.Repeat("S", many), "(" + strings.Repeat("S", many) + ")", "(S" + strings.Repeat(" a", many) + ")", strings.Repeat(" ", many),
	} {
		if _, e := tree.Parse(g, text); e != api.ErrForm {
			t.Error(text[:9], e)
		}
	}
	const deep = 1 << 16
	chain := parse(t, "S: a S | b")
	x := line(2 * deep)
	if !tree.Check(chain, x, s) || tree.Check(g, x, s) || tree.Size(x) != 2*deep || !tree.Same(x, line(2*deep)) || tree.Same(x, line(2*deep-2)) {
		t.Error("a deep tree")
	}
	if l := tree.Leaves(x); len(l) != deep || l[deep-1] != 2 || l[deep-2] != 1 {
		t.Error("its leaves")
	}
	if !tree.At(x, 1, 1, deep) || !tree.At(x, 1, 0, deep-1) || tree.At(x, 0, 0, deep-1) || len(tree.Print(chain, x)) != 6*deep-1 {
		t.Error("its end")
	}
}

func TestAt(t *testing.T) { // P8.3
	for i, r := range []struct {
		x    api.Tree
		want [][3]int // all of prod, dot, place
	}{
		{ab(), [][3]int{{0, 0, 0}, {0, 1, 1}, {0, 2, 2}, {0, 3, 3}, {1, 0, 1}, {1, 1, 2}, {2, 0, 2}, {3, 0, 2}, {3, 1, 2}, {3, 2, 3}}},
		{leaf(a), nil}, {leaf(s), nil},
		{node(s, 2), [][3]int{{2, 0, 0}}},
		{node(u, 4, node(s, 2)), [][3]int{{2, 0, 0}, {4, 0, 0}, {4, 1, 0}}},
		// More than one, and one under itself.
		{node(s, 0, leaf(a), node(s, 0, leaf(a), leaf(s), leaf(u)), leaf(u)), [][3]int{{0, 0, 0}, {0, 0, 1}, {0, 1, 1}, {0, 1, 2}, {0, 2, 3}, {0, 2, 4}, {0, 3, 4}, {0, 3, 5}}},
		{node(u, 4, node(s, 0, leaf(a), node(s, 2), node(u, 4, leaf(s)))), [][3]int{{0, 0, 0}, {0, 1, 1}, {0, 2, 1}, {0, 3, 2}, {2, 0, 1}, {4, 0, 0}, {4, 0, 1}, {4, 1, 2}}},
		// By the tree alone: how many Kids there are is what it has, and a leaf is one, whatever its Kids.
		{node(s, 3, leaf(a)), [][3]int{{3, 0, 0}, {3, 1, 1}}},
		{api.Tree{}, [][3]int{{0, 0, 0}}},
		{node(s, 1, node(a, -1, leaf(b), node(s, 2))), [][3]int{{1, 0, 0}, {1, 1, 1}}},
		{node(s, -2, node(s, 2, leaf(a))), [][3]int{{2, 0, 0}, {2, 1, 1}}},
	} {
		for prod := -4; prod < 8; prod++ {
			for dot := -3; dot < 8; dot++ {
				for place := -3; place < 8; place++ {
					if tree.At(r.x, prod, dot, place) != slices.Contains(r.want, [3]int{prod, dot, place}) {
						t.Error(i, prod, dot, place)
					}
				}
			}
		}
		for _, n := range []int{math.MinInt, math.MaxInt, non, 1 << 40} {
			if tree.At(r.x, n, 0, 0) || tree.At(r.x, 2, n, 0) || tree.At(r.x, 2, 0, n) || tree.At(r.x, n, n, n) {
				t.Error(i, n)
			}
		}
	}
}

// chance is a row of numbers by a fixed rule.
type chance uint64

func (c *chance) below(n int) int {
	*c = *c*6364136223846793005 + 1442695040888963407
	return int(*c >> 33 % chance(n))
}

// tree is a derivation of root. It grows no more when there are symbols enough.
func (c *chance) tree(g api.Grammar, root int, symbols *int) api.Tree {
	*symbols--
	if root < non || *symbols < 0 || c.below(12) == 0 {
		return leaf(root)
	}
	var l []int
	for i, p := range g.Prods {
		if p.Left == root {
			l = append(l, i)
		}
	}
	x := node(root, l[c.below(len(l))])
	for _, sym := range g.Prods[x.Prod].Right {
		x.Kids = append(x.Kids, c.tree(g, sym, symbols))
	}
	return x
}

func grammars(t *testing.T) []api.Grammar {
	return []api.Grammar{
		parse(t, small), parse(t, "S: S S | a |"), parse(t, "S: a S | b"), parse(t, "S: S a T | T b\nT: U U U | U\nU: | c | S\nV: T V"),
		parse(t, "Sum: Sum plus Prod | Prod\nProd: Prod times Atom | Atom\nAtom: open Sum close | number"),
	}
}

// places tells of each production, dot and place whether it is in x: by the ways down to each symbol.
func places(x api.Tree) map[[3]int]bool {
	l := map[[3]int]bool{}
	var walk func(y api.Tree, ahead int)
	walk = func(y api.Tree, ahead int) {
		for dot := 0; y.Prod >= 0 && dot <= len(y.Kids); dot++ {
			n := ahead
			for _, kid := range y.Kids[:dot] {
				n += count(kid)
			}
			l[[3]int{y.Prod, dot, n}] = true
			if dot < len(y.Kids) {
				walk(y.Kids[dot], n)
			}
		}
	}
	walk(x, 0)
	return l
}

// count is how many leaves a derivation has.
func count(x api.Tree) int {
	if x.Prod == -1 {
		return 1
	}
	n := 0
	for _, kid := range x.Kids {
		n += count(kid)
	}
	return n
}

func TestTrees(t *testing.T) { // P8.1, P8.2, P8.3: derivations by a fixed rule
	var c chance
	sizes := map[int]int{}
	for round := range 3000 {
		g := grammars(t)[round%5]
		symbols := 1 + c.below(40)
		x := c.tree(g, non+c.below(len(g.Nons)), &symbols)
		sizes[tree.Size(x)]++
		if !tree.Check(g, x, x.Sym) || !tree.Same(x, copyOf(x)) || len(tree.Leaves(x)) != count(x) {
			t.Fatal(x)
		}
		text := tree.Print(g, x)
		if y, e := tree.Parse(g, text); e != api.OK || !reflect.DeepEqual(copyOf(y), copyOf(x)) {
			t.Fatal(text, y, e)
		}
		if fields := strings.FieldsFunc(text, func(r rune) bool { return strings.ContainsRune("() ", r) }); len(fields) != tree.Size(x) {
			t.Fatal(text, tree.Size(x))
		}
		l := places(x)
		for prod := range g.Prods {
			for dot := range 5 {
				for place := range 12 {
					if tree.At(x, prod, dot, place) != l[[3]int{prod, dot, place}] {
						t.Fatal(text, prod, dot, place)
					}
				}
			}
		}
	}
	if len(sizes) < 40 {
		t.Error("the trees are too much alike", sizes)
	}
}

// derivations are all those of at most so many symbols, of root, by their key.
func derivations(g api.Grammar, root, symbols int) map[string]api.Tree {
	l := map[string]api.Tree{}
	if symbols < 1 {
		return l
	}
	l[key(leaf(root))] = leaf(root)
	for i, p := range g.Prods {
		if p.Left != root {
			continue
		}
		rows := [][]api.Tree{nil}
		for _, sym := range p.Right {
			var longer [][]api.Tree
			for _, row := range rows {
				for _, kid := range derivations(g, sym, symbols-1) {
					longer = append(longer, append(slices.Clone(row), kid))
				}
			}
			rows = longer
		}
		for _, row := range rows {
			if x := node(root, i, row...); tree.Size(x) <= symbols {
				l[key(x)] = x
			}
		}
	}
	return l
}

// key is one string a tree.
func key(x api.Tree) string {
	k := strconv.Itoa(x.Sym) + "/" + strconv.Itoa(x.Prod) + "["
	for _, kid := range x.Kids {
		k += key(kid) + ","
	}
	return k + "]"
}

// every calls f of every tree of just that many symbols, with these Syms and Prods.
func every(syms, prods []int, symbols int, f func(x api.Tree)) {
	for _, sym := range syms {
		for _, prod := range prods {
			everyRow(syms, prods, symbols-1, nil, func(kids []api.Tree) { f(node(sym, prod, kids...)) })
		}
	}
}

func everyRow(syms, prods []int, symbols int, ahead []api.Tree, f func(kids []api.Tree)) {
	if symbols == 0 {
		f(ahead)
	}
	for n := 1; n <= symbols; n++ {
		every(syms, prods, n, func(x api.Tree) { everyRow(syms, prods, symbols-n, append(slices.Clone(ahead), x), f) })
	}
}

// TestCheckAll: P8.1: each tree of a few symbols, be it whatever, is a derivation just if it is among all that can be made.
func TestCheckAll(t *testing.T) {
	g := parse(t, "S: a T |\nT: S | S a")
	syms, prods := []int{-1, 0, 1, 2, 99, non, non + 1, non + 2}, []int{-2, -1, 0, 1, 2, 3, 4}
	right := map[string]api.Tree{}
	for _, root := range []int{1, non, non + 1} {
		for k, x := range derivations(g, root, 3) {
			right[k] = x
		}
	}
	found := 0
	for symbols := 1; symbols <= 3; symbols++ {
		every(syms, prods, symbols, func(x api.Tree) {
			_, want := right[key(x)]
			if tree.Check(g, x, x.Sym) != want || tree.Check(g, x, x.Sym+1) || (tree.Print(g, x) != "") != want {
				t.Fatal(x)
			}
			if want {
				found++
			}
		})
	}
	if found != len(right) || found < 9 {
		t.Error(found, len(right))
	}
}

// TestParseAll: P8.2: each short text is read just if it is the Print of one of all trees that can be made, and as that one.
func TestParseAll(t *testing.T) {
	g := parse(t, "S: a S T |\nT: S")
	prints := map[string]api.Tree{}
	for _, root := range []int{1, non, non + 1} {
		for _, x := range derivations(g, root, 5) {
			prints[tree.Print(g, x)] = x
		}
	}
	read := 0
	var walk func(text string, more int)
	walk = func(text string, more int) {
		x, e := tree.Parse(g, text)
		want, ok := prints[text]
		if ok != (e == api.OK) || !ok && e != api.ErrForm || !tree.Same(x, want) {
			t.Fatalf("%q %v %d", text, x, e)
		}
		if ok {
			read++
		}
		for i := 0; i < 7 && more > 0; i++ {
			walk(text+"STa ()$"[i:i+1], more-1)
		}
	}
	walk("", 6)
	walk("(S a ", 5)
	walk("(S a (S) (T S", 5)
	walk("(S a (S) ", 5)
	if read < 8 {
		t.Error("few texts were read", read)
	}
}

// TestMemory: R4: what is handed in is neither changed nor kept, and what lies behind its length is neither read nor written.
func TestMemory(t *testing.T) {
	g := parse(t, small)
	for i := range g.Prods {
		l := g.Prods[i].Right
		g.Prods[i].Right = append(l, b, c)[:len(l)]
	}
	g.Prods = append(g.Prods, api.Prod{Left: s, Right: []int{c}})[:len(g.Prods)]
	g.Terms, g.Nons = append(g.Terms, "d")[:3], append(g.Nons, "U")[:2]
	var pad func(x api.Tree) api.Tree
	pad = func(x api.Tree) api.Tree {
		var kids []api.Tree
		for _, kid := range x.Kids {
			kids = append(kids, pad(kid))
		}
		x.Kids = append(kids, leaf(b), node(s, 2))[:len(kids)]
		return x
	}
	x := pad(ab())
	if !tree.Check(g, x, s) || !slices.Equal(tree.Leaves(x), []int{a, b, c}) || !tree.Same(x, ab()) || !tree.Same(ab(), x) || tree.Size(x) != 7 || tree.Print(g, x) != "(S a (S b) (T (S) c))" || !tree.At(x, 2, 0, 2) || tree.At(x, 0, 4, 4) || tree.At(x, 2, 0, 4) {
		t.Error("what lies behind was read")
	}
	for _, text := range []string{"(S c)", "d", "U", "(S b b)"} {
		if _, e := tree.Parse(g, text); e != api.ErrForm {
			t.Error(text, e)
		}
	}
	if tree.Check(g, node(s, 5, leaf(c)), s) || tree.Check(g, leaf(4), 4) || tree.Check(g, leaf(non+2), non+2) {
		t.Error("what lies behind was read")
	}
	if more := x.Kids[:5]; !gram.Same(g, parse(t, small)) || !reflect.DeepEqual(more[3], leaf(b)) || !reflect.DeepEqual(more[4], node(s, 2)) || key(x) != key(ab()) {
		t.Error("changed")
	}
	for _, p := range g.Prods {
		if !slices.Equal(p.Right[len(p.Right):][:2], []int{b, c}) {
			t.Error("changed", p)
		}
	}
}

// TestNewMemory: R4: each list handed out is new memory, lists within it as well; R5: what was answered ahead, an error too, changes nothing.
func TestNewMemory(t *testing.T) {
	g := parse(t, small)
	x := ab()
	l := tree.Leaves(x)
	clear(l)
	_ = append(l, 9, 9)
	if !slices.Equal(tree.Leaves(x), []int{a, b, c}) || !reflect.DeepEqual(x, ab()) {
		t.Error(x)
	}
	const text = "(S a (S a S T) (T (S b) c))"
	first, _ := tree.Parse(g, text)
	var spoil func(y *api.Tree)
	spoil = func(y *api.Tree) {
		_ = append(y.Kids, leaf(77), leaf(77)) // what lies behind one list is no other one's
		for i := range y.Kids {
			spoil(&y.Kids[i])
		}
	}
	spoil(&first)
	if got := tree.Print(g, first); got != text {
		t.Error("lists share memory", got)
	}
	first.Kids[1].Kids[0].Sym, first.Kids[2].Kids[0].Kids = 77, nil
	for range 2 {
		if second, e := tree.Parse(g, text); e != api.OK || tree.Print(g, second) != text {
			t.Error(second, e)
		}
		if _, e := tree.Parse(g, text+")"); e != api.ErrForm {
			t.Error(e)
		}
	}
	if !gram.Same(g, parse(t, small)) {
		t.Error("changed")
	}
}
