package driver_test

import (
	"math"
	"reflect"
	"slices"
	"strconv"
	"strings"
	"testing"

	"exegete/api"
	"exegete/driver"
	"exegete/gram"
	"exegete/run"
	"exegete/states"
	"exegete/table"
	"exegete/tree"
)

const (
	non  = api.Non
	end  = api.End
	leaf = -1
)

func parse(t *testing.T, text string) *table.Table {
	t.Helper()
	g, line, col, e := gram.Parse(text)
	if e != api.OK {
		t.Fatalf("%q: error %d at %d, %d", text, e, line, col)
	}
	m, e := states.New(g, api.MaxStates)
	if e != api.OK {
		t.Fatalf("%q: error %d", text, e)
	}
	return table.New(m)
}

// word reads the terminals of a word by their names, each of one letter.
func word(t *testing.T, g api.Grammar, text string) []int {
	t.Helper()
	var l []int
	for _, name := range strings.Split(text, "") {
		sym, ok := gram.Find(g, name)
		if !ok || sym >= non {
			t.Fatal(g, name)
		}
		l = append(l, sym)
	}
	return l
}

// isNone tells that x is no tree.
func isNone(x api.Tree) bool {
	return x.Sym == 0 && x.Prod == 0 && len(x.Kids) == 0
}

// told parses w, by each of the calls, and writes what they tell: of a word that is accepted the tree and the productions, of others where it stopped.
func told(t *testing.T, tab *table.Table, w []int) string {
	t.Helper()
	g := tab.Machine().Grammar()
	x, r, e := driver.Parse(tab, w)
	prods, e1 := driver.Rights(tab, w)
	if want, _ := run.Run(tab, w); e != api.OK || r != want {
		t.Fatal(g, w, r, want, e)
	}
	if !r.Accepted {
		if !isNone(x) || len(prods) != 0 || e1 != api.ErrNone {
			t.Fatal(g, w, x, prods, e1)
		}
		return "stop " + strconv.Itoa(r.Place) + " " + strconv.Itoa(r.State)
	}
	if e1 != api.OK {
		t.Fatal(g, w, e1)
	}
	text := tree.Print(g, x) + ":"
	for _, prod := range prods {
		text += " " + strconv.Itoa(prod)
	}
	return text
}

// TestParse: P15.1: the tree, and the productions in order; where it stopped.
func TestParse(t *testing.T) {
	for _, r := range []struct{ text, word, want string }{
		{"S: a", "a", "(S a): 0"},
		{"S: a", "", "stop 0 0"},
		{"S: a", "aa", "stop 1 1"},
		{"S: a S | b", "ab", "(S a (S b)): 1 0"}, // the chapter's
		{"S: a S | b", "b", "(S b): 1"},
		{"S: a S | b", "aab", "(S a (S a (S b))): 1 0 0"},
		{"S: a S | b", "aa", "stop 2 1"},
		{"S: a S | b", "aba", "stop 2 2"},
		{"S: a S | b", "bb", "stop 1 2"},
		// A production without symbols takes nothing off.
		{"S:\nT: a", "", "(S): 0"},
		{"S:\nT: a", "a", "stop 0 0"},
		{"S: T U V\nT:\nU: a\nV: | b", "a", "(S (T) (U a) (V)): 1 2 3 0"},
		{"S: T U V\nT:\nU: a\nV: | b", "ab", "(S (T) (U a) (V b)): 1 2 4 0"},
		{"S: T U V\nT:\nU: a\nV: | b", "", "stop 0 0"},
		{"S: T T a T\nT:", "a", "(S (T) (T) a (T)): 1 1 1 0"},
		// From the left, around, and both.
		{"S: S a |\n", "", "(S): 1"},
		{"S: S a |\n", "aa", "(S (S (S) a) a): 1 0 0"},
		{"S: a S b |\n", "aabb", "(S a (S a (S) b) b): 1 0 0"},
		{"S: S b T | T\nT: a | c S d", "abcabadba", "(S (S (S (T a)) b (T c (S (S (T a)) b (T a)) d)) b (T a)): 2 1 2 1 2 0 3 0 2 0"},
		// Through nonterminals alone, and by the one that was read.
		{"S: T\nT: U\nU: V\nV: a", "a", "(S (T (U (V a)))): 3 2 1 0"},
		{"S: a U c | U d\nU: b", "abc", "(S a (U b) c): 2 0"},
		{"S: a U c | U d\nU: b", "bd", "(S (U b) d): 2 1"},
		{"S: a U c | U d\nU: b", "abd", "stop 2 5"},
		// MaxRight of Kids.
		{"S: a T b U c V\nT: d\nU: e\nV: f", "adbecf", "(S a (T d) b (U e) c (V f)): 1 2 3 0"},
		// What was reduced ahead of where it stops is no tree.
		{"S: T a b\nT: c |", "ca", "stop 2 4"},
		{"S: T T\nT: a", "a", "stop 1 1"},
		{"S: S a |\n T: b", "aab", "stop 2 2"},
		// By the productions of which words come.
		{"S: a U | a | U\nU: U a", "a", "(S a): 1"},
		{"S: a U | a | U\nU: U a", "aa", "stop 1 1"},
		{"E: E p T | T\nT: T m F | F\nF: o E c | n", "npnmn", "(E (E (T (F n))) p (T (T (F n)) m (F n))): 5 3 1 5 3 5 2 0"},
		{"E: E p T | T\nT: T m F | F\nF: o E c | n", "onpncmn", "(E (T (T (F o (E (E (T (F n))) p (T (F n))) c)) m (F n))): 5 3 1 5 3 0 4 3 5 2 1"},
	} {
		tab := parse(t, r.text)
		if got := told(t, tab, word(t, tab.Machine().Grammar(), r.word)); got != r.want {
			t.Errorf("%q, %s: %s, not %s", r.text, r.word, got, r.want)
		}
	}
}

// TestApart: P15.1: a grammar whose productions don't stand by their nonterminals: Prod is the place in the grammar.
func TestApart(t *testing.T) {
	const S, T = non, non + 1
	g := api.Grammar{Terms: []string{"a", "b"}, Nons: []string{"S", "T"}, Prods: []api.Prod{{Left: T, Right: []int{2}}, {Left: S, Right: []int{1, T}}, {Left: T}}}
	m, e := states.New(g, 9)
	if e != api.OK {
		t.Fatal(e)
	}
	tab := table.New(m)
	for text, want := range map[string]string{"a": "(S a (T)): 2 1", "ab": "(S a (T b)): 0 1"} {
		if got := told(t, tab, word(t, g, text)); got != want {
			t.Error(text, got)
		}
	}
}

// TestFields: P15.1: each field of what is told.
func TestFields(t *testing.T) {
	tab := parse(t, "S: a S T | b\nT:")
	lone := func(sym int) api.Tree { return api.Tree{Sym: sym, Prod: leaf} }
	want := api.Tree{Sym: non, Kids: []api.Tree{lone(1), {Sym: non, Prod: 1, Kids: []api.Tree{lone(2)}}, {Sym: non + 1, Prod: 2}}}
	x, r, e := driver.Parse(tab, []int{1, 2})
	if !reflect.DeepEqual(x, want) || r != (run.Result{Accepted: true, State: 3, Place: 2}) || e != api.OK {
		t.Error(x, r, e)
	}
	if l, e := driver.Rights(tab, []int{1, 2}); !slices.Equal(l, []int{1, 2, 0}) || e != api.OK {
		t.Error(l, e)
	}
	for _, s := range []struct {
		w []int
		r run.Result
	}{
		{nil, run.Result{}},
		{[]int{}, run.Result{}},
		{[]int{1, 1}, run.Result{State: 1, Place: 2}},
		{[]int{1, 2, 1}, run.Result{State: 2, Place: 2}},
	} {
		if x, r, e := driver.Parse(tab, s.w); !isNone(x) || r != s.r || e != api.OK {
			t.Error(s, x, r, e)
		}
		if l, e := driver.Rights(tab, s.w); len(l) != 0 || e != api.ErrNone {
			t.Error(s, l, e)
		}
	}
}

// refused tells that each of the calls answers an error, and nothing beside.
func refused(t *testing.T, tab *table.Table, w []int, want api.Errno) {
	t.Helper()
	if x, r, e := driver.Parse(tab, w); !isNone(x) || r != (run.Result{}) || e != want {
		t.Error(w, x, r, e)
	}
	if l, e := driver.Rights(tab, w); len(l) != 0 || e != want {
		t.Error(w, l, e)
	}
}

func TestRefused(t *testing.T) { // P15.1: run's error
	calm, torn := parse(t, "S: a S | b\nT: c"), parse(t, "S: S S | a")
	for _, sym := range []int{end, -1, -2, 4, 8, 9, non - 1, non, non + 1, -non, 1 << 32, 1<<32 + 1, math.MinInt, math.MaxInt} {
		refused(t, calm, []int{sym}, api.ErrArg)
		refused(t, calm, []int{1, 2, sym}, api.ErrArg)    // behind a word that is accepted
		refused(t, calm, []int{2, 2, sym, 1}, api.ErrArg) // behind where it would stop
		refused(t, torn, []int{1, sym}, api.ErrConflict)  // ahead of ErrArg
	}
	for _, n := range []int{api.MaxWord + 1, 1 << 16} {
		refused(t, calm, append(slices.Repeat([]int{1}, n-1), 2), api.ErrArg) // it comes of the start, but is too long
		refused(t, torn, slices.Repeat([]int{1}, n), api.ErrConflict)
	}
	for _, w := range [][]int{nil, {}, {1}, {1, 1}} { // whether or not the conflict would be met
		refused(t, torn, w, api.ErrConflict)
	}
	for _, text := range []string{"S: T | U\nT: a\nU: a", "S: S | a", "S: a T | b\nT: T T |"} {
		refused(t, parse(t, text), []int{1}, api.ErrConflict)
	}
}

// chain has n symbols of S one under another.
func chain(w []int, right bool, last api.Tree) api.Tree {
	x := last
	for _, sym := range w {
		kids := []api.Tree{{Sym: sym, Prod: leaf}, x}
		if !right {
			slices.Reverse(kids)
		}
		x = api.Tree{Sym: non, Kids: kids}
	}
	return x
}

// TestLong: P15.1, P15.2: words of MaxWord, whose trees are as deep.
func TestLong(t *testing.T) {
	const n = api.MaxWord
	right, left := parse(t, "S: a S | b"), parse(t, "S: S a | b")
	ones := slices.Repeat([]int{1}, n-1)
	two := api.Tree{Sym: non, Prod: 1, Kids: []api.Tree{{Sym: 2, Prod: leaf}}}
	w := append(slices.Clone(ones), 2)
	if x, r, e := driver.Parse(right, w); !tree.Same(x, chain(ones, true, two)) || r != (run.Result{Accepted: true, State: 3, Place: n}) || e != api.OK {
		t.Error(x, r, e)
	}
	if l, e := driver.Rights(right, w); !slices.Equal(l, append([]int{1}, make([]int, n-1)...)) || e != api.OK {
		t.Error(l, e)
	}
	w[n-1] = 1
	if x, r, e := driver.Parse(right, w); !isNone(x) || r != (run.Result{State: 1, Place: n}) || e != api.OK {
		t.Error(x, r, e)
	}
	g := left.Machine().Grammar()
	w = word(t, g, "b"+strings.Repeat("a", n-1))
	first := api.Tree{Sym: non, Prod: 1, Kids: []api.Tree{{Sym: w[0], Prod: leaf}}}
	if x, r, e := driver.Parse(left, w); !tree.Same(x, chain(w[1:], false, first)) || !r.Accepted || r.Place != n || e != api.OK {
		t.Error(x, r, e)
	}
}

// TestMany: P15.1, P15.2: trees in which there is far more than the word.
func TestMany(t *testing.T) {
	tab := parse(t, "S: a S T | b\nT: U U U U U U\nU: V V V V V V\nV: W W W W W W\nW: X X X X X X\nX:")
	g := tab.Machine().Grammar()
	perS := 6*6*6*6 + 6*6*6 + 6*6 + 6 + 1
	w := append(slices.Repeat([]int{1}, 30), 2)
	x, r, e := driver.Parse(tab, w)
	if e != api.OK || !r.Accepted || tree.Size(x) != 31*2+30*perS || !tree.Check(g, x, non) || !slices.Equal(tree.Leaves(x), w) {
		t.Error(r, e, tree.Size(x))
	}
	if l, e := driver.Rights(tab, w); len(l) != 31+30*perS || !slices.Equal(l, up(x)) || e != api.OK {
		t.Error(len(l), e)
	}
}

// lists tells all lists of Kids of a tree that have one at least, with the room behind them.
func lists(x api.Tree) [][]api.Tree {
	var l [][]api.Tree
	if len(x.Kids) > 0 {
		l = append(l, x.Kids[:cap(x.Kids)])
	}
	for _, kid := range x.Kids {
		l = append(l, lists(kid)...)
	}
	return l
}

func TestMemory(t *testing.T) { // R4
	tab := parse(t, "S: a S U T | b\nT: c | d\nU:")
	g := tab.Machine().Grammar()
	row := append(word(t, g, "aabcd"), 77, 78)
	was := slices.Clone(row)
	in := row[:5]
	x, _, e := driver.Parse(tab, in)
	text := tree.Print(g, x)
	if text != "(S a (S a (S b) (U) (T c)) (U) (T d))" || e != api.OK || !slices.Equal(row, was) {
		t.Fatal(text, row)
	}
	if got := told(t, tab, row[:2]); got != "stop 2 4" { // what stands behind is not read
		t.Error(got)
	}
	prods, _ := driver.Rights(tab, in)
	y, _, _ := driver.Parse(tab, in)
	for i := range row { // what was handed in is not kept
		row[i] = 9
	}
	if tree.Print(g, y) != text {
		t.Error(tree.Print(g, y))
	}
	copy(row, was)
	seen := map[*api.Tree]bool{}
	for _, l := range lists(x) { // each place of each list is that one's alone
		for i := range l {
			if seen[&l[i]] {
				t.Error("two lists share", l[i])
			}
			seen[&l[i]] = true
		}
	}
	for _, l := range lists(x) {
		for i := range l {
			l[i] = api.Tree{Sym: 9, Prod: 9}
		}
	}
	rights := slices.Clone(prods)
	prods = prods[:cap(prods)]
	for i := range prods {
		prods[i] = 9
	}
	z, _, _ := driver.Parse(tab, in)
	again, _ := driver.Rights(tab, in)
	if tree.Print(g, y) != text || tree.Print(g, z) != text || !slices.Equal(again, rights) || !slices.Equal(row, was) {
		t.Error(tree.Print(g, y), tree.Print(g, z), again, rights)
	}
}

func TestSame(t *testing.T) { // R5: asked again, in another order, of another table of the same grammar, of one read back
	const text = "S: T U V\nT: | c\nU: a\nV: | b V"
	tab := parse(t, text)
	back, e := table.Unpack(tab.Machine(), tab.Pack())
	if e != api.OK {
		t.Fatal(e)
	}
	words := [][]int{nil, {1}, {2}, {2, 3}, {1, 2, 3, 3}, {3}, {1, 2, 1}, {1, 1}}
	var was []string
	for _, w := range words {
		was = append(was, told(t, tab, w))
	}
	for range 3 {
		for i, w := range slices.Backward(words) {
			for _, x := range []*table.Table{tab, back, parse(t, text)} {
				refused(t, x, []int{1, 2, end}, api.ErrArg) // an error between changes nothing
				if got := told(t, x, w); got != was[i] {
					t.Error(w, got, was[i])
				}
			}
		}
	}
}
