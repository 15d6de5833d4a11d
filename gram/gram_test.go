package gram_test

import (
	"math"
	"slices"
	"strconv"
	"strings"
	"testing"

	"exegete/api"
	"exegete/gram"
)

const non = api.Non

func prod(left int, right ...int) api.Prod {
	return api.Prod{Left: non + left, Right: right}
}

// small is `S: a S | b T`, `T: | a`, as Parse tells it.
func small() api.Grammar {
	return api.Grammar{
		Terms: []string{"a", "b"},
		Nons:  []string{"S", "T"},
		Prods: []api.Prod{prod(0, 1, non), prod(0, 2, non+1), prod(1), prod(1, 1)},
	}
}

const smallText = "S: a S | b T\nT: | a\n"

// great has as much of all as may be.
func great() api.Grammar {
	g := api.Grammar{Terms: names("abcdefg", 8), Nons: names("ABCDEFG", 8)}
	for i := range 8 {
		for j := range 3 {
			sym := 1 + i
			g.Prods = append(g.Prods, prod(i, sym, non+7-i, sym, non+j, sym, sym))
		}
	}
	return g
}

// names are n of 8 bytes, all with the same 7 at their beginning.
func names(begin string, n int) []string {
	var l []string
	for i := range n {
		l = append(l, begin+strconv.Itoa(i))
	}
	return l
}

// copyOf shares no memory with g.
func copyOf(g api.Grammar) api.Grammar {
	g.Terms, g.Nons, g.Prods = slices.Clone(g.Terms), slices.Clone(g.Nons), slices.Clone(g.Prods)
	for i := range g.Prods {
		g.Prods[i].Right = slices.Clone(g.Prods[i].Right)
	}
	return g
}

// equal holds grammars against each other without the package's own calls.
func equal(a, b api.Grammar) bool {
	if strings.Join(a.Terms, "\x00") != strings.Join(b.Terms, "\x00") || len(a.Terms) != len(b.Terms) {
		return false
	}
	if strings.Join(a.Nons, "\x00") != strings.Join(b.Nons, "\x00") || len(a.Nons) != len(b.Nons) {
		return false
	}
	if len(a.Prods) != len(b.Prods) {
		return false
	}
	for i, p := range a.Prods {
		if p.Left != b.Prods[i].Left || !slices.Equal(p.Right, b.Prods[i].Right) {
			return false
		}
	}
	return true
}

func empty(g api.Grammar) bool {
	return len(g.Terms)+len(g.Nons)+len(g.Prods) == 0
}

func TestCheck(t *testing.T) { // P4.1
	for i, g := range []api.Grammar{
		small(),
		great(),
		{Terms: []string{"a"}, Nons: []string{"A"}, Prods: []api.Prod{prod(0)}},
		{Terms: []string{"z"}, Nons: []string{"Z"}, Prods: []api.Prod{{Left: non, Right: []int{}}}},
		{Terms: []string{"a", "aa", "aB", "a0"}, Nons: []string{"A", "AA", "Aa", "A0"}, Prods: []api.Prod{prod(3), prod(2), prod(1), prod(0)}},
		// Productions need stand in no order; those that differ in order, in length or in their Left are not alike.
		{Terms: []string{"a"}, Nons: []string{"S", "T"}, Prods: []api.Prod{prod(1, 1), prod(0, 1), prod(1), prod(0, 1, 1), prod(0, 1, non), prod(0, non, 1)}},
		{Terms: []string{"a"}, Nons: []string{"S"}, Prods: []api.Prod{prod(0, non, non, non, non, non, non)}},
		{Terms: names("a", 8), Nons: []string{"S"}, Prods: []api.Prod{prod(0, 8)}},
	} {
		if e := gram.Check(g); e != api.OK {
			t.Error(i, e)
		}
	}
}

func TestCheckNames(t *testing.T) { // P4.1: the names of terminals and nonterminals
	for i, l := range [][]string{
		nil, {}, names("a", 9), names("a", 100),
		{"a", "a"}, {"a", "b", "a"}, {"a", "b", "c", "d", "e", "f", "g", "a"},
		{""}, {"a", ""}, {"A"}, {"a", "B"}, {"Ab"}, {"1"}, {"a", "1a"}, {"abcdefghi"}, {"a", strings.Repeat("b", 5000)},
		{"a_"}, {"$"}, {"a b"}, {" a"}, {"a "}, {"é"}, {"a\x00"}, {"a:"}, {"`"}, {"{"}, {"@"}, {"["},
	} {
		g := small()
		g.Terms = l
		g.Prods = []api.Prod{prod(0), prod(1)} // right by whatever terminals
		if e := gram.Check(g); e != api.ErrArg {
			t.Error("Terms", i, e)
		}
	}
	for i, l := range [][]string{
		nil, {}, names("A", 9), names("A", 100),
		{"A", "A"}, {"A", "B", "A"}, {"A", "B", "C", "D", "E", "F", "G", "A"},
		{""}, {"A", ""}, {"a"}, {"A", "b"}, {"aB"}, {"1"}, {"A", "1A"}, {"ABCDEFGHI"}, {"A", strings.Repeat("B", 5000)},
		{"A_"}, {"$"}, {"A B"}, {" A"}, {"A "}, {"Ä"}, {"A\x00"}, {"A:"}, {"`"}, {"{"}, {"@"}, {"["},
	} {
		g := small()
		g.Nons, g.Prods = l, nil
		for j := range l {
			g.Prods = append(g.Prods, prod(j, 1))
		}
		if e := gram.Check(g); e != api.ErrArg {
			t.Error("Nons", i, e)
		}
	}
}

func TestCheckProds(t *testing.T) { // P4.1: the productions, of two terminals and two nonterminals
	var many []api.Prod
	for i := range 25 {
		many = append(many, prod(i%2, 1+i/2%2, 1+i/4%2, 1+i/8%2, 1+i/16%2))
	}
	for i, l := range [][]api.Prod{
		nil, {}, many,
		{prod(0, 1)}, {prod(1, 1)}, // a nonterminal without one
		{prod(0), prod(1), prod(2)}, {prod(0), prod(1), prod(-1)},
		{prod(0), prod(1), {Left: 0}}, {prod(0), prod(1), {Left: 1}}, {prod(0), prod(1), {Left: -1}},
		{prod(0), prod(1), {Left: math.MaxInt}}, {prod(0), prod(1), {Left: math.MinInt}},
		{prod(0), prod(1, 0)}, {prod(0), prod(1, 3)}, {prod(0), prod(1, -1)}, {prod(0), prod(1, non-1)},
		{prod(0), prod(1, non+2)}, {prod(0), prod(1, 1, 2, 1, 2, 1, api.End)}, {prod(0), prod(1, math.MaxInt)}, {prod(0), prod(1, math.MinInt)},
		{prod(0, 3), prod(1)}, {prod(0, 1, 1, 1, 1, 1, 1, 1), prod(1)}, {prod(0), prod(1, slices.Repeat([]int{1}, 100000)...)},
		{prod(0), prod(1), prod(0)}, {prod(0), prod(1), {Left: non, Right: []int{}}},
		{prod(0, 1, non), prod(1), prod(0, 1), prod(0, 1, non)}, {prod(0), prod(1, 2), prod(1, 2)},
	} {
		g := small()
		g.Prods = l
		if e := gram.Check(g); e != api.ErrArg {
			t.Error(i, e)
		}
	}
	g := small()
	g.Prods = many[:24]
	if e := gram.Check(g); e != api.OK {
		t.Error("24 productions", e)
	}
	if e := gram.Check(api.Grammar{}); e != api.ErrArg {
		t.Error("a zero grammar", e)
	}
}

func TestPrint(t *testing.T) { // P4.3
	for i, r := range []struct {
		g    api.Grammar
		want string
	}{
		{small(), smallText},
		{api.Grammar{Terms: []string{"a", "b"}, Nons: []string{"S"}, Prods: []api.Prod{prod(0, 1, non), prod(0, 2)}}, "S: a S | b\n"},
		// An empty production has nothing, at each place.
		{api.Grammar{Terms: []string{"a"}, Nons: []string{"S", "T"}, Prods: []api.Prod{prod(0), prod(1, 1)}}, "S:\nT: a\n"},
		{api.Grammar{Terms: []string{"a"}, Nons: []string{"S"}, Prods: []api.Prod{prod(0), prod(0, 1)}}, "S: | a\n"},
		{api.Grammar{Terms: []string{"a"}, Nons: []string{"S"}, Prods: []api.Prod{prod(0, 1), prod(0)}}, "S: a |\n"},
		{api.Grammar{Terms: []string{"a"}, Nons: []string{"S"}, Prods: []api.Prod{prod(0, 1), prod(0), prod(0, 1, 1)}}, "S: a | | a a\n"},
		// The rules stand in the order of Nons, not of the alphabet.
		{api.Grammar{Terms: []string{"z", "a"}, Nons: []string{"Z", "A"}, Prods: []api.Prod{prod(0, non+1, 1), prod(1, 2)}}, "Z: A z\nA: a\n"},
	} {
		if got, e := gram.Print(r.g); got != r.want || e != api.OK {
			t.Errorf("%d %q %d", i, got, e)
		}
	}
	text, e := gram.Print(great())
	if want := "ABCDEFG0: abcdefg0 ABCDEFG7 abcdefg0 ABCDEFG0 abcdefg0 abcdefg0 | abcdefg0 ABCDEFG7 abcdefg0 ABCDEFG1"; !strings.HasPrefix(text, want) || e != api.OK {
		t.Error(text, e)
	}
	if back, _, _, e := gram.Parse(text); !equal(back, great()) || e != api.OK {
		t.Error("not read back", e)
	}
}

func TestPrintNot(t *testing.T) { // P4.3: grammars that no text gives; then those that Check refuses
	ab := []string{"a", "b"}
	for i, g := range []api.Grammar{
		// Terms that come in another order.
		{Terms: ab, Nons: []string{"S"}, Prods: []api.Prod{prod(0, 2), prod(0, 1)}},
		{Terms: ab, Nons: []string{"S"}, Prods: []api.Prod{prod(0, 2, 1)}},
		{Terms: ab, Nons: []string{"S", "T"}, Prods: []api.Prod{prod(0, 2), prod(1, 1)}},
		// Terms that do not come.
		{Terms: ab, Nons: []string{"S"}, Prods: []api.Prod{prod(0, 1)}},
		{Terms: ab, Nons: []string{"S"}, Prods: []api.Prod{prod(0, 2)}},
		{Terms: []string{"a"}, Nons: []string{"S"}, Prods: []api.Prod{prod(0), prod(0, non)}},
		{Terms: []string{"a", "b", "c"}, Nons: []string{"S"}, Prods: []api.Prod{prod(0, 1, 3)}},
		// Prods that do not stand by their Left.
		{Terms: []string{"a"}, Nons: []string{"S", "T"}, Prods: []api.Prod{prod(1, 1), prod(0, 1)}},
		{Terms: []string{"a"}, Nons: []string{"S", "T"}, Prods: []api.Prod{prod(0, 1), prod(1, 1), prod(0)}},
		{Terms: ab, Nons: []string{"S", "T"}, Prods: []api.Prod{prod(1, 1), prod(0, 2)}},
	} {
		if e := gram.Check(g); e != api.OK {
			t.Error(i, "is a grammar", e)
		}
		if got, e := gram.Print(g); got != "" || e != api.ErrArg {
			t.Errorf("%d %q %d", i, got, e)
		}
	}
	for i, g := range []api.Grammar{
		{},
		{Terms: ab, Nons: []string{"S"}},
		{Terms: []string{"a", "a"}, Nons: []string{"S"}, Prods: []api.Prod{prod(0, 1, 2)}},
		{Terms: ab, Nons: []string{"S"}, Prods: []api.Prod{prod(0, 1, 2), prod(0, 3)}},
		{Terms: ab, Nons: []string{"S", "T"}, Prods: []api.Prod{prod(0, 1, 2)}},
		{Terms: ab, Nons: []string{"S"}, Prods: []api.Prod{prod(0, 1, 2), prod(0, 1, 2)}},
	} {
		if got, e := gram.Print(g); got != "" || e != api.ErrArg {
			t.Errorf("%d %q %d", i, got, e)
		}
	}
}

func TestSame(t *testing.T) { // P4.3
	a := small()
	if !gram.Same(a, small()) || !gram.Same(small(), copyOf(a)) || !gram.Same(api.Grammar{}, api.Grammar{}) {
		t.Error("alike")
	}
	// nil and the empty list are the same (R4).
	b := small()
	b.Prods[2].Right = []int{}
	if !gram.Same(a, b) || !gram.Same(b, a) || !gram.Same(api.Grammar{}, api.Grammar{Terms: []string{}, Nons: []string{}, Prods: []api.Prod{}}) {
		t.Error("nil and empty")
	}
	for i, change := range []func(g *api.Grammar){
		func(g *api.Grammar) { g.Terms[1] = "c" },
		func(g *api.Grammar) { g.Terms[0], g.Terms[1] = "b", "a" },
		func(g *api.Grammar) { g.Terms = g.Terms[:1] },
		func(g *api.Grammar) { g.Terms = append(g.Terms, "c") },
		func(g *api.Grammar) { g.Terms = nil },
		func(g *api.Grammar) { g.Nons[0] = "R" },
		func(g *api.Grammar) { g.Nons[0], g.Nons[1] = "T", "S" },
		func(g *api.Grammar) { g.Nons = g.Nons[:1] },
		func(g *api.Grammar) { g.Nons = nil },
		func(g *api.Grammar) { g.Prods[0].Left++ },
		func(g *api.Grammar) { g.Prods[3].Right[0] = 2 },
		func(g *api.Grammar) { g.Prods[3].Right = nil },
		func(g *api.Grammar) { g.Prods[2].Right = []int{1} },
		func(g *api.Grammar) { g.Prods[0].Right = []int{non, 1} },
		func(g *api.Grammar) { g.Prods[0].Right = []int{1, non, 1} },
		func(g *api.Grammar) { g.Prods[2], g.Prods[3] = g.Prods[3], g.Prods[2] },
		func(g *api.Grammar) { g.Prods = g.Prods[:3] },
		func(g *api.Grammar) { g.Prods = append(g.Prods, prod(1, 2)) },
		func(g *api.Grammar) { g.Prods = nil },
	} {
		b := small()
		change(&b)
		if gram.Same(a, b) || gram.Same(b, a) {
			t.Error(i)
		}
	}
}

func TestName(t *testing.T) { // P4.3
	g := small()
	for _, r := range []struct {
		sym  int
		want string
	}{
		{api.End, "$"}, {1, "a"}, {2, "b"}, {non, "S"}, {non + 1, "T"},
		{3, ""}, {-1, ""}, {non - 1, ""}, {non + 2, ""}, {-non, ""}, {math.MaxInt, ""}, {math.MinInt, ""}, {math.MinInt + non, ""},
	} {
		if got := gram.Name(g, r.sym); got != r.want {
			t.Errorf("%d %q", r.sym, got)
		}
	}
	if gram.Name(api.Grammar{}, 0) != "$" || gram.Name(api.Grammar{}, 1) != "" || gram.Name(api.Grammar{}, non) != "" {
		t.Error("of a zero grammar")
	}
}

func TestFind(t *testing.T) { // P4.3
	g := small()
	for _, r := range []struct {
		name string
		sym  int
		ok   bool
	}{
		{"$", api.End, true}, {"a", 1, true}, {"b", 2, true}, {"S", non, true}, {"T", non + 1, true},
		{"", 0, false}, {"c", 0, false}, {"s", 0, false}, {"A", 0, false}, {"a ", 0, false}, {"aa", 0, false}, {"$$", 0, false}, {"\x00", 0, false},
	} {
		if sym, ok := gram.Find(g, r.name); sym != r.sym || ok != r.ok {
			t.Errorf("%q %d %v", r.name, sym, ok)
		}
	}
	if sym, ok := gram.Find(api.Grammar{}, "$"); sym != api.End || !ok {
		t.Error("of a zero grammar", sym, ok)
	}
	if sym, ok := gram.Find(api.Grammar{}, ""); sym != 0 || ok {
		t.Error("of a zero grammar", sym, ok)
	}
}

// TestFindFirst: P4.3: of several the first, Terms ahead of Nons. Only a grammar that Check refuses has several.
func TestFindFirst(t *testing.T) {
	g := api.Grammar{Terms: []string{"a", "x", "a", "$"}, Nons: []string{"S", "x", "S", "y"}}
	for _, r := range []struct {
		name string
		sym  int
	}{{"a", 1}, {"x", 2}, {"S", non}, {"y", non + 3}, {"$", api.End}} {
		if sym, ok := gram.Find(g, r.name); sym != r.sym || !ok {
			t.Errorf("%q %d %v", r.name, sym, ok)
		}
	}
	if gram.Name(g, 3) != "a" || gram.Name(g, 4) != "$" || gram.Name(g, non+1) != "x" || gram.Name(g, non+2) != "S" {
		t.Error("Name")
	}
	g.Terms = names("t", 120)
	if sym, ok := gram.Find(g, "t99"); sym != 100 || !ok || gram.Name(g, 100) != "t99" || gram.Name(g, 120) != "t119" || gram.Name(g, 121) != "" {
		t.Error("more terminals than may be", sym, ok)
	}
}

// TestNameAndFind: each symbol of a grammar is found by its name.
func TestNameAndFind(t *testing.T) {
	for _, g := range []api.Grammar{small(), great()} {
		for sym := -10; sym < 2*non; sym++ {
			name := gram.Name(g, sym)
			if back, ok := gram.Find(g, name); ok != (name != "") || ok && back != sym {
				t.Error(sym, name, back, ok)
			}
		}
	}
}

// TestMemory: R4: what is handed in stays as it is, and what lies behind its length is neither read nor written.
func TestMemory(t *testing.T) {
	g := small()
	// Each list has more behind its length, which would be wrong if it were read.
	g.Terms = append(g.Terms, "a", "$")[:2]
	g.Nons = append(g.Nons, "S", "$")[:2]
	g.Prods = append(g.Prods, prod(9, 99))[:4]
	for i := range g.Prods {
		l := g.Prods[i].Right
		g.Prods[i].Right = append(l, -1)[:len(l)]
	}
	kept := copyOf(g)
	if e := gram.Check(g); e != api.OK {
		t.Error(e)
	}
	if text, e := gram.Print(g); text != smallText || e != api.OK {
		t.Errorf("%q %d", text, e)
	}
	if !gram.Same(g, small()) || gram.Name(g, 3) != "" || gram.Name(g, non+2) != "" {
		t.Error("behind the length")
	}
	if _, ok := gram.Find(g, "c"); ok || !equal(g, kept) {
		t.Error("changed")
	}
	if g.Terms[:3][2] != "a" || g.Nons[:3][2] != "S" || g.Prods[:5][4].Left != non+9 || g.Prods[2].Right[:1][0] != -1 {
		t.Error("written behind the length")
	}
}
