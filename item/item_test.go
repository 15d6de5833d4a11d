package item_test

import (
	"math"
	"slices"
	"strings"
	"testing"

	"exegete/api"
	"exegete/gram"
	"exegete/item"
)

const (
	non = api.Non
	end = api.End
	own = -1
)

func prod(left int, right ...int) api.Prod {
	return api.Prod{Left: non + left, Right: right}
}

func parse(t *testing.T, text string) api.Grammar {
	t.Helper()
	g, line, col, e := gram.Parse(text)
	if e != api.OK {
		t.Fatalf("%q: error %d at %d, %d", text, e, line, col)
	}
	return g
}

func maker(t *testing.T, g api.Grammar) *item.Maker {
	t.Helper()
	m, e := item.New(g)
	if m == nil || e != api.OK {
		t.Fatal(g, m, e)
	}
	return m
}

// symbols is the numbers of names, of which each is a letter ($ is End).
func symbols(t *testing.T, g api.Grammar, names string) []int {
	t.Helper()
	var l []int
	for i := range len(names) {
		sym, ok := gram.Find(g, names[i:i+1])
		if !ok {
			t.Fatalf("%q is no name", names)
		}
		l = append(l, sym)
	}
	return l
}

// items reads a list of items such as `=.S $; S=.aS ab$`: Left (nothing, of the start's own), Right with the dot in it, and what may follow, one or more.
func items(t *testing.T, g api.Grammar, text string) []api.Item {
	t.Helper()
	var l []api.Item
	for _, part := range strings.Split(text, "; ") {
		if text == "" {
			break
		}
		head, aheads, _ := strings.Cut(part, " ")
		left, right, ok := strings.Cut(head, "=")
		dot := strings.IndexByte(right, '.')
		if !ok || dot < 0 || aheads == "" {
			t.Fatalf("%q is no item", part)
		}
		x := api.Item{Prod: own, Dot: dot}
		if left != "" {
			p := api.Prod{Left: symbols(t, g, left)[0], Right: symbols(t, g, right[:dot]+right[dot+1:])}
			x.Prod = slices.IndexFunc(g.Prods, func(q api.Prod) bool { return q.Left == p.Left && slices.Equal(p.Right, q.Right) })
			if x.Prod < 0 {
				t.Fatalf("%q has no production", part)
			}
		} else if right != ".S" && right != "S." {
			t.Fatalf("%q is not the start's own", part)
		}
		for _, x.Ahead = range symbols(t, g, aheads) {
			l = append(l, x)
		}
	}
	return l
}

// told writes a list of items as items reads them, one by one.
func told(g api.Grammar, l []api.Item) string {
	var parts []string
	for _, x := range l {
		p := api.Prod{Left: -1, Right: []int{non}}
		if x.Prod >= 0 {
			p = g.Prods[x.Prod]
		}
		text := gram.Name(g, p.Left) + "="
		for i, sym := range p.Right {
			if i == x.Dot {
				text += "."
			}
			text += gram.Name(g, sym)
		}
		if x.Dot == len(p.Right) {
			text += "."
		}
		parts = append(parts, text+" "+gram.Name(g, x.Ahead))
	}
	return strings.Join(parts, "; ")
}

func rising(l []api.Item) bool {
	for i := range len(l) - 1 {
		if !item.Less(l[i], l[i+1]) {
			return false
		}
	}
	return true
}

// far are numbers that are no place, no dot and nothing ahead in any grammar.
func far() []int {
	return []int{-2, -3, -63, -64, -65, -non, 64, 63, 65, 1000, 1 << 32, 1<<32 + 1, math.MinInt, math.MinInt + 1, math.MaxInt, math.MaxInt - 1}
}

func TestNew(t *testing.T) { // P11.1: New: reach.Trim's error
	one, two := []string{"a"}, []string{"S", "T"}
	for i, r := range []struct {
		g api.Grammar
		e api.Errno
	}{
		{parse(t, "S: a"), api.OK},
		{parse(t, "S: | T\nT: T a"), api.OK},
		{parse(t, "S: S a"), api.ErrEmpty},
		{parse(t, "S: a T\nT: b S\nU: a"), api.ErrEmpty},
		{api.Grammar{}, api.ErrArg},
		{api.Grammar{Terms: one, Nons: two}, api.ErrArg},
		{api.Grammar{Terms: one, Nons: two, Prods: []api.Prod{prod(0)}}, api.ErrArg},
		{api.Grammar{Nons: two, Prods: []api.Prod{prod(0), prod(1)}}, api.ErrArg},
		{api.Grammar{Terms: one, Nons: two, Prods: []api.Prod{prod(0), prod(1, 2)}}, api.ErrArg},
		{api.Grammar{Terms: one, Nons: two, Prods: []api.Prod{prod(0), prod(1, end)}}, api.ErrArg},
		{api.Grammar{Terms: one, Nons: two, Prods: []api.Prod{prod(0), prod(1), {Left: math.MinInt}}}, api.ErrArg},
		{api.Grammar{Terms: one, Nons: two, Prods: []api.Prod{prod(0, non), prod(1, math.MaxInt)}}, api.ErrArg},
		{api.Grammar{Terms: one, Nons: two, Prods: []api.Prod{prod(0, non), prod(1), prod(1)}}, api.ErrArg},
		{api.Grammar{Terms: one, Nons: two, Prods: []api.Prod{prod(0, 1, 1, 1, 1, 1, 1, 1), prod(1)}}, api.ErrArg},
	} {
		m, e := item.New(r.g)
		if e != r.e || (m != nil) != (e == api.OK) {
			t.Error(i, m, e)
		}
	}
}

func TestRight(t *testing.T) { // P11.1: Right
	m := maker(t, parse(t, "S: a S | b |")) // a 1, b 2; productions of 2, 1 and 0 symbols
	for _, r := range []struct {
		x    api.Item
		want bool
	}{
		{api.Item{}, true},
		{api.Item{Prod: 0, Dot: 2, Ahead: end}, true},
		{api.Item{Prod: 0, Dot: 1, Ahead: 2}, true},
		{api.Item{Prod: 2, Dot: 0, Ahead: 1}, true},
		// Prod is one of them, or -1.
		{api.Item{Prod: 3}, false},
		{api.Item{Prod: -2}, false},
		{api.Item{Prod: non}, false},
		// Dot is from 0 to the length of its Right.
		{api.Item{Prod: 0, Dot: -1}, false},
		{api.Item{Prod: 0, Dot: 3}, false},
		{api.Item{Prod: 1, Dot: 1}, true},
		{api.Item{Prod: 1, Dot: 2}, false},
		{api.Item{Prod: 2, Dot: 1}, false},
		// Ahead is a terminal, or End.
		{api.Item{Prod: 0, Ahead: 1}, true},
		{api.Item{Prod: 0, Ahead: 3}, false},
		{api.Item{Prod: 0, Ahead: -1}, false},
		{api.Item{Prod: 0, Ahead: non}, false},
		// The start's own has the start alone, and End alone ahead.
		{api.Item{Prod: -1}, true},
		{api.Item{Prod: -1, Dot: 1}, true},
		{api.Item{Prod: -1, Dot: 2}, false},
		{api.Item{Prod: -1, Dot: -1}, false},
		{api.Item{Prod: -1, Ahead: 1}, false},
		{api.Item{Prod: -1, Dot: 1, Ahead: 2}, false},
		{api.Item{Prod: -1, Ahead: non}, false},
	} {
		if got := m.Right(r.x); got != r.want {
			t.Error(r.x, got)
		}
	}
	for _, n := range far() {
		for _, x := range []api.Item{{Prod: n}, {Dot: n}, {Ahead: n}, {Prod: -1, Dot: n}, {Prod: -1, Ahead: n}, {Prod: n, Dot: n, Ahead: n}} {
			if m.Right(x) {
				t.Error(x)
			}
		}
	}
}

// TestRightTrimmed: P11.1: by the productions of reach.Trim alone: those with a nonterminal of which no word comes are none, those that are not reached are.
func TestRightTrimmed(t *testing.T) {
	g := parse(t, "S: a U | T | b U b | S U |\nT: c | U\nU: U a\nV: a | V b")
	m := maker(t, g)
	for i, want := range []bool{false, true, false, false, true, true, false, false, true, true} {
		for dot := range 4 {
			for ahead := range 4 {
				x := api.Item{Prod: i, Dot: dot, Ahead: ahead}
				want := want && dot <= len(g.Prods[i].Right)
				if m.Right(x) != want {
					t.Error(x, m.Right(x))
				}
				if _, ok := m.Next(x); ok != (want && dot < len(g.Prods[i].Right)) {
					t.Error(x, ok)
				}
			}
		}
	}
}

func TestNext(t *testing.T) { // P11.1: Next: the symbol behind the dot (false: none, or not Right)
	m := maker(t, parse(t, "S: a S T | b |\nT: S b"))
	for _, r := range []struct {
		x   api.Item
		sym int
		ok  bool
	}{
		{api.Item{Prod: 0, Dot: 0}, 1, true},
		{api.Item{Prod: 0, Dot: 1, Ahead: 2}, non, true},
		{api.Item{Prod: 0, Dot: 2}, non + 1, true},
		{api.Item{Prod: 0, Dot: 3}, 0, false},
		{api.Item{Prod: 0, Dot: 4}, 0, false},
		{api.Item{Prod: 0, Dot: -1}, 0, false},
		{api.Item{Prod: 0, Dot: 0, Ahead: 3}, 0, false},
		{api.Item{Prod: 0, Dot: 0, Ahead: -1}, 0, false},
		{api.Item{Prod: 1, Dot: 0, Ahead: 1}, 2, true},
		{api.Item{Prod: 1, Dot: 1}, 0, false},
		{api.Item{Prod: 2, Dot: 0}, 0, false},
		{api.Item{Prod: 3, Dot: 0}, non, true},
		{api.Item{Prod: 3, Dot: 1}, 2, true},
		{api.Item{Prod: 4, Dot: 0}, 0, false},
		{api.Item{Prod: -1, Dot: 0}, non, true},
		{api.Item{Prod: -1, Dot: 1}, 0, false},
		{api.Item{Prod: -1, Dot: 0, Ahead: 1}, 0, false},
		{api.Item{Prod: -2, Dot: 0}, 0, false},
	} {
		if sym, ok := m.Next(r.x); sym != r.sym || ok != r.ok {
			t.Error(r.x, sym, ok)
		}
	}
	for _, n := range far() {
		for _, x := range []api.Item{{Prod: n}, {Dot: n}, {Ahead: n}, {Prod: -1, Dot: n}, {Prod: -1, Ahead: n}, {Prod: n, Dot: n, Ahead: n}} {
			if sym, ok := m.Next(x); sym != 0 || ok {
				t.Error(x, sym, ok)
			}
		}
	}
}

func TestLess(t *testing.T) { // P11.1: by Prod, Dot, Ahead
	for _, r := range []struct{ a, b api.Item }{ // a is ahead of b
		{api.Item{Prod: 0}, api.Item{Prod: 1}},
		{api.Item{Prod: -1, Dot: 9, Ahead: 9}, api.Item{}},
		{api.Item{Prod: 0, Dot: 9, Ahead: 9}, api.Item{Prod: 1}},
		{api.Item{Dot: 0}, api.Item{Dot: 1}},
		{api.Item{Prod: 2, Dot: 0, Ahead: 9}, api.Item{Prod: 2, Dot: 1}},
		{api.Item{Ahead: 0}, api.Item{Ahead: 1}},
		{api.Item{Prod: 2, Dot: 3, Ahead: 4}, api.Item{Prod: 2, Dot: 3, Ahead: 5}},
		{api.Item{Prod: 2, Dot: 3, Ahead: -5}, api.Item{Prod: 2, Dot: 3, Ahead: -4}},
		{api.Item{Prod: math.MinInt}, api.Item{Prod: math.MaxInt}},
		{api.Item{Dot: math.MinInt}, api.Item{Dot: math.MaxInt}},
		{api.Item{Ahead: math.MinInt}, api.Item{Ahead: math.MaxInt}},
		{api.Item{Prod: math.MinInt, Dot: math.MaxInt}, api.Item{Prod: math.MinInt + 1, Dot: math.MinInt}},
	} {
		if !item.Less(r.a, r.b) || item.Less(r.b, r.a) || item.Less(r.a, r.a) || item.Less(r.b, r.b) {
			t.Error(r.a, r.b)
		}
	}
	var l []api.Item
	for i := range 4 * 4 * 4 {
		l = append(l, api.Item{Prod: i/16 - 2, Dot: i/4%4 - 2, Ahead: i%4 - 2})
	}
	for i := range l {
		for j := range l {
			if item.Less(l[i], l[j]) != (i < j) {
				t.Error(l[i], l[j])
			}
		}
	}
}

func TestSame(t *testing.T) { // P11.1: alike, in order
	a, b := api.Item{Prod: 1, Dot: 2, Ahead: 3}, api.Item{Prod: 2, Dot: 2, Ahead: 3}
	for _, r := range []struct {
		a, b []api.Item
		want bool
	}{
		{nil, nil, true},
		{nil, []api.Item{}, true}, // R4
		{[]api.Item{}, nil, true},
		{nil, []api.Item{{}}, false},
		{[]api.Item{a}, []api.Item{a}, true},
		{[]api.Item{a, b}, []api.Item{a, b}, true},
		{[]api.Item{a, b}, []api.Item{b, a}, false},
		{[]api.Item{a, b}, []api.Item{a}, false},
		{[]api.Item{a}, []api.Item{a, a}, false},
		{[]api.Item{a, a, b}, []api.Item{a, b, b}, false},
		{[]api.Item{a}, []api.Item{b}, false},
		{[]api.Item{a}, []api.Item{{Prod: 1, Dot: 1, Ahead: 3}}, false},
		{[]api.Item{a}, []api.Item{{Prod: 1, Dot: 2, Ahead: 4}}, false},
		{[]api.Item{{Prod: -7, Dot: math.MinInt, Ahead: math.MaxInt}}, []api.Item{{Prod: -7, Dot: math.MinInt, Ahead: math.MaxInt}}, true},
		{[]api.Item{a, b}[:1], []api.Item{a, a}[:1], true}, // what lies behind a length is not read
	} {
		if item.Same(r.a, r.b) != r.want || item.Same(r.b, r.a) != r.want {
			t.Error(r.a, r.b)
		}
	}
}

func TestBegin(t *testing.T) { // P11.2: Close of the start's own, dot 0
	for _, r := range []struct{ text, want string }{
		{"S: a", "=.S $; S=.a $"},
		{"S:\nT: a", "=.S $; S=. $"},
		{"S: a S | b", "=.S $; S=.aS $; S=.b $"},
		{"S: C C\nC: c C | d", "=.S $; S=.CC $; C=.cC cd; C=.d cd"},
		// What stands behind the nonterminal, and what is ahead, may come behind it.
		{"S: S a | b", "=.S $; S=.Sa $a; S=.b $a"},
		{"S: S S | a", "=.S $; S=.SS $a; S=.a $a"},
		{"S: S S | a |", "=.S $; S=.SS $a; S=.a $a; S=. $a"},
		{"S: T a | T T b\nT: c", "=.S $; S=.Ta $; S=.TTb $; T=.c ac"},
		{"S: T U V\nT: a\nU: b |\nV: c |", "=.S $; S=.TUV $; T=.a $bc"},
		{"S: T U V d\nT: a\nU: b |\nV: c |", "=.S $; S=.TUVd $; T=.a dbc"},
		{"S: T U a\nT: V b\nU:\nV: c | V V", "=.S $; S=.TUa $; T=.Vb a; V=.c bc; V=.VV bc"},
		{"S: T\nT: U\nU: a | S b", "=.S $; S=.T $b; T=.U $b; U=.a $b; U=.Sb $b"},
		{"S: T S | a\nT:", "=.S $; S=.TS $; S=.a $; T=. a"},
		// Just what is behind the dot, however empty that may be: the items that stand there have dot 0.
		{"S: a T | b\nT: c", "=.S $; S=.aT $; S=.b $"},
		// By the productions of reach.Trim alone.
		{"S: a U | b | T c | T U\nT: d | U e\nU: U f", "=.S $; S=.b $; S=.Tc $; T=.d c"},
		{"S: S U | S a |\nU: U a\nV: S", "=.S $; S=.Sa $a; S=. $a"},
	} {
		g := parse(t, r.text)
		if got := maker(t, g).Begin(); !slices.Equal(got, items(t, g, r.want)) {
			t.Errorf("%q: %s", r.text, told(g, got))
		}
	}
}

func TestClose(t *testing.T) { // P11.2: Close
	for _, r := range []struct{ text, from, want string }{
		{"S: a", "", ""},
		{"S: a", "=.S $", "=.S $; S=.a $"},
		// Nothing comes where no nonterminal stands behind the dot.
		{"S: a S | b", "=S. $", "=S. $"},
		{"S: a S | b", "S=.aS b; S=aS. a; S=b. $", "S=.aS b; S=aS. a; S=b. $"},
		{"S: a S | b |", "S=. a", "S=. a"},
		{"S: a S | b", "S=a.S b", "S=.aS b; S=a.S b; S=.b b"},
		// By Less, each once, in whatever order they are handed in.
		{"S: a S | b", "S=b. $; S=aS. $; S=aS. a; S=b. a; =S. $", "=S. $; S=aS. $a; S=b. $a"},
		{"S: a S | b", "S=b. b; S=b. a; S=b. b; S=b. $; S=b. a", "S=b. $ab"},
		{"S: a S | b", "S=a.S a; S=a.S a; S=.b a; S=a.S a", "S=.aS a; S=a.S a; S=.b a"},
		{"S: a S | b", "S=a.S b; S=a.S $; =.S $", "=.S $; S=.aS $b; S=a.S $b; S=.b $b"},
		// What each one has ahead hangs on its own.
		{"S: T a | T b c | d T\nT: e", "S=.Ta $", "S=.Ta $; T=.e a"},
		{"S: T a | T b c | d T\nT: e", "S=.Tbc $; S=d.T c", "S=.Tbc $; S=d.T c; T=.e bc"},
		{"S: T a | T b c | d T\nT: e", "S=d.T a; S=d.T e; S=.dT $", "S=.dT $; S=d.T ae; T=.e ae"},
		// What comes later of one that is there already brings more.
		{"S: T a | U b\nT: U\nU: T | c", "S=.Ta $", "S=.Ta $; T=.U a; U=.T a; U=.c a"},
		{"S: T a | U b\nT: U\nU: T | c", "S=.Ub $; S=.Ta a", "S=.Ta a; S=.Ub $; T=.U ab; U=.T ab; U=.c ab"},
		{"S: T a | b\nT: S c | T d", "=.S $", "=.S $; S=.Ta $c; S=.b $c; T=.Sc ad; T=.Td ad"},
		{"S: a T U b | c\nT: d | S\nU: S |", "S=a.TUb $", "S=.aTUb abc; S=a.TUb $; S=.c abc; T=.d abc; T=.S abc"},
		{"S: a T U b | c\nT: d | S\nU: S |", "S=aT.Ub $", "S=.aTUb b; S=aT.Ub $; S=.c b; U=.S b; U=. b"},
		{"S: a T U | c\nT: d | S\nU: S |", "S=a.TU $", "S=.aTU $ac; S=a.TU $; S=.c $ac; T=.d $ac; T=.S $ac"},
		// What the start does not lead to has items as well.
		{"S: a\nT: S T | b U\nU: U U |", "T=.ST b; T=b.U a", "S=.a ab; T=.ST b; T=b.U a; U=.UU a; U=. a"},
	} {
		g := parse(t, r.text)
		from := items(t, g, r.from)
		got := maker(t, g).Close(from...)
		if !slices.Equal(got, items(t, g, r.want)) {
			t.Errorf("%q, %q: %s", r.text, r.from, told(g, got))
		}
		slices.Reverse(from)
		if back := maker(t, g).Close(from...); !item.Same(back, got) {
			t.Errorf("%q, %q backwards: %s", r.text, r.from, told(g, back))
		}
		if again := maker(t, g).Close(got...); !item.Same(again, got) {
			t.Errorf("%q, %q, closed: %s", r.text, r.from, told(g, again))
		}
	}
}

// wrong are items that are not Right, of a grammar of two terminals, with productions of 2, 1, 0 and 2 symbols, the last of which has no word.
func wrong() []api.Item {
	l := []api.Item{{Prod: 3}, {Prod: 3, Dot: 1}, {Prod: 4}, {Prod: -2}, {Prod: 0, Dot: 3}, {Prod: 1, Dot: 2}, {Prod: 2, Dot: 1}, {Dot: -1}, {Ahead: 3}, {Ahead: -1}, {Ahead: non}, {Prod: -1, Ahead: 1}, {Prod: -1, Ahead: 2}, {Prod: -1, Dot: 2}, {Prod: -1, Dot: -1}}
	for _, n := range far() {
		l = append(l, api.Item{Prod: n}, api.Item{Dot: n}, api.Item{Ahead: n}, api.Item{Dot: 1, Ahead: n}, api.Item{Prod: -1, Dot: n}, api.Item{Prod: -1, Ahead: n}, api.Item{Prod: n, Dot: n, Ahead: n})
	}
	return l
}

// TestPassedOver: P11.2: Close and Go pass over what is not Right, wherever it stands.
func TestPassedOver(t *testing.T) {
	g := parse(t, "S: a S | b |\nU: a U")
	m := maker(t, g)
	if got := m.Close(wrong()...); len(got) != 0 {
		t.Error(got)
	}
	good := items(t, g, "S=a.S b; S=.b a")
	closed := items(t, g, "S=.aS b; S=a.S b; S=.b ab; S=. b")
	over := items(t, g, "S=aS. b")
	for _, l := range [][]api.Item{
		slices.Concat(good, wrong()), slices.Concat(wrong(), good), slices.Concat(good[:1], wrong(), good[1:]), slices.Concat(wrong(), good, good, wrong()),
	} {
		if got := m.Close(l...); !item.Same(got, closed) {
			t.Error(told(g, got))
		}
		if got := m.Go(l, non); !item.Same(got, over) {
			t.Error(told(g, got))
		}
	}
	for _, sym := range append(far(), -1, 0, 1, 2, 3, non-1, non, non+1, non+2) {
		if got := m.Go(wrong(), sym); len(got) != 0 {
			t.Error(sym, got)
		}
	}
}

func TestGo(t *testing.T) { // P11.2: Go
	for _, r := range []struct{ text, from, over, want string }{
		{"S: a", "=.S $; S=.a $", "a", "S=a. $"},
		{"S: a", "=.S $; S=.a $", "S", "=S. $"},
		// Just those with that symbol behind the dot.
		{"S: a S | b", "=.S $; S=.aS $; S=.b $", "b", "S=b. $"},
		{"S: a S | b", "=.S $; S=.aS $; S=.b $", "a", "S=.aS $; S=a.S $; S=.b $"},
		{"S: a S | b", "S=b. $; S=aS. $; =S. $", "a", ""},
		{"S: a S | b", "S=b. $; S=aS. $; =S. $", "S", ""},
		{"S: a S | b", "", "a", ""},
		{"S: C C\nC: c C | d", "=.S $; S=.CC $; C=.cC cd; C=.d cd", "C", "S=C.C $; C=.cC $; C=.d $"},
		{"S: C C\nC: c C | d", "=.S $; S=.CC $; C=.cC cd; C=.d cd", "c", "C=.cC cd; C=c.C cd; C=.d cd"},
		{"S: C C\nC: c C | d", "S=C.C $; C=.cC $; C=.d $", "d", "C=d. $"},
		// One further: not further over what may be empty, nor over the same symbol once more.
		{"S: T T a\nT:", "=.S $; S=.TTa $; T=. a", "T", "S=T.Ta $; T=. a"},
		{"S: T T a\nT:", "S=.TTa $; S=T.Ta $", "T", "S=T.Ta $; S=TT.a $; T=. a"},
		{"S: a a a | b", "S=.aaa $; S=a.aa $; S=aa.a $; S=aaa. $", "a", "S=a.aa $; S=aa.a $; S=aaa. $"},
		// Of the list alone: it is not closed ahead of that.
		{"S: a S | b", "=.S $", "a", ""},
		{"S: T a\nT: S | b", "S=.Ta $", "S", ""},
		{"S: T a\nT: S | b", "S=.Ta $", "T", "S=T.a $"},
		// What is over it is closed, by Less, each once.
		{"S: b T | b\nT: S a | T c", "S=.b $; S=.bT $; S=.b $", "b", "S=.bT a; S=b.T $; S=.b a; S=b. $; T=.Sa $c; T=.Tc $c"},
		{"S: T S | a\nT: a |", "S=.a $; T=.a a; S=.TS $; S=.a $; T=. a", "a", "S=a. $; T=a. a"},
		{"S: T S | a\nT: a |", "S=.TS a; S=.TS $; S=.a $; S=.TS a", "T", "S=.TS $a; S=T.S $a; S=.a $a; T=.a a; T=. a"},
	} {
		g := parse(t, r.text)
		from := items(t, g, r.from)
		if got := maker(t, g).Go(from, symbols(t, g, r.over)[0]); !slices.Equal(got, items(t, g, r.want)) {
			t.Errorf("%q, %q, %s: %s", r.text, r.from, r.over, told(g, got))
		}
	}
}

// TestGoNowhere: P11.2, R8: End, and what is no symbol, stands behind no dot: also not where there is nothing behind it.
func TestGoNowhere(t *testing.T) {
	g := parse(t, "S: a S T | b |\nT: S b")
	m := maker(t, g)
	var all []api.Item
	for i := range 9 * 9 * 9 {
		all = append(all, api.Item{Prod: i/81 - 2, Dot: i/9%9 - 2, Ahead: i%9 - 2})
	}
	for _, sym := range append(far(), end, -1, 3, 4, non-1, non+2, non+8) {
		if got := m.Go(all, sym); len(got) != 0 {
			t.Error(sym, told(g, got))
		}
	}
	for _, sym := range []int{1, 2, non, non + 1} {
		if got := m.Go(all, sym); len(got) == 0 || !rising(got) {
			t.Error(sym, told(g, got))
		}
	}
}

// TestOrder: productions that do not stand by their Left: items are numbered, and ordered, by the places in Prods.
func TestOrder(t *testing.T) { // P11.1, P11.2
	g := api.Grammar{Terms: []string{"a", "b"}, Nons: []string{"S", "T", "U"}, Prods: []api.Prod{
		prod(1, 1), prod(2, non+2), prod(0, non+1, non+2), prod(0, non+1, 2), prod(1, 2, non), prod(0, non+1),
	}}
	m := maker(t, g)
	want := items(t, g, "=.S $; T=.a $b; S=.Tb $; T=.bS $b; S=.T $")
	if got := m.Begin(); !item.Same(got, want) || got[1].Prod != 0 || got[3].Prod != 3 || got[6].Prod != 5 {
		t.Error(told(g, got))
	}
	if got := m.Go(want, non+1); !item.Same(got, items(t, g, "S=T.b $; S=T. $")) {
		t.Error(told(g, got))
	}
	if m.Right(api.Item{Prod: 1}) || m.Right(api.Item{Prod: 2}) || !m.Right(api.Item{Prod: 4, Dot: 2, Ahead: 2}) {
		t.Error("Right")
	}
}

// TestFull: P11.1, P11.2: as much of a grammar as may be.
func TestFull(t *testing.T) {
	g := parse(t, "S: A B C D E F | a | b\nA: b | c | C D E F S B\nB: c | d | D E F S A C\nC: d | e | E F S A B D\nD: e | f | F S A B C E\nE: f | g | S A B C D F\nF: g | h | A B C D E S\nG: a b c d e f | h | a a a a a a")
	if len(g.Terms) != api.MaxTerms || len(g.Nons) != api.MaxNons || len(g.Prods) != api.MaxProds {
		t.Fatal(g)
	}
	m := maker(t, g)
	var all []api.Item
	for i := range g.Prods {
		for dot := range len(g.Prods[i].Right) + 1 {
			for ahead := range api.MaxTerms + 1 {
				all = append(all, api.Item{Prod: i, Dot: dot, Ahead: ahead})
			}
		}
	}
	all = append(all, api.Item{Prod: -1}, api.Item{Prod: -1, Dot: 1})
	got := m.Close(slices.Concat(all, wrongOfFull(), all)...)
	slices.SortFunc(all, func(a, b api.Item) int {
		if item.Less(a, b) {
			return -1
		}
		return 1
	})
	if !item.Same(got, all) || !rising(got) {
		t.Error(len(got), len(all))
	}
	last := api.Item{Prod: api.MaxProds - 1, Dot: api.MaxRight, Ahead: api.MaxTerms}
	if !m.Right(last) || m.Right(api.Item{Prod: last.Prod, Dot: last.Dot + 1}) || m.Right(api.Item{Prod: last.Prod + 1}) || m.Right(api.Item{Prod: last.Prod, Ahead: last.Ahead + 1}) {
		t.Error("Right")
	}
	if got := m.Go(all, 1); len(got) != 9*(1+1+6) { // a: S, the first G once, the last one six times
		t.Error(told(g, got))
	}
}

func wrongOfFull() []api.Item {
	return []api.Item{{Prod: api.MaxProds}, {Dot: api.MaxRight + 1}, {Ahead: api.MaxTerms + 1}, {Prod: -1, Ahead: 8}, {Prod: -1, Dot: 2}}
}

// TestMemory: R4: what is handed in is neither changed nor kept, and what lies behind its length is neither read nor written.
func TestMemory(t *testing.T) {
	const text = "S: a S b | T c |\nT: b T | a"
	clean, g := parse(t, text), parse(t, text)
	for i := range g.Prods {
		g.Prods[i].Right = append(slices.Clone(g.Prods[i].Right), 2, 1)[:len(g.Prods[i].Right)]
	}
	g.Prods = append(g.Prods, prod(0, 2))[:len(g.Prods)]
	g.Terms, g.Nons = append(g.Terms, "d")[:3], append(g.Nons, "U")[:2]
	m := maker(t, g)
	if !gram.Same(g, clean) || g.Prods[:6][5].Right[0] != 2 || g.Terms[:4][3] != "d" || g.Nons[:3][2] != "U" {
		t.Error("changed", g)
	}
	for _, p := range g.Prods {
		if !slices.Equal(p.Right[len(p.Right):][:2], []int{2, 1}) {
			t.Error("changed", p)
		}
	}
	for i := range g.Prods { // a grammar that is changed later is not the maker's
		p := &g.Prods[i]
		for j := range p.Right {
			p.Right[j] = 1
		}
		p.Left, p.Right = non, nil
	}
	g.Terms[0], g.Nons[1] = "x", "X"
	want := maker(t, clean)
	from := items(t, clean, "S=a.Sb $; T=b.T c; S=.Tc a; S=T.c a; =.S $")
	long := append(slices.Clone(from), api.Item{Prod: 1, Dot: 0, Ahead: 3}, api.Item{Prod: 3, Dot: 1, Ahead: 1})
	kept := slices.Clone(long)
	for range 2 { // R5
		if got := m.Begin(); !item.Same(got, items(t, clean, "=.S $; S=.aSb $; S=.Tc $; S=. $; T=.bT c; T=.a c")) {
			t.Error(told(clean, got))
		}
		if got := m.Close(long[:len(from)]...); !item.Same(got, want.Close(from...)) || len(got) < 9 {
			t.Error(told(clean, got))
		}
		for _, sym := range []int{1, 2, 3, non, non + 1} {
			if got := m.Go(long[:len(from)], sym); !item.Same(got, want.Go(from, sym)) {
				t.Error(told(clean, got))
			}
		}
		if !slices.Equal(long, kept) {
			t.Error("changed", long)
		}
	}
}

// TestNewMemory: R4: each list handed out is new memory; R5: the same is answered each time.
func TestNewMemory(t *testing.T) {
	g := parse(t, "S: a S b | T c |\nT: b T | a")
	m := maker(t, g)
	begin := slices.Clone(m.Begin())
	done := slices.Clone(m.Close(items(t, g, "S=aSb. $; T=bT. c")...))
	closed := m.Close(done...) // closed as it is, and new all the same
	for _, fresh := range []func() []api.Item{
		m.Begin,
		func() []api.Item { return m.Close(begin...) },
		func() []api.Item { return m.Close(done...) },
		func() []api.Item { return m.Go(begin, 1) },
		func() []api.Item { return m.Go(begin, non+1) },
		func() []api.Item { return m.Go(begin, non) },
	} {
		l := fresh()
		want := slices.Clone(l)
		if len(l) == 0 {
			t.Fatal("nothing")
		}
		for i := range l {
			l[i] = api.Item{Prod: 77, Dot: 77, Ahead: 77}
		}
		_ = append(l, api.Item{Prod: 78})
		if got := fresh(); !slices.Equal(got, want) {
			t.Error(told(g, got))
		}
	}
	for i := range closed {
		closed[i] = api.Item{Prod: 77}
	}
	if !item.Same(begin, m.Begin()) || !item.Same(done, items(t, g, "S=aSb. $; T=bT. c")) {
		t.Error("lists share memory")
	}
}
