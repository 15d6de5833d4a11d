package states_test

import (
	"math"
	"slices"
	"strconv"
	"strings"
	"testing"

	"exegete/api"
	"exegete/gram"
	"exegete/item"
	"exegete/states"
)

const (
	non  = api.Non
	end  = api.End
	none = -1
	most = api.MaxStates
)

func prod(left int, right ...int) api.Prod {
	return api.Prod{Left: non + left, Right: right}
}

func parse(t *testing.T, text string) api.Grammar {
	t.Helper()
	g, line, col, e := gram.Parse(text)
	if e != api.OK {
		t.Fatalf("%q: error %d at %d, %d", text, e, line, col)
	}
	return g
}

func machine(t *testing.T, g api.Grammar) *states.Machine {
	t.Helper()
	m, e := states.New(g, most)
	if m == nil || e != api.OK {
		t.Fatal(g, m, e)
	}
	return m
}

// told writes a state: the symbol by which it is come to, its items, and where each symbol leads, such as `a: S=a.S $; S=.b $ -> b2 S3`.
func told(m *states.Machine, state int) string {
	g := m.Grammar()
	var parts, over []string
	for _, x := range m.Items(state) {
		p := api.Prod{Left: -1, Right: []int{non}}
		if x.Prod >= 0 {
			p = g.Prods[x.Prod]
		}
		text := gram.Name(g, p.Left) + "="
		for i, sym := range p.Right {
			if i == x.Dot {
				text += "."
			}
			text += gram.Name(g, sym)
		}
		if x.Dot == len(p.Right) {
			text += "."
		}
		if last := len(parts) - 1; last >= 0 && strings.HasPrefix(parts[last], text+" ") {
			parts[last] += gram.Name(g, x.Ahead)
		} else {
			parts = append(parts, text+" "+gram.Name(g, x.Ahead))
		}
	}
	for sym := -1; sym < non+len(g.Nons)+1; sym++ {
		if to := m.Go(state, sym); to != none {
			over = append(over, gram.Name(g, sym)+strconv.Itoa(to))
		}
	}
	return gram.Name(g, m.By(state)) + ": " + strings.Join(parts, "; ") + " -> " + strings.Join(over, " ")
}

// far are numbers that are no state and no symbol in any grammar.
func far() []int {
	return []int{-2, -non, 64, 1000, 1 << 32, 1<<32 + 1, 1<<32 + non, math.MinInt, math.MinInt + 1, math.MaxInt, math.MaxInt - 1}
}

// TestStates: P12.1: state 0; of each state, in order, by each symbol, the terminals first, then the nonterminals, rising.
func TestStates(t *testing.T) {
	for _, r := range []struct {
		text string
		want []string
	}{
		{"S: a", []string{
			"$: =.S $; S=.a $ -> a1 S2",
			"a: S=a. $ -> ",
			"S: =S. $ -> ",
		}},
		{"S:\nT: a", []string{
			"$: =.S $; S=. $ -> S1",
			"S: =S. $ -> ",
		}},
		{"S: b S | a", []string{ // b is the first terminal
			"$: =.S $; S=.bS $; S=.a $ -> b1 a2 S3",
			"b: S=.bS $; S=b.S $; S=.a $ -> b1 a2 S4",
			"a: S=a. $ -> ",
			"S: =S. $ -> ",
			"S: S=bS. $ -> ",
		}},
		{"S: C C\nC: c C | d", []string{ // what may follow parts the states
			"$: =.S $; S=.CC $; C=.cC cd; C=.d cd -> c1 d2 S3 C4",
			"c: C=.cC cd; C=c.C cd; C=.d cd -> c1 d2 C5",
			"d: C=d. cd -> ",
			"S: =S. $ -> ",
			"C: S=C.C $; C=.cC $; C=.d $ -> c6 d7 C8",
			"C: C=cC. cd -> ",
			"c: C=.cC $; C=c.C $; C=.d $ -> c6 d7 C9",
			"d: C=d. $ -> ",
			"C: S=CC. $ -> ",
			"C: C=cC. $ -> ",
		}},
		{"S: S S | a", []string{
			"$: =.S $; S=.SS $a; S=.a $a -> a1 S2",
			"a: S=a. $a -> ",
			"S: =S. $; S=.SS $a; S=S.S $a; S=.a $a -> a1 S3",
			"S: S=.SS $a; S=S.S $a; S=SS. $a; S=.a $a -> a1 S3",
		}},
		{"S: U V a\nU: | b\nV: c | U", []string{
			"$: =.S $; S=.UVa $; U=. abc; U=.b abc -> b1 S2 U3",
			"b: U=b. abc -> ",
			"S: =S. $ -> ",
			"U: S=U.Va $; U=. a; U=.b a; V=.c a; V=.U a -> b4 c5 U6 V7",
			"b: U=b. a -> ",
			"c: V=c. a -> ",
			"U: V=U. a -> ",
			"V: S=UV.a $ -> a8",
			"a: S=UVa. $ -> ",
		}},
		// By the productions of which words come; what the start does not lead to has no state.
		{"S: a U | b | U\nU: a U\nT: a b", []string{
			"$: =.S $; S=.b $ -> b1 S2",
			"b: S=b. $ -> ",
			"S: =S. $ -> ",
		}},
	} {
		m := machine(t, parse(t, r.text))
		var got []string
		for state := range m.Len() {
			got = append(got, told(m, state))
		}
		if !slices.Equal(got, r.want) {
			t.Errorf("%q:\n%s", r.text, strings.Join(got, "\n"))
		}
	}
}

// TestNumbers: P12.1: the terminals and nonterminals by their numbers, the items by the places in Prods, whatever order Prods stand in.
func TestNumbers(t *testing.T) {
	g := api.Grammar{Terms: []string{"z", "y"}, Nons: []string{"T", "S"}, Prods: []api.Prod{prod(1, 2), prod(0, non+1, 1), prod(0, 2, 1)}}
	m := machine(t, g)
	want := []string{
		"$: =.T $; S=.y z; T=.Sz $; T=.yz $ -> y1 T2 S3",
		"y: S=y. z; T=y.z $ -> z4",
		"T: =T. $ -> ",
		"S: T=S.z $ -> z5",
		"z: T=yz. $ -> ",
		"z: T=Sz. $ -> ",
	}
	for state := range want {
		if got := told(m, state); got != want[state] {
			t.Error(state, got)
		}
	}
	if m.Len() != len(want) {
		t.Error(m.Len())
	}
	if by := []int{m.By(0), m.By(1), m.By(2), m.By(3), m.By(4), m.By(5)}; !slices.Equal(by, []int{end, 2, non, non + 1, 1, 1}) {
		t.Error(by)
	}
	if l := m.Items(1); !slices.Equal(l, []api.Item{{Prod: 0, Dot: 1, Ahead: 1}, {Prod: 2, Dot: 1, Ahead: end}}) {
		t.Error(l)
	}
}

func TestNone(t *testing.T) { // P12.1, R8: no such state, no such symbol
	m := machine(t, parse(t, "S: a S | b |\nU: a U"))
	for _, state := range append(far(), -1, m.Len(), m.Len()+1, most) {
		if l := m.Items(state); len(l) != 0 {
			t.Error(state, l)
		}
		if by := m.By(state); by != -1 {
			t.Error(state, by)
		}
		for _, sym := range append(far(), -1, end, 1, 2, non, non+1) {
			if to := m.Go(state, sym); to != -1 {
				t.Error(state, sym, to)
			}
		}
	}
	for state := range m.Len() {
		for _, sym := range append(far(), -1, end, 3, 8, 9, non-1, non+1, non+2, non+8) {
			if to := m.Go(state, sym); to != -1 {
				t.Error(state, sym, to)
			}
		}
	}
	if m.Go(0, 1) != 1 || m.Go(1, 1) != 1 || m.Go(2, 1) != -1 || m.Go(3, non) != -1 {
		t.Error("Go")
	}
}

func TestNew(t *testing.T) { // P12.1: gram.Check's error, item.New's; ErrArg; ErrBudget: in this order
	one, two := []string{"a"}, []string{"S", "T"}
	broken := api.Grammar{Terms: one, Nons: two, Prods: []api.Prod{prod(0)}}
	for i, r := range []struct {
		g      api.Grammar
		budget int
		e      api.Errno
	}{
		{parse(t, "S: a"), most, api.OK},
		{parse(t, "S: a"), 3, api.OK},
		{parse(t, "S: a"), 2, api.ErrBudget},
		{parse(t, "S: a"), 1, api.ErrBudget},
		{parse(t, "S: a"), 0, api.ErrArg},
		{parse(t, "S: a"), -1, api.ErrArg},
		{parse(t, "S: a"), math.MinInt, api.ErrArg},
		{parse(t, "S: a"), most + 1, api.ErrArg},
		{parse(t, "S: a"), math.MaxInt, api.ErrArg},
		{parse(t, "S: a"), 1<<32 + 3, api.ErrArg},
		{parse(t, "S:\nT: a"), 2, api.OK},
		{parse(t, "S:\nT: a"), 1, api.ErrBudget},
		{parse(t, "S: S a"), most, api.ErrEmpty},
		{parse(t, "S: S a"), 0, api.ErrEmpty},
		{parse(t, "S: S a"), 1, api.ErrEmpty},
		{parse(t, "S: a T\nT: b S\nU: a"), most + 1, api.ErrEmpty},
		{api.Grammar{}, most, api.ErrArg},
		{api.Grammar{}, 0, api.ErrArg},
		{broken, most, api.ErrArg},
		{broken, 0, api.ErrArg},
		{api.Grammar{Terms: one, Nons: two, Prods: []api.Prod{prod(0), prod(1, 2)}}, most, api.ErrArg},
		{api.Grammar{Terms: one, Nons: two, Prods: []api.Prod{prod(0), prod(1, end)}}, most, api.ErrArg},
		{api.Grammar{Terms: one, Nons: two, Prods: []api.Prod{prod(0), prod(1), {Left: math.MinInt}}}, most, api.ErrArg},
		{api.Grammar{Terms: one, Nons: two, Prods: []api.Prod{prod(0, non), prod(1, math.MaxInt)}}, most, api.ErrArg},
		{api.Grammar{Terms: one, Nons: two, Prods: []api.Prod{prod(0, non), prod(1, -1)}}, most, api.ErrArg},
	} {
		m, e := states.New(r.g, r.budget)
		if e != r.e || (m != nil) != (e == api.OK) {
			t.Error(i, m, e)
		}
	}
}

// TestBudget: P12.1: just if there are more states than that.
func TestBudget(t *testing.T) {
	for _, text := range []string{"S: a", "S: C C\nC: c C | d", "S: S S | a |", "S: a S a | b S b | T\nT: T c | T T d |", "S: a\nT: b"} {
		g := parse(t, text)
		n := machine(t, g).Len()
		for budget := 1; budget <= n+3; budget++ {
			m, e := states.New(g, budget)
			if budget < n && (m != nil || e != api.ErrBudget) {
				t.Error(text, budget, m, e)
			}
			if budget >= n && (m == nil || e != api.OK || m.Len() != n) {
				t.Error(text, budget, m, e)
			}
		}
	}
}

// many has, with what is put in behind the bar, some 600 states.
const many = "S: a T a | b T b | c T c | d T d | e T e | f T f | g T g | h T h | T a a a a @\nT: a a a a a a | b b b b b b | c c c c c c | d d d d d d | e e e e e e | f f f f f f | g g g g g g | h h h h h h | a b b b b b | b c c c c c | c d d d d d | d e e e e e | e f f f"

// TestMost: P12.1: as many states as may be, one more, and far more.
func TestMost(t *testing.T) {
	for _, r := range []struct {
		put string
		n   int
		e   api.Errno
	}{
		{"", 599, api.OK},
		{"a", 600, api.OK},
		{"a | T b", 0, api.ErrBudget}, // 601
		{"a | T S", 0, api.ErrBudget},
	} {
		m, e := states.New(parse(t, strings.Replace(many, "@", r.put, 1)), most)
		if e != r.e || (m != nil) != (e == api.OK) || m != nil && m.Len() != r.n {
			t.Error(r.put, m, e)
		}
	}
	m := machine(t, parse(t, strings.Replace(many, "@", "a", 1)))
	if m.By(599) == -1 || len(m.Items(599)) == 0 || m.By(600) != -1 || len(m.Items(600)) != 0 || m.Go(600, 1) != -1 {
		t.Error("the last one")
	}
}

// full is as much of a grammar as may be.
const full = "S: A B C D E F | a | b\nA: b | c | C D E F S B\nB: c | d | D E F S A C\nC: d | e | E F S A B D\nD: e | f | F S A B C E\nE: f | g | S A B C D F\nF: g | h | A B C D E S\nG: a b c d e f | h | a a a a a a"

func TestFull(t *testing.T) { // P12.1
	g := parse(t, full)
	if len(g.Terms) != api.MaxTerms || len(g.Nons) != api.MaxNons || len(g.Prods) != api.MaxProds {
		t.Fatal(g)
	}
	m := machine(t, g)
	hold(t, g, m)
	for sym, want := range map[int]bool{1: true, 8: true, 9: false, non: true, non + 6: true, non + 7: false} {
		leads := false
		for state := range m.Len() {
			leads = leads || m.Go(state, sym) != none
		}
		if leads != want {
			t.Error(sym, leads)
		}
	}
}

func TestGrammar(t *testing.T) { // P12.1: Grammar
	for _, text := range []string{"S: a", "S:\nT: a", "S: a U | b\nU: U a", full} {
		g := parse(t, text)
		if got := machine(t, g).Grammar(); !gram.Same(got, g) {
			t.Errorf("%q: %v", text, got)
		}
	}
	// All of it, with the names and productions of no use, in the order of Prods.
	g := api.Grammar{Terms: []string{"b", "a"}, Nons: []string{"T", "S"}, Prods: []api.Prod{prod(1, non+1), prod(0, 2), prod(0), prod(1, 2, 1)}}
	if got := machine(t, g).Grammar(); !gram.Same(got, g) {
		t.Error(got)
	}
}

// spare is g with room behind each list's length, in which what stands is told by the lists that come with it.
func spare(g api.Grammar) (api.Grammar, []string, []api.Prod, []int) {
	names := append(slices.Clone(g.Terms), "x", "y")
	prods := append(slices.Clone(g.Prods), prod(7, 7, 7), prod(6, 6))
	right := append(slices.Clone(prods[0].Right), 77, 78)
	prods[0].Right = right[:len(right)-2]
	g.Terms, g.Prods = names[:len(names)-2], prods[:len(prods)-2]
	return g, names, prods, right
}

func TestMemory(t *testing.T) { // R4
	g, names, prods, right := spare(parse(t, "S: a S | b T |\nT: c"))
	m := machine(t, g)
	if !gram.Same(g, parse(t, "S: a S | b T |\nT: c")) || !slices.Equal(names[3:], []string{"x", "y"}) || prods[4].Left != non+7 || prods[5].Right[0] != 6 || !slices.Equal(right[2:], []int{77, 78}) {
		t.Error("changed", g, names, prods, right)
	}
	was := all(m)
	// What is handed out is changed: with its room.
	for state := range m.Len() {
		l := m.Items(state)
		l = l[:cap(l)]
		for i := range l {
			l[i] = api.Item{Prod: 9, Dot: 9, Ahead: 9}
		}
	}
	spoil(m.Grammar())
	if got := all(m); got != was {
		t.Errorf("%s\nnot\n%s", got, was)
	}
	a, b := m.Grammar(), m.Grammar()
	spoil(a)
	if !gram.Same(b, parse(t, "S: a S | b T |\nT: c")) {
		t.Error(b)
	}
	// What was handed in is changed.
	spoil(g)
	if got := all(m); got != was || !gram.Same(m.Grammar(), parse(t, "S: a S | b T |\nT: c")) {
		t.Errorf("%s\nnot\n%s", got, was)
	}
}

// spoil changes all memory of g.
func spoil(g api.Grammar) {
	for i := range g.Terms[:cap(g.Terms)] {
		g.Terms[:cap(g.Terms)][i] = "z"
	}
	for i := range g.Nons[:cap(g.Nons)] {
		g.Nons[:cap(g.Nons)][i] = "Z"
	}
	prods := g.Prods[:cap(g.Prods)]
	for i := range prods {
		right := prods[i].Right[:cap(prods[i].Right)]
		for j := range right {
			right[j] = non + 5
		}
		prods[i] = prod(3, 3)
	}
}

// all tells all that a Machine does.
func all(m *states.Machine) string {
	text, _ := gram.Print(m.Grammar())
	for state := range m.Len() {
		text += "\n" + told(m, state)
	}
	return text
}

// TestNil: R4: nil and the empty list are the same.
func TestNil(t *testing.T) {
	a := api.Grammar{Nons: []string{"S"}, Prods: []api.Prod{{Left: non}}}
	b := api.Grammar{Terms: []string{}, Nons: []string{"S"}, Prods: []api.Prod{{Left: non, Right: []int{}}}}
	x, e := states.New(a, most)
	y, f := states.New(b, most)
	if e != f {
		t.Fatal(e, f)
	}
	if e == api.OK && all(x) != all(y) {
		t.Error(all(x), all(y))
	}
}

func TestSame(t *testing.T) { // R5
	for _, text := range []string{"S: C C\nC: c C | d", "S: a S a | b S b | T\nT: T c | T T d |", full} {
		g := parse(t, text)
		was := all(machine(t, g))
		for range 5 {
			m := machine(t, g)
			for state := -1; state < 5; state++ {
				m.Go(state, 1)
				m.Items(state)
			}
			if got := all(m); got != was {
				t.Errorf("%s\nnot\n%s", got, was)
			}
		}
	}
}

// TestItems: P12.1: state 0 is item.Begin.
func TestItems(t *testing.T) {
	for _, text := range []string{"S: a", "S: C C\nC: c C | d", "S: U V a\nU: | b\nV: c | U", full} {
		g := parse(t, text)
		maker, _ := item.New(g)
		m := machine(t, g)
		if !item.Same(m.Items(0), maker.Begin()) || m.By(0) != end {
			t.Error(text, told(m, 0))
		}
	}
}
