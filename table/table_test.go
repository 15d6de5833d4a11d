package table_test

import (
	"math"
	"slices"
	"strconv"
	"strings"
	"testing"

	"exegete/api"
	"exegete/gram"
	"exegete/states"
	"exegete/table"
)

const (
	non  = api.Non
	end  = api.End
	most = api.MaxStates
)

func machine(t *testing.T, g api.Grammar) *states.Machine {
	t.Helper()
	m, e := states.New(g, most)
	if m == nil || e != api.OK {
		t.Fatal(g, m, e)
	}
	return m
}

func parse(t *testing.T, text string) *states.Machine {
	t.Helper()
	g, line, col, e := gram.Parse(text)
	if e != api.OK {
		t.Fatalf("%q: error %d at %d, %d", text, e, line, col)
	}
	return machine(t, g)
}

// one writes an action: s and the state, r and the production, or acc.
func one(a api.Action) string {
	switch {
	case a.Kind == api.Shift:
		return "s" + strconv.Itoa(a.N)
	case a.Kind == api.Reduce:
		return "r" + strconv.Itoa(a.N)
	case a == api.Action{Kind: api.Accept}:
		return "acc"
	}
	return "?"
}

// told writes what may be done in a state, such as `$ r2 acc, a s1 r2`.
func told(t *table.Table, state int) string {
	g := t.Machine().Grammar()
	var l []string
	for term := -1; term < non+len(g.Nons)+1; term++ {
		text := gram.Name(g, term)
		for _, a := range t.Actions(state, term) {
			text += " " + one(a)
		}
		if text != gram.Name(g, term) {
			l = append(l, text)
		}
	}
	return strings.Join(l, ", ")
}

// listed writes the conflicts, such as `4 a s1 r0`.
func listed(t *table.Table) []string {
	var l []string
	for _, c := range t.Conflicts() {
		l = append(l, strconv.Itoa(c.State)+" "+gram.Name(t.Machine().Grammar(), c.Term)+" "+one(c.A)+" "+one(c.B))
	}
	return l
}

// wrong writes the terms at which nothing may be done, of each state.
func wrong(t *table.Table) string {
	var l []string
	for state := range t.Machine().Len() {
		text := ""
		for _, term := range t.Errors(state) {
			text += gram.Name(t.Machine().Grammar(), term)
		}
		l = append(l, text)
	}
	return strings.Join(l, " ")
}

// far are numbers that are no state and no symbol in any grammar.
func far() []int {
	return []int{-2, -non, 64, 1000, 1 << 32, 1<<32 + 1, 1<<32 + non, math.MinInt, math.MinInt + 1, math.MaxInt, math.MaxInt - 1}
}

// TestTable: P13.1: Actions, Conflicts and Errors.
func TestTable(t *testing.T) {
	for _, r := range []struct {
		text      string
		actions   []string
		conflicts []string
		errors    string
	}{
		{"S: a", []string{"a s1", "$ r0", "$ acc"}, nil, "$ a a"},
		{"S:\nT: a", []string{"$ r0", "$ acc"}, nil, "a a"}, // a production without symbols has its dot at the end at once
		{"S: a S | b", []string{"a s1, b s2", "a s1, b s2", "$ r1", "$ acc", "$ r0"}, nil, "$ $ ab ab ab"},
		// A Go of a nonterminal is no Shift; what may follow parts the Reduces.
		{"S: C C\nC: c C | d", []string{
			"c s1, d s2", "c s1, d s2", "c r2, d r2", "$ acc", "c s6, d s7",
			"c r1, d r1", "c s6, d s7", "$ r2", "$ r0", "$ r1",
		}, nil, "$ $ $ cd $ $ $ cd cd cd"},
		// Shift ahead of Reduce.
		{"S: S S | a", []string{"a s1", "$ r1, a r1", "$ acc, a s1", "$ r0, a s1 r0"}, []string{"3 a s1 r0"}, "$   "},
		// Reduces rise.
		{"S: B | A\nA: a\nB: a", []string{"a s1", "$ r2 r3", "$ acc", "$ r1", "$ r0"}, []string{"1 $ r2 r3"}, "$ a a a a"},
		// Reduce ahead of Accept.
		{"S: S | a", []string{"a s1", "$ r1", "$ r0 acc"}, []string{"2 $ r0 acc"}, "$ a a"},
		// Three: each two of them.
		{"S: T | U | V\nT: a\nU: a\nV: a", []string{"a s1", "$ r3 r4 r5", "$ acc", "$ r0", "$ r1", "$ r2"}, []string{"1 $ r3 r4", "1 $ r3 r5", "1 $ r4 r5"}, "$ a a a a a"},
		// Reduces with Accept; of the same actions another pair at another term.
		{"S: S T S | a | S | T S\nT:", []string{
			"a s1 r4", "$ r1, a r1", "$ r2 acc, a r2 r4", "a s1 r4", "a s1 r4", "$ r2 r3, a r2 r3 r4", "$ r0 r2, a r0 r2 r4",
		}, []string{
			"0 a s1 r4", "2 $ r2 acc", "2 a r2 r4", "3 a s1 r4", "4 a s1 r4", "5 $ r2 r3", "5 a r2 r3", "5 a r2 r4", "5 a r3 r4",
			"6 $ r0 r2", "6 a r0 r2", "6 a r0 r4", "6 a r2 r4",
		}, "$   $ $  "},
		// Four of them: each two.
		{"S: S S S | S S | a |", []string{
			"$ r3, a s1 r3", "$ r2, a r2", "$ r3 acc, a s1 r3", "$ r1 r3, a s1 r1 r3", "$ r0 r1 r3, a s1 r0 r1 r3",
		}, []string{
			"0 a s1 r3", "2 $ r3 acc", "2 a s1 r3", "3 $ r1 r3", "3 a s1 r1", "3 a s1 r3", "3 a r1 r3", "4 $ r0 r1", "4 $ r0 r3", "4 $ r1 r3",
			"4 a s1 r0", "4 a s1 r1", "4 a s1 r3", "4 a r0 r1", "4 a r0 r3", "4 a r1 r3",
		}, "    "},
		// By the productions of which words come: none of the others is reduced.
		{"S: a U | a | U\nU: U a", []string{"a s1", "$ r1", "$ acc"}, nil, "$ a a"},
	} {
		tab := table.New(parse(t, r.text))
		var got []string
		for state := range tab.Machine().Len() {
			got = append(got, told(tab, state))
		}
		if !slices.Equal(got, r.actions) || !slices.Equal(listed(tab), r.conflicts) || wrong(tab) != r.errors {
			t.Errorf("%q:\n%q\n%q\n%q", r.text, got, listed(tab), wrong(tab))
		}
	}
}

// TestOrder: P13.1: the terms are gone through by their numbers, the Reduces by the places in Prods, whatever order Prods stand in.
func TestOrder(t *testing.T) {
	g := api.Grammar{Terms: []string{"z", "y"}, Nons: []string{"S", "T"}, Prods: []api.Prod{
		{Left: non + 1, Right: []int{2}}, {Left: non, Right: []int{non, 1}}, {Left: non, Right: []int{non + 1}}, {Left: non, Right: []int{2}}, {Left: non, Right: []int{non, 2}},
	}}
	tab := table.New(machine(t, g))
	for state, want := range []string{"y s1", "$ r0 r3, z r0 r3, y r0 r3", "$ acc, z s4, y s5", "$ r2, z r2, y r2", "$ r1, z r1, y r1", "$ r4, z r4, y r4"} {
		if got := told(tab, state); got != want {
			t.Errorf("%d: %q", state, got)
		}
	}
	if got := listed(tab); !slices.Equal(got, []string{"1 $ r0 r3", "1 z r0 r3", "1 y r0 r3"}) {
		t.Errorf("%q", got)
	}
	if got := wrong(tab); got != "$z     " {
		t.Errorf("%q", got)
	}
}

// TestActions: P13.1: each field of what is told.
func TestActions(t *testing.T) {
	tab := table.New(parse(t, "S: S S | a"))
	for _, r := range []struct {
		state, term int
		want        []api.Action
	}{
		{0, 1, []api.Action{{Kind: api.Shift, N: 1}}},
		{1, end, []api.Action{{Kind: api.Reduce, N: 1}}},
		{2, end, []api.Action{{Kind: api.Accept, N: 0}}},
		{3, 1, []api.Action{{Kind: api.Shift, N: 1}, {Kind: api.Reduce, N: 0}}},
		{0, end, nil},
	} {
		if got := tab.Actions(r.state, r.term); !slices.Equal(got, r.want) {
			t.Error(r, got)
		}
	}
	want := []api.Conflict{{State: 3, Term: 1, A: api.Action{Kind: api.Shift, N: 1}, B: api.Action{Kind: api.Reduce, N: 0}}}
	if got := tab.Conflicts(); !slices.Equal(got, want) {
		t.Error(got)
	}
	tab = table.New(parse(t, "S: S | a"))
	want = []api.Conflict{{State: 2, Term: end, A: api.Action{Kind: api.Reduce, N: 0}, B: api.Action{Kind: api.Accept, N: 0}}}
	if got := tab.Conflicts(); !slices.Equal(got, want) {
		t.Error(got)
	}
	if got := table.New(parse(t, "S: a")).Errors(1); !slices.Equal(got, []int{1}) {
		t.Error(got)
	}
	if got := table.New(parse(t, "S: a b")).Errors(1); !slices.Equal(got, []int{end, 1}) {
		t.Error(got)
	}
}

func TestNone(t *testing.T) { // P13.1, R8: no such state, no such term
	tab := table.New(parse(t, "S: a S | b |\nU: a U"))
	n := tab.Machine().Len()
	for _, state := range append(far(), -1, n, n+1, most) {
		if l := tab.Errors(state); len(l) != 0 {
			t.Error(state, l)
		}
		for _, term := range append(far(), -1, end, 1, 2, non) {
			if l := tab.Actions(state, term); len(l) != 0 {
				t.Error(state, term, l)
			}
		}
	}
	for state := range n {
		for _, term := range append(far(), -1, 3, 8, 9, non-1, non, non+1, non+2) { // a nonterminal leads on, yet it is no term
			if l := tab.Actions(state, term); len(l) != 0 {
				t.Error(state, term, l)
			}
		}
	}
	if len(tab.Actions(0, end)) != 1 || len(tab.Actions(0, 2)) != 1 || tab.Machine().Go(0, non) < 0 {
		t.Error("there are none at all")
	}
}

func TestMachine(t *testing.T) { // P13.1: the Machine itself
	a, b := parse(t, "S: a"), parse(t, "S: a")
	x, y := table.New(a), table.New(b)
	if x.Machine() != a || y.Machine() != b {
		t.Error("another one")
	}
	z, e := table.Unpack(a, y.Pack())
	if e != api.OK || z.Machine() != a {
		t.Error(e)
	}
}

// full is as much of a grammar as may be.
const full = "S: A B C D E F | a | b\nA: b | c | C D E F S B\nB: c | d | D E F S A C\nC: d | e | E F S A B D\nD: e | f | F S A B C E\nE: f | g | S A B C D F\nF: g | h | A B C D E S\nG: a b c d e f | h | a a a a a a"

// many has 600 states, all that may be.
const many = "S: a T a | b T b | c T c | d T d | e T e | f T f | g T g | h T h | T a a a a a\nT: a a a a a a | b b b b b b | c c c c c c | d d d d d d | e e e e e e | f f f f f f | g g g g g g | h h h h h h | a b b b b b | b c c c c c | c d d d d d | d e e e e e | e f f f"

// crowded has, in one state, eight Reduces at one term.
func crowded() api.Grammar {
	g := api.Grammar{Terms: []string{"a", "b", "c", "d", "e", "f", "g", "h"}, Nons: []string{"S", "T", "U", "V", "W", "X", "Y", "Z"}}
	for i := range 8 { // each is each other, and a
		g.Prods = append(g.Prods, api.Prod{Left: non + i, Right: []int{non + (i+1)%8}}, api.Prod{Left: non + i, Right: []int{1}}, api.Prod{Left: non + i})
	}
	return g
}

// TestPack: P13.2: of each state, of each term, End first: how many Actions; of each Kind, and N, the greater byte first.
func TestPack(t *testing.T) {
	for _, r := range []struct {
		text string
		want []byte
	}{
		{"S: a", []byte{0, 1, 1, 0, 1, 1, 2, 0, 0, 0, 1, 3, 0, 0, 0}},
		{"S:\nT: a", []byte{1, 2, 0, 0, 0, 1, 3, 0, 0, 0}},
		{"S: S | a", []byte{0, 1, 1, 0, 1, 1, 2, 0, 1, 0, 2, 2, 0, 0, 3, 0, 0, 0}},
		{"S: S S | a", []byte{0, 1, 1, 0, 1, 1, 2, 0, 1, 1, 2, 0, 1, 1, 3, 0, 0, 1, 1, 0, 1, 1, 2, 0, 0, 2, 1, 0, 1, 2, 0, 0}},
		{"S: a b", []byte{0, 1, 1, 0, 1, 0, 0, 0, 1, 1, 0, 3, 1, 3, 0, 0, 0, 0, 1, 2, 0, 0, 0, 0}},
	} {
		if got := table.New(parse(t, r.text)).Pack(); !slices.Equal(got, r.want) {
			t.Errorf("%q: %v", r.text, got)
		}
	}
	// A state past 255 has two bytes that are not 0.
	tab := table.New(parse(t, many))
	if tab.Machine().Len() != most || !slices.Contains(tab.Actions(tab.Machine().Go(0, 1), 2), api.Action{Kind: api.Shift, N: tab.Machine().Go(tab.Machine().Go(0, 1), 2)}) {
		t.Error("many")
	}
	far := 0
	for state := range most {
		for term := range 9 {
			for _, a := range tab.Actions(state, term) {
				if a.Kind == api.Shift && a.N > 255 {
					far++
				}
			}
		}
	}
	if far < 100 {
		t.Error(far)
	}
	for _, m := range []*states.Machine{parse(t, many), parse(t, full), machine(t, crowded())} {
		tab := table.New(m)
		if got := tab.Pack(); !slices.Equal(got, row(tab)) {
			t.Error(m.Grammar(), got)
		}
	}
}

// row packs a table by its Actions.
func row(t *table.Table) []byte {
	var b []byte
	for state := range t.Machine().Len() {
		for term := range 1 + len(t.Machine().Grammar().Terms) {
			l := t.Actions(state, term)
			b = append(b, byte(len(l)))
			for _, a := range l {
				b = append(b, byte(a.Kind), byte(a.N/256), byte(a.N%256))
			}
		}
	}
	return b
}

// all tells all that a Table does.
func all(t *table.Table) string {
	text := wrong(t) + strings.Join(listed(t), ",") + string(t.Pack())
	for state := range t.Machine().Len() {
		text += "\n" + told(t, state)
	}
	return text
}

func TestUnpack(t *testing.T) { // P13.2
	for _, m := range []*states.Machine{parse(t, "S: a"), parse(t, "S:\nT: a"), parse(t, "S: S S | a"), parse(t, many), parse(t, full), machine(t, crowded())} {
		tab := table.New(m)
		got, e := table.Unpack(m, tab.Pack())
		if e != api.OK || got == nil {
			t.Fatal(m.Grammar(), got, e)
		}
		if all(got) != all(tab) || got.Machine() != m {
			t.Errorf("%s\nnot\n%s", all(got), all(tab))
		}
	}
	// A row of one Machine is one of another, if they are alike.
	if got, e := table.Unpack(parse(t, "S: a S | b"), table.New(parse(t, "S: c S | d")).Pack()); got == nil || e != api.OK {
		t.Error(e)
	}
}

func TestUnpackForm(t *testing.T) { // P13.2: ErrForm
	refused := func(m *states.Machine, b []byte) {
		t.Helper()
		if got, e := table.Unpack(m, b); got != nil || e != api.ErrForm {
			t.Error(b, got, e)
		}
	}
	for _, text := range []string{"S: a", "S:\nT: a", "S: S S | a", "S: S S S | S S | a |"} {
		m := parse(t, text)
		b := table.New(m).Pack()
		refused(m, nil)
		refused(m, []byte{})
		for n := range b { // too short
			refused(m, b[:n:n])
		}
		for _, x := range []byte{0, 1, 255} { // too long
			refused(m, append(slices.Clone(b), x))
		}
		refused(m, append(slices.Clone(b), b...))
		for i := range b { // each byte another one
			for _, x := range []byte{0, 1, 2, 3, 4, 127, 128, 255, b[i] + 1, b[i] - 1} {
				if x != b[i] {
					c := slices.Clone(b)
					c[i] = x
					refused(m, c)
				}
			}
			refused(m, slices.Delete(slices.Clone(b), i, i+1))
		}
	}
	// What another Machine packs.
	refused(parse(t, "S: a b"), table.New(parse(t, "S: a")).Pack())
	refused(parse(t, "S: a"), table.New(parse(t, "S: a\nT: b")).Pack())
	refused(parse(t, "S: a\nT: b"), table.New(parse(t, "S: a")).Pack())
	// Of the right form, with fewer actions, in another order, or one twice.
	m := parse(t, "S: S | a")
	refused(m, []byte{0, 1, 1, 0, 1, 1, 2, 0, 1, 0, 1, 2, 0, 0, 0})
	refused(m, []byte{0, 1, 1, 0, 1, 1, 2, 0, 1, 0, 2, 3, 0, 0, 2, 0, 0, 0})
	refused(m, []byte{0, 1, 1, 0, 1, 1, 2, 0, 1, 0, 3, 2, 0, 0, 2, 0, 0, 3, 0, 0, 0})
	refused(m, []byte{0, 0, 0, 0, 0, 0})
}

func TestMemory(t *testing.T) { // R4
	m := parse(t, "S: S S | a | b T\nT: a |")
	tab := table.New(m)
	was := all(tab)
	for state := range m.Len() {
		for term := range 3 {
			l := tab.Actions(state, term)
			l = l[:cap(l)]
			for i := range l {
				l[i] = api.Action{Kind: 9, N: 9}
			}
		}
		l := tab.Errors(state)
		l = l[:cap(l)]
		for i := range l {
			l[i] = 9
		}
	}
	l := tab.Conflicts()
	l = l[:cap(l)]
	for i := range l {
		l[i] = api.Conflict{State: 9, A: api.Action{Kind: 9}}
	}
	b := tab.Pack()
	b = b[:cap(b)]
	for i := range b {
		b[i] = 9
	}
	if got := all(tab); got != was {
		t.Errorf("%q\nnot\n%q", got, was)
	}
	// What is handed in, with room behind it.
	row := append(tab.Pack(), 7, 8, 9)
	in := row[:len(row)-3]
	two, e := table.Unpack(m, in)
	if e != api.OK || all(two) != was || !slices.Equal(row[len(in):], []byte{7, 8, 9}) || !slices.Equal(in, tab.Pack()) {
		t.Error(e, row)
	}
	for i := range row {
		row[i] = 9
	}
	if got := all(two); got != was {
		t.Errorf("%q\nnot\n%q", got, was)
	}
	// A piece of a right row is none, whatever stands behind its length.
	row = tab.Pack()
	if two, e := table.Unpack(m, row[:len(row)-1]); two != nil || e != api.ErrForm {
		t.Error(two, e)
	}
}

func TestSame(t *testing.T) { // R5: of the same Machine, of another one of the same grammar, asked again
	for _, text := range []string{"S: C C\nC: c C | d", "S: S S S | S S | a |", full} {
		m := parse(t, text)
		was := all(table.New(m))
		for range 3 {
			tab := table.New(m)
			if all(tab) != was || all(tab) != was || all(table.New(parse(t, text))) != was {
				t.Error(text)
			}
		}
	}
}
