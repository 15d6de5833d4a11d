package run_test

import (
	"math"
	"slices"
	"strconv"
	"strings"
	"testing"

	"exegete/api"
	"exegete/gram"
	"exegete/run"
	"exegete/states"
	"exegete/table"
)

const (
	non  = api.Non
	end  = api.End
	most = api.MaxStates
)

func parse(t *testing.T, text string) *table.Table {
	t.Helper()
	g, line, col, e := gram.Parse(text)
	if e != api.OK {
		t.Fatalf("%q: error %d at %d, %d", text, e, line, col)
	}
	m, e := states.New(g, most)
	if e != api.OK {
		t.Fatalf("%q: error %d", text, e)
	}
	return table.New(m)
}

// word reads the terminals of a word by their names, each of one letter.
func word(t *testing.T, g api.Grammar, text string) []int {
	t.Helper()
	var l []int
	for _, name := range strings.Split(text, "") {
		sym, ok := gram.Find(g, name)
		if !ok || sym >= non {
			t.Fatal(g, name)
		}
		l = append(l, sym)
	}
	return l
}

// one writes an action: s and the state, r and the production, or acc.
func one(a api.Action) string {
	switch {
	case a.Kind == api.Shift:
		return "s" + strconv.Itoa(a.N)
	case a.Kind == api.Reduce:
		return "r" + strconv.Itoa(a.N)
	case a == api.Action{Kind: api.Accept}:
		return "acc"
	}
	return "?"
}

// told runs over w, by each of the calls, and writes what they tell, such as `true 2 1: s1 r0 acc: 0 2`.
func told(t *testing.T, tab *table.Table, w []int) string {
	t.Helper()
	r, e := run.Run(tab, w)
	steps, e1 := run.Steps(tab, w)
	stack, e2 := run.Stack(tab, w)
	if e != api.OK || e1 != api.OK || e2 != api.OK {
		t.Fatal(tab.Machine().Grammar(), w, e, e1, e2)
	}
	text := strconv.FormatBool(r.Accepted) + " " + strconv.Itoa(r.State) + " " + strconv.Itoa(r.Place) + ":"
	for _, a := range steps {
		text += " " + one(a)
	}
	text += ":"
	for _, state := range stack {
		text += " " + strconv.Itoa(state)
	}
	return text
}

// refused tells that each of the calls answers an error, and nothing beside.
func refused(t *testing.T, tab *table.Table, w []int, want api.Errno) {
	t.Helper()
	if r, e := run.Run(tab, w); r != (run.Result{}) || e != want {
		t.Error(w, r, e)
	}
	if l, e := run.Steps(tab, w); len(l) != 0 || e != want {
		t.Error(w, l, e)
	}
	if l, e := run.Stack(tab, w); len(l) != 0 || e != want {
		t.Error(w, l, e)
	}
}

// TestRun: P14.1: what is done, where it ends, and the stack there.
func TestRun(t *testing.T) {
	for _, r := range []struct{ text, word, want string }{
		{"S: a", "", "false 0 0:: 0"},
		{"S: a", "a", "true 2 1: s1 r0 acc: 0 2"},
		{"S: a", "aa", "false 1 1: s1: 0 1"}, // nothing is reduced where another terminal stands
		{"S: a", "aaa", "false 1 1: s1: 0 1"},
		// By a 1, by b 2, by S 3; of 1 by S 4.
		{"S: a S | b", "", "false 0 0:: 0"},
		{"S: a S | b", "b", "true 3 1: s2 r1 acc: 0 3"},
		{"S: a S | b", "a", "false 1 1: s1: 0 1"},
		{"S: a S | b", "aab", "true 3 3: s1 s1 s2 r1 r0 r0 acc: 0 3"},
		{"S: a S | b", "aaa", "false 1 3: s1 s1 s1: 0 1 1 1"},
		{"S: a S | b", "aba", "false 2 2: s1 s2: 0 1 2"},
		{"S: a S | b", "bb", "false 2 1: s2: 0 2"},
		// A production without symbols takes no state away.
		{"S:\nT: a", "", "true 1 0: r0 acc: 0 1"},
		{"S:\nT: a", "a", "false 0 0:: 0"},
		{"S: T U V\nT:\nU: a\nV: | b", "a", "true 1 1: r1 s3 r2 r3 r0 acc: 0 1"},
		{"S: T U V\nT:\nU: a\nV: | b", "ab", "true 1 2: r1 s3 r2 s5 r4 r0 acc: 0 1"},
		{"S: T U V\nT:\nU: a\nV: | b", "", "false 0 0:: 0"},
		{"S: T U V\nT:\nU: a\nV: | b", "abb", "false 5 2: r1 s3 r2 s5: 0 2 4 5"},
		// From the left, and behind some symbols: by a 1, by S 2; of 2 by a 3.
		{"S: S a | a", "aaa", "true 2 3: s1 r1 s3 r0 s3 r0 acc: 0 2"},
		{"S: S a |", "", "true 1 0: r1 acc: 0 1"},
		{"S: S a |", "aa", "true 1 2: r1 s2 r0 s2 r0 acc: 0 1"},
		// The Go is that of the state on top then: by U 6 under a, 4 else.
		{"S: a U c | U d\nU: b", "abc", "true 3 3: s1 s5 r2 s8 r0 acc: 0 3"},
		{"S: a U c | U d\nU: b", "bd", "true 3 2: s2 r2 s7 r1 acc: 0 3"},
		{"S: a U c | U d\nU: b", "abd", "false 5 2: s1 s5: 0 1 5"},
		{"S: a U c | U d\nU: b", "ab", "false 5 2: s1 s5: 0 1 5"},
		// Where it stops, all that may be reduced has been.
		{"S: T a b\nT: c |", "ca", "false 4 2: s1 r1 s4: 0 3 4"},
		// By the productions of which words come.
		{"S: a U | a | U\nU: U a", "a", "true 2 1: s1 r1 acc: 0 2"},
		{"S: a U | a | U\nU: U a", "aa", "false 1 1: s1: 0 1"},
	} {
		tab := parse(t, r.text)
		if got := told(t, tab, word(t, tab.Machine().Grammar(), r.word)); got != r.want {
			t.Errorf("%q, %s: %s, not %s", r.text, r.word, got, r.want)
		}
	}
}

// TestFields: P14.1: each field of what is told.
func TestFields(t *testing.T) {
	tab := parse(t, "S: a S | b")
	if r, e := run.Run(tab, nil); r != (run.Result{}) || e != api.OK {
		t.Error(r, e)
	}
	if r, e := run.Run(tab, []int{1, 2}); r != (run.Result{Accepted: true, State: 3, Place: 2}) || e != api.OK {
		t.Error(r, e)
	}
	if r, e := run.Run(tab, []int{1, 1}); r != (run.Result{State: 1, Place: 2}) || e != api.OK {
		t.Error(r, e)
	}
	want := []api.Action{{Kind: api.Shift, N: 1}, {Kind: api.Shift, N: 2}, {Kind: api.Reduce, N: 1}, {Kind: api.Reduce, N: 0}, {Kind: api.Accept, N: 0}}
	if l, e := run.Steps(tab, []int{1, 2}); !slices.Equal(l, want) || e != api.OK {
		t.Error(l, e)
	}
	if l, e := run.Steps(tab, []int{}); len(l) != 0 || e != api.OK {
		t.Error(l, e)
	}
	if l, e := run.Stack(tab, []int{1, 1}); !slices.Equal(l, []int{0, 1, 1}) || e != api.OK {
		t.Error(l, e)
	}
	if l, e := run.Stack(tab, nil); !slices.Equal(l, []int{0}) || e != api.OK {
		t.Error(l, e)
	}
}

// far are numbers that are no terminal in any grammar.
func far() []int {
	return []int{end, -1, -2, 9, non - 1, non, non + 1, -non, 1 << 32, 1<<32 + 1, math.MinInt, math.MinInt + 1, math.MaxInt}
}

func TestRefused(t *testing.T) { // P14.1: ErrConflict, ErrArg
	calm, torn := parse(t, "S: a S | b\nT: c"), parse(t, "S: S S | a")
	for _, sym := range append(far(), 4, 8) {
		refused(t, calm, []int{sym}, api.ErrArg)
		refused(t, calm, []int{1, 2, sym}, api.ErrArg) // behind the place where it would stop
		refused(t, calm, []int{2, 2, 2, sym, 1}, api.ErrArg)
		refused(t, torn, []int{sym}, api.ErrConflict) // ahead of ErrArg
		refused(t, torn, []int{1, sym}, api.ErrConflict)
	}
	for _, n := range []int{api.MaxWord + 1, 2 * api.MaxWord, 1 << 16} {
		refused(t, calm, slices.Repeat([]int{1}, n), api.ErrArg)
		refused(t, calm, slices.Repeat([]int{2}, n), api.ErrArg)
		refused(t, torn, slices.Repeat([]int{1}, n), api.ErrConflict)
	}
	for _, w := range [][]int{nil, {}, {1}, {1, 1}} { // whether or not the conflict would be met
		refused(t, torn, w, api.ErrConflict)
	}
	for _, text := range []string{"S: T | U\nT: a\nU: a", "S: S | a", "S: a T | b\nT: T T |"} {
		refused(t, parse(t, text), []int{1}, api.ErrConflict)
	}
	if got := told(t, calm, []int{3}); got != "false 0 0:: 0" { // a terminal, though of no word
		t.Error(got)
	}
}

// TestLong: P14.1, P14.2: words of MaxWord.
func TestLong(t *testing.T) {
	const n = api.MaxWord
	right, left := parse(t, "S: a S | b"), parse(t, "S: S a | a")
	w := append(slices.Repeat([]int{1}, n-1), 2)
	if r, e := run.Run(right, w); r != (run.Result{Accepted: true, State: 3, Place: n}) || e != api.OK {
		t.Error(r, e)
	}
	if l, e := run.Steps(right, w); len(l) != 2*n+1 || e != api.OK || l[n] != (api.Action{Kind: api.Reduce, N: 1}) || l[2*n] != (api.Action{Kind: api.Accept}) {
		t.Error(l, e)
	}
	w[n-1] = 1
	if r, e := run.Run(right, w); r != (run.Result{State: 1, Place: n}) || e != api.OK {
		t.Error(r, e)
	}
	if l, e := run.Stack(right, w); !slices.Equal(l, append([]int{0}, slices.Repeat([]int{1}, n)...)) || e != api.OK {
		t.Error(l, e)
	}
	if r, e := run.Run(left, w); r != (run.Result{Accepted: true, State: 2, Place: n}) || e != api.OK {
		t.Error(r, e)
	}
	if l, e := run.Stack(left, w); !slices.Equal(l, []int{0, 2}) || e != api.OK {
		t.Error(l, e)
	}
}

// TestMany: P14.2: it ends, though there is much to do of nothing.
func TestMany(t *testing.T) {
	tab := parse(t, "S: a S T | b\nT: U U U U U U\nU: V V V V V V\nV: W W W W W W\nW: X X X X X X\nX:")
	perS := 6*6*6*6 + 6*6*6 + 6*6 + 6 + 1
	w := []int{1, 1, 1, 2}
	l, e := run.Steps(tab, w)
	if e != api.OK || len(l) != 4+3*(perS+1)+1+1 {
		t.Error(len(l), e)
	}
	if r, e := run.Run(tab, w); !r.Accepted || r.Place != 4 || e != api.OK {
		t.Error(r, e)
	}
}

func TestMemory(t *testing.T) { // R4
	tab := parse(t, "S: a S | b")
	row := []int{1, 1, 2, 77, 78}
	in := row[:3]
	was := told(t, tab, in)
	if was != "true 3 3: s1 s1 s2 r1 r0 r0 acc: 0 3" || !slices.Equal(row, []int{1, 1, 2, 77, 78}) {
		t.Error(was, row)
	}
	if got := told(t, tab, row[:2]); got != "false 1 2: s1 s1: 0 1 1" { // what stands behind is not read
		t.Error(got)
	}
	steps, _ := run.Steps(tab, in)
	stack, _ := run.Stack(tab, in)
	steps, stack = steps[:cap(steps)], stack[:cap(stack)]
	for i := range steps {
		steps[i] = api.Action{Kind: 9, N: 9}
	}
	for i := range stack {
		stack[i] = 9
	}
	if got := told(t, tab, in); got != was || !slices.Equal(row, []int{1, 1, 2, 77, 78}) {
		t.Error(got, row)
	}
	stack, _ = run.Stack(tab, in)
	steps, _ = run.Steps(tab, in)
	for i := range row {
		row[i] = 9
	}
	if !slices.Equal(stack, []int{0, 3}) || len(steps) != 7 || steps[0] != (api.Action{Kind: api.Shift, N: 1}) {
		t.Error(stack, steps)
	}
}

func TestSame(t *testing.T) { // R5: asked again, in another order, of another table of the same grammar, of one read back
	const text = "S: T U V\nT: | c\nU: a\nV: | b V"
	tab := parse(t, text)
	back, e := table.Unpack(tab.Machine(), tab.Pack())
	if e != api.OK {
		t.Fatal(e)
	}
	words := [][]int{nil, {1}, {2}, {2, 3}, {1, 2, 3, 3}, {3}, {1, 2, 1}, {1, 1}}
	var was []string
	for _, w := range words {
		was = append(was, told(t, tab, w))
	}
	for range 3 {
		for i, w := range slices.Backward(words) {
			for _, x := range []*table.Table{tab, back, parse(t, text)} {
				if got := told(t, x, w); got != was[i] {
					t.Error(w, got, was[i])
				}
			}
		}
	}
}
