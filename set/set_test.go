package set_test

import (
	"math"
	"slices"
	"testing"

	"exegete/set"
)

const full = set.Set(math.MaxUint64)

// others are never in a set; 64 and what is a multiple of it more would be a digit, if a shift wrapped round.
func others() []int {
	return []int{-1, -2, -63, -64, -65, 64, 65, 100, 127, 128, 1 << 32, 1<<32 + 3, math.MaxInt, math.MinInt, math.MinInt + 1}
}

// sets are the edges, and some hundred by a fixed rule.
func sets() []set.Set {
	l := []set.Set{0, 1, 2, 3, 1 << 31, 1 << 32, 1 << 62, 1 << 63, 1<<63 | 1, full, full - 1, full >> 1, full &^ (1<<32 - 1), 1<<32 - 1, 0x5555555555555555, 0xaaaaaaaaaaaaaaaa}
	x := uint64(1)
	for range 100 {
		x = x*6364136223846793005 + 1442695040888963407
		l = append(l, set.Set(x), set.Set(x&(x>>7)))
	}
	return l
}

// digits reads a set in another way: digit by digit, by halving.
func digits(s set.Set) [64]bool {
	var d [64]bool
	for n := range d {
		d[n] = s%2 == 1
		s /= 2
	}
	return d
}

func TestOf(t *testing.T) { // P2.1: each number a digit, 0 the lowest
	for i, r := range []struct {
		l    []int
		want set.Set
	}{
		{nil, 0},
		{[]int{}, 0},
		{[]int{0}, 1},
		{[]int{1}, 2},
		{[]int{3, 1}, 10},
		{[]int{1, 3}, 10},
		{[]int{3, 1, 3, 3, 1}, 10},
		{[]int{31}, 1 << 31},
		{[]int{32}, 1 << 32},
		{[]int{63}, 1 << 63},
		{[]int{63, 0}, 1<<63 | 1},
		{others(), 0},
		{append(others(), 5), 32},
		{append([]int{5}, others()...), 32},
		{[]int{-1, 0, 64, 63, 65}, 1<<63 | 1},
	} {
		if got := set.Of(r.l...); got != r.want {
			t.Error(i, uint64(got))
		}
	}
	var all []int
	for n := range 64 {
		all = append(all, n)
		if got := set.Of(n); got != 1<<n {
			t.Error(n, uint64(got))
		}
	}
	if got := set.Of(all...); got != full {
		t.Error(uint64(got))
	}
}

func TestHas(t *testing.T) { // P2.1
	for _, s := range sets() {
		d := digits(s)
		for n, want := range d {
			if s.Has(n) != want {
				t.Error(uint64(s), n)
			}
		}
		for _, n := range others() {
			if s.Has(n) {
				t.Error(uint64(s), n)
			}
		}
	}
}

func TestWith(t *testing.T) { // P2.1
	for _, s := range sets() {
		for n := range 64 {
			want := digits(s)
			want[n] = true
			if got := s.With(n); digits(got) != want {
				t.Error(uint64(s), n, uint64(got))
			}
		}
		for _, n := range others() {
			if got := s.With(n); got != s {
				t.Error(uint64(s), n, uint64(got))
			}
		}
	}
}

func TestTwo(t *testing.T) { // P2.1: Join, Both, Less, In
	for _, s := range sets() {
		for _, u := range sets() {
			ds, du := digits(s), digits(u)
			var join, both, less [64]bool
			in := true
			for n := range 64 {
				join[n] = ds[n] || du[n]
				both[n] = ds[n] && du[n]
				less[n] = ds[n] && !du[n]
				in = in && (!ds[n] || du[n])
			}
			if digits(s.Join(u)) != join || digits(s.Both(u)) != both || digits(s.Less(u)) != less || s.In(u) != in {
				t.Fatal(uint64(s), uint64(u))
			}
		}
	}
}

func TestTwoByHand(t *testing.T) { // P2.1
	a, b := set.Of(0, 1, 63), set.Of(1, 2, 63)
	if got := a.Join(b); got != set.Of(0, 1, 2, 63) {
		t.Error("Join", got.List())
	}
	if got := a.Both(b); got != set.Of(1, 63) {
		t.Error("Both", got.List())
	}
	if got := a.Less(b); got != set.Of(0) {
		t.Error("Less", got.List())
	}
	if got := b.Less(a); got != set.Of(2) {
		t.Error("Less", got.List())
	}
	for i, r := range []struct {
		s, t set.Set
		want bool
	}{
		{0, 0, true},
		{0, a, true},
		{a, 0, false},
		{a, a, true},
		{a, b, false},
		{set.Of(1, 63), a, true},
		{a, set.Of(1, 63), false},
		{a, full, true},
		{full, full, true},
		{full, full >> 1, false},
		{set.Of(63), full >> 1, false},
	} {
		if got := r.s.In(r.t); got != r.want {
			t.Error(i, got)
		}
	}
}

func TestList(t *testing.T) { // P2.1: rising, each once; Count is how many
	for i, r := range []struct {
		s    set.Set
		want []int
	}{
		{0, nil},
		{1, []int{0}},
		{1 << 63, []int{63}},
		{set.Of(3, 1), []int{1, 3}},
		{set.Of(63, 32, 31, 0, 32), []int{0, 31, 32, 63}},
		{set.Of(others()...), nil},
	} {
		if got := r.s.List(); !slices.Equal(got, r.want) || r.s.Count() != len(r.want) {
			t.Error(i, got, r.s.Count())
		}
	}
	for _, s := range sets() {
		var want []int
		for n, is := range digits(s) {
			if is {
				want = append(want, n)
			}
		}
		if got := s.List(); !slices.Equal(got, want) || s.Count() != len(want) {
			t.Error(uint64(s), got, s.Count())
		}
		if got := set.Of(s.List()...); got != s {
			t.Error(uint64(s), uint64(got))
		}
	}
	if full.Count() != 64 || set.Set(0).Count() != 0 {
		t.Error("Count")
	}
}

// TestSame: a set is a value: no call changes the one it is asked of.
func TestSame(t *testing.T) {
	s, u := set.Of(1, 2), set.Of(2, 3)
	s.With(9)
	s.Join(u)
	s.Both(u)
	s.Less(u)
	s.In(u)
	s.List()
	s.Count()
	if s != 6 || u != 12 {
		t.Error(s.List(), u.List())
	}
}

// TestMemory: R4: what is handed in stays, what lies behind its length is not read; each list handed out is new.
func TestMemory(t *testing.T) {
	whole := []int{5, -1, 5, 7, 64}
	if got := set.Of(whole[:3]...); got != 32 {
		t.Error(got.List())
	}
	if !slices.Equal(whole, []int{5, -1, 5, 7, 64}) {
		t.Error(whole)
	}
	s := set.Of(4, 2)
	first := s.List()
	first[0] = 99
	_ = append(first[:1], 98)
	if got := s.List(); !slices.Equal(got, []int{2, 4}) || s != 20 {
		t.Error(got)
	}
}
