package cost_test

import (
	"math"
	"math/big"
	"testing"

	"exegete/cost"
)

var (
	none    = math.NaN()
	endless = math.Inf(1)
	below   = math.Inf(-1)
	minus   = math.Copysign(0, -1)
	tiny    = math.SmallestNonzeroFloat64
	huge    = math.MaxFloat64
)

// costs and others are right and wrong for every call of the package.
func costs() []float64 {
	return []float64{0, tiny, 0.1, 1, 2.5, 1e14, 1e300, huge, endless}
}

func others() []float64 {
	// A NaN has a sign too, which makes no cost of it.
	return []float64{minus, -tiny, -0.1, -1, -huge, below, none, math.Copysign(none, -1)}
}

// same holds floats against each other with the sign of nought; all NaN are alike.
func same(a, b float64) bool {
	return a != a && b != b || a == b && math.Signbit(a) == math.Signbit(b)
}

func TestRight(t *testing.T) { // P1.1
	for _, x := range costs() {
		if !cost.Right(x) {
			t.Error(x, "is a cost")
		}
	}
	for _, x := range others() {
		if cost.Right(x) {
			t.Error(x, "is none")
		}
	}
}

func TestEndless(t *testing.T) { // P1.1
	if x := cost.Endless(); !math.IsInf(x, 1) || !cost.Right(x) {
		t.Error(x)
	}
}

func TestSum(t *testing.T) { // P1.1
	for i, r := range []struct {
		l    []float64
		want float64
	}{
		{nil, 0},
		{[]float64{}, 0},
		{[]float64{0}, 0},
		{[]float64{3}, 3},
		{[]float64{1, 2.5, 4}, 7.5},
		{[]float64{tiny}, tiny},
		{[]float64{1, endless}, endless},
		{[]float64{endless, 1, endless}, endless},
		{[]float64{huge, huge}, endless},
		// From the first on: from the last on the two small ones would be kept.
		{[]float64{1 << 53, 1, 1}, 1 << 53},
		{[]float64{1, 1, 1 << 53}, 1<<53 + 2},
		{[]float64{0.1, 0.2, 0.3}, 0.6000000000000001},
		{[]float64{0.3, 0.2, 0.1}, 0.6},
	} {
		if got := cost.Sum(r.l...); !same(got, r.want) {
			t.Error(i, got)
		}
	}
}

func TestSumOfNone(t *testing.T) { // P1.1
	for _, x := range others() {
		for _, l := range [][]float64{{x}, {x, 1}, {1, x}, {0, x, 0}, {endless, x}, {x, endless}, {huge, huge, x}, {5, x, x}} {
			if got := cost.Sum(l...); got == got {
				t.Error(l, got)
			}
		}
	}
}

func TestLeast(t *testing.T) { // P1.1
	for i, r := range []struct {
		l    []float64
		want int
	}{
		{nil, -1},
		{[]float64{}, -1},
		{[]float64{0}, 0},
		{[]float64{huge}, 0},
		{[]float64{3, 1, 2}, 1},
		{[]float64{2, 1, 1, 2}, 1},
		{[]float64{3, 2, 1}, 2},
		{[]float64{0, 0}, 0},
		{[]float64{minus, 0}, 1},
		{[]float64{tiny, 0, minus}, 1},
		{[]float64{endless}, -1},
		{[]float64{endless, endless, none}, -1},
		{[]float64{endless, huge}, 1},
		{[]float64{none, 7, none}, 1},
		{[]float64{-1, below, 4, 9}, 2},
		{others(), -1},
		{append(others(), 1, 1), 8},
	} {
		if got := cost.Least(r.l...); got != r.want {
			t.Error(i, got)
		}
	}
}

// TestListsStay: R4: what is handed in stays as it is, and what lies behind its length is not read.
func TestListsStay(t *testing.T) {
	whole := []float64{4, 2, 3, none, 1}
	if got := cost.Sum(whole[:3]...); got != 9 {
		t.Error(got)
	}
	if got := cost.Least(whole[:3]...); got != 1 {
		t.Error(got)
	}
	for i, x := range []float64{4, 2, 3, none, 1} {
		if !same(whole[i], x) {
			t.Error(i, whole[i])
		}
	}
}

func TestPart(t *testing.T) { // P1.2
	const most = 1 << 30
	for _, r := range []struct {
		some, all int
		want      float64
	}{
		{0, 0, 1},
		{1, 0, endless},
		{most, 0, endless},
		{0, 1, 0},
		{0, most, 0},
		{1, 1, 1},
		{1, 2, 0.5},
		{3, 2, 1.5},
		{1, 3, 1.0 / 3},
		{2, 3, 2.0 / 3},
		{most, most, 1},
		{most, 1, most},
		{1, most, 1.0 / most},
		{-1, 1, none},
		{1, -1, none},
		{-1, 0, none},
		{0, -1, none},
		{-1, -1, none},
		{most + 1, 1, none},
		{1, most + 1, none},
		{most + 1, 0, none},
		{0, most + 1, none},
		{math.MaxInt, math.MaxInt, none},
		{math.MinInt, math.MinInt, none},
		{math.MinInt, 0, none},
	} {
		if got := cost.Part(r.some, r.all); !same(got, r.want) {
			t.Error(r.some, r.all, got)
		}
	}
}

func TestPrint(t *testing.T) { // P1.2
	for _, r := range []struct {
		x    float64
		want string
	}{
		{0, "0.0"},
		{tiny, "0.0"},
		{0.09, "0.0"},
		{0.1, "0.1"},
		{0.25, "0.2"},
		// The float of 0.3 is below three tenths, but times 10, as float64 multiplies, it is 3.
		{0.3, "0.3"},
		{math.Nextafter(0.3, 0), "0.2"},
		{0.99, "0.9"},
		{math.Nextafter(1, 0), "0.9"},
		{1, "1.0"},
		{1.05, "1.0"},
		{1.99, "1.9"},
		{2.3, "2.3"},
		{9.96, "9.9"},
		{10, "10.0"},
		{123.45, "123.4"},
		{1 << 30, "1073741824.0"},
		{1.1, "1.1"},
		{9e13, "90000000000000.0"},
		{99999999999999, "99999999999999.0"},
		{math.Nextafter(1e14, 0), "99999999999999.9"},
		{1e14, "big"},
		{math.Nextafter(1e14, endless), "big"},
		{1e18, "big"},
		{1e300, "big"},
		{huge, "big"},
		{endless, "endless"},
		{cost.Part(1, 2), "0.5"},
		{cost.Part(0, 0), "1.0"},
		{cost.Part(1, 0), "endless"},
		{cost.Part(2, 3), "0.6"},
		{cost.Part(-1, 1), "none"},
	} {
		if got := cost.Print(r.x); got != r.want {
			t.Error(r.x, got, r.want)
		}
	}
	for _, x := range others() {
		if got := cost.Print(x); got != "none" {
			t.Error(x, got)
		}
	}
}

// TestPrintTenths holds Print against the same tenths reckoned another way, in whole numbers without bounds.
func TestPrintTenths(t *testing.T) { // P1.2
	for _, scale := range []float64{0.01, 0.1, 1, 7, 1000, 1e9, 1e11} {
		for i := range 2000 {
			x := float64(i) * scale / 3
			if x >= 1e14 {
				continue
			}
			n, _ := new(big.Float).SetFloat64(x * 10).Int(nil)
			s := n.String()
			if len(s) < 2 {
				s = "0" + s
			}
			if got, want := cost.Print(x), s[:len(s)-1]+"."+s[len(s)-1:]; got != want {
				t.Error(x, got, want)
			}
		}
	}
}
