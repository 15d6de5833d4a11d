package lang_test

import (
	"math"
	"slices"
	"strings"
	"testing"

	"exegete/api"
	"exegete/gram"
	"exegete/lang"
	"exegete/word"
)

const (
	non       = api.Non
	maxLength = 6
	maxWords  = 500
	maxWord   = 12
	maxAll    = 5
)

func parse(t *testing.T, text string) api.Grammar {
	t.Helper()
	g, line, col, e := gram.Parse(text)
	if e != api.OK {
		t.Fatalf("%q: error %d at %d, %d", text, e, line, col)
	}
	return g
}

// terms are the terminals of a text: their names have one letter each.
func terms(t *testing.T, g api.Grammar, text string) []int {
	t.Helper()
	var l []int
	for _, name := range strings.Split(text, "") {
		sym, ok := gram.Find(g, name)
		if !ok {
			t.Fatal(name)
		}
		l = append(l, sym)
	}
	return l
}

// told tells words as one text, with commas between: so “ is no word, and `,` stands behind each.
func told(g api.Grammar, l [][]int) string {
	text := ""
	for _, w := range l {
		for _, sym := range w {
			text += gram.Name(g, sym)
		}
		text += ","
	}
	return text
}

func sameWords(a, b [][]int) bool {
	return slices.EqualFunc(a, b, slices.Equal)
}

func rising(l [][]int) bool {
	for i := range len(l) - 1 {
		if !word.Less(l[i], l[i+1]) {
			return false
		}
	}
	return true
}

func TestWords(t *testing.T) { // P10.1: Words
	for _, r := range []struct {
		text         string
		length, most int
		want         string
	}{
		{"S: a S | b", 3, 9, "b,ab,aab,"},
		{"S: a S | b", 6, 500, "b,ab,aab,aaab,aaaab,aaaaab,"},
		// At most that length.
		{"S: a S | b", 0, 9, ""},
		{"S: a S | b", 1, 9, "b,"},
		{"S: a S b |", 0, 9, ","},
		{"S: a S b |", 1, 9, ","},
		{"S: a S b |", 2, 9, ",ab,"},
		{"S: a S b |", 5, 9, ",ab,aabb,"},
		{"S: a S b |", 6, 9, ",ab,aabb,aaabbb,"},
		{"S: a a a a a a", 6, 9, "aaaaaa,"},
		{"S: a a a a a a", 5, 9, ""},
		{"S: T T T\nT: a a a", 6, 9, ""},
		// By word.Less: the shorter one ahead, then by the first place where they differ. Terminals are numbered as they come.
		{"S: c a | b b b | c | a b | b | a a c |", 6, 9, ",c,b,ca,ab,aac,bbb,"},
		{"S: b S | a S |", 2, 9, ",b,a,bb,ba,ab,aa,"},
		{"S: S S | a | b", 2, 9, "a,b,aa,ab,ba,bb,"},
		{"S: T U\nT: a | b b\nU: b | a a", 6, 9, "ab,aaa,bbb,bbaa,"},
		// The first most.
		{"S: S S | a | b", 2, 6, "a,b,aa,ab,ba,bb,"},
		{"S: S S | a | b", 2, 5, "a,b,aa,ab,ba,"},
		{"S: S S | a | b", 2, 2, "a,b,"},
		{"S: S S | a | b", 2, 1, "a,"},
		{"S: S S | a | b", 2, 0, ""},
		{"S: S S | a | b", 6, 5, "a,b,aa,ab,ba,"},
		{"S: | a", 6, 1, ","},
		{"S: | a", 6, 0, ""},
		{"S: | a", 0, 0, ""},
		// Each once, however it comes.
		{"S: S S | S | a |", 3, 9, ",a,aa,aaa,"},
		{"S: T | U | a\nT: a | U\nU: T | a b | a", 6, 9, "a,ab,"},
		// Those of the start alone, of terminals alone.
		{"S: T c\nT: a | b b", 6, 9, "ac,bbc,"},
		{"S: c T\nT: a | b b\nU: a c", 6, 9, "ca,cbb,"},
		{"S: a\nT: b", 6, 9, "a,"},
		// What is not fruitful is passed over.
		{"S: a U | b | U | U U\nU: U c | a U", 6, 9, "b,"},
		{"S: a S", 6, 9, ""},
		{"S: S\nT: a", 6, 9, ""},
		{"S: T\nT: S a", 6, 500, ""},
		// Nonterminals that may be empty.
		{"S: T T a T T\nT: b | U\nU: | T", 2, 9, "a,ab,ba,"},
		{"S: T U V\nT: a |\nU: b |\nV: c |", 6, 9, ",a,b,c,ab,ac,bc,abc,"},
		{"S: T a\nT: S |", 3, 9, "a,aa,aaa,"},
		{"S: T\nT:\nU: a", 6, 9, ","},
	} {
		g := parse(t, r.text)
		l, e := lang.Words(g, r.length, r.most)
		if got := told(g, l); e != api.OK || got != r.want {
			t.Errorf("%q, %d, %d: %d %q", r.text, r.length, r.most, e, got)
		}
	}
}

func TestHasBegins(t *testing.T) { // P10.1: Has, Begins
	for _, r := range []struct{ text, has, begins, none string }{ // words with commas: those that come, others that begin one, neither
		{"S: a S | b", "b,ab,aaaab,aaaaaaaaaaab", ",a,aa,aaaaaaaaaaaa", "ba,bb,aba,aabb,baaaaaaaaaaa"},
		{"S: a S b |", ",ab,aabb,aaaaaabbbbbb", "a,aa,aab,aaabb,aaaaaaaaaaaa,aaaaaaaaaaab", "b,ba,abb,aba,aabba,aaaaabbbbbbb"},
		{"S: S b | a", "a,ab,abb,abbbbbbbbbbb", "", "b,aa,ba,abbbbbbbbbba"},
		{"S: S b | a c", "ac,acb", ",a", "aa,c,ab,abc,acc"},
		{"S: S S | a | b", "a,b,abba,abababababab", "", ""},
		{"S: a b | a c d | T\nT: d |", ",ab,acd,d", "a,ac", "b,c,ad,dd,aba,acdd"},
		// The end may be any length away.
		{"S: T T T T T a\nT: U U U U U U\nU: V V V V V V\nV: b b b b b b", "", ",b,bb,bbbbbbbbbbbb", "a,ba,bbbbbbbbbbba"},
		{"S: a T | T\nT: a T b T c | a b c", "abc,aabc,aabcbabcc,aaabcbabcc", ",a,aa,aab,aaaa,aaabc,aabcb,aabcbabc,aaaaaaaaaaaa", "b,c,ac,abb,abca,aabca,aabcc,aabcbb,aaabcc,aabcbabcca"},
		// What is not fruitful is passed over: no word goes on with it.
		{"S: a U | b | U | U U\nU: U c | a U", "b", "", "a,c,ba,aa,ac,bc"},
		{"S: a b U | a c\nU: U", "ac", ",a", "ab,b,c,acc"},
		{"S: U a | a b | b\nU: b U", "ab,b", ",a", "bb,ba,bbb"},
		{"S: a S", "", "", "a,aa,aaaaaaaaaaaa"},
		{"S: U\nU: S a", "", "", "a,aa"},
		// Nonterminals that may be empty.
		{"S: T T a T T\nT: b | U\nU: | T", "a,ab,ba,bab,bbabb", ",b,bb", "aa,bbb,abbb,baba"},
		{"S: T U V\nT: a |\nU: b |\nV: c |", ",a,b,c,ab,ac,bc,abc", "", "aa,ba,ca,cb,abb,aab,abca"},
		{"S: T S T | a\nT: S |", "a,aa,aaa,aaaaaaaaaaaa", "", ""},
		{"S:\nT: a", "", "", "a,aa"},
		// Those of the start alone.
		{"S: a T\nT: b\nU: c S", "ab", ",a", "b,c,ca,cab,ac"},
		{"S: T\nT: S |\nU: a", "", "", "a"},
	} {
		g := parse(t, r.text)
		for i, l := range []string{r.has, r.begins, r.none} {
			if l == "" {
				continue
			}
			for _, text := range strings.Split(l, ",") {
				w := terms(t, g, text)
				if lang.Has(g, w) != (i == 0) || lang.Begins(g, w) != (i < 2) {
					t.Errorf("%q %q: %v, %v", r.text, text, lang.Has(g, w), lang.Begins(g, w))
				}
				for n := range w {
					if i < 2 && !lang.Begins(g, w[:n]) {
						t.Errorf("%q %q", r.text, text[:n])
					}
				}
			}
		}
	}
}

func TestEmptyWord(t *testing.T) { // P10.1: the empty word comes of some, and begins each word that there is
	for _, r := range []struct {
		text        string
		has, begins bool
	}{
		{"S: a", false, true}, {"S: a |", true, true}, {"S:\nT: a", true, true}, {"S: T T\nT: S | U\nU:\nV: a", true, true},
		{"S: S a", false, false}, {"S: T\nT: T\nU: a |", false, false}, {"S: S | a", false, true}, {"S: T S |\nT: a T", true, true},
	} {
		g := parse(t, r.text)
		for _, w := range [][]int{nil, {}} {
			if lang.Has(g, w) != r.has || lang.Begins(g, w) != r.begins {
				t.Error(r.text, lang.Has(g, w), lang.Begins(g, w))
			}
		}
	}
}

func TestAll(t *testing.T) { // P10.1: All
	g := parse(t, "S: a b c")
	for _, r := range []struct {
		terms, length int
		want          string
	}{
		{1, 2, ",a,aa,"}, {1, 0, ","}, {8, 0, ","}, {0, 0, ","}, {0, 5, ","}, {2, 1, ",a,b,"}, {2, 2, ",a,b,aa,ab,ba,bb,"},
		{2, 3, ",a,b,aa,ab,ba,bb,aaa,aab,aba,abb,baa,bab,bba,bbb,"}, {1, 5, ",a,aa,aaa,aaaa,aaaaa,"}, {3, 2, ",a,b,c,aa,ab,ac,ba,bb,bc,ca,cb,cc,"},
	} {
		if got := told(g, lang.All(r.terms, r.length)); got != r.want {
			t.Error(r.terms, r.length, got)
		}
	}
	for terms := range api.MaxTerms + 1 {
		for length := range maxAll + 1 {
			l := lang.All(terms, length)
			want, power := 1, 1
			for range length {
				power *= terms
				want += power
			}
			// As many as there are, each once, all of them such words: so they are all.
			if len(l) != want || !rising(l) || slices.ContainsFunc(l, func(w []int) bool {
				return len(w) > length || slices.ContainsFunc(w, func(sym int) bool { return sym < 1 || sym > terms })
			}) {
				t.Error(terms, length, len(l))
			}
		}
	}
	for _, r := range [][2]int{
		{-1, 2}, {math.MinInt, 2}, {api.MaxTerms + 1, 2}, {math.MaxInt, 2}, {2, -1}, {2, math.MinInt}, {2, maxAll + 1}, {2, math.MaxInt},
		{-1, -1}, {0, -1}, {0, maxAll + 1}, {-1, 0}, {api.MaxTerms + 1, 0}, {math.MaxInt, math.MaxInt},
	} {
		if l := lang.All(r[0], r[1]); len(l) != 0 {
			t.Error(r, len(l))
		}
	}
}

// refused are grammars that gram.Check refuses, each for one thing.
func refused() []api.Grammar {
	a, s := []string{"a"}, []string{"S"}
	rule := func(right ...int) api.Prod { return api.Prod{Left: non, Right: right} }
	many := make([]api.Prod, api.MaxProds+1)
	for i := range many {
		many[i] = rule(1+i%8, 1+i/8)
	}
	return []api.Grammar{
		{}, {Terms: a, Nons: s}, {Nons: s, Prods: []api.Prod{rule()}}, {Terms: a, Prods: []api.Prod{rule(1)}},
		{Terms: a, Nons: s, Prods: []api.Prod{rule(1), rule(1)}},
		{Terms: a, Nons: s, Prods: []api.Prod{rule(1), rule(2)}},
		{Terms: a, Nons: s, Prods: []api.Prod{rule(1), rule(api.End)}},
		{Terms: a, Nons: s, Prods: []api.Prod{rule(1), rule(non + 1)}},
		{Terms: a, Nons: s, Prods: []api.Prod{rule(1), rule(math.MaxInt)}},
		{Terms: a, Nons: s, Prods: []api.Prod{rule(1), rule(math.MinInt)}},
		{Terms: a, Nons: s, Prods: []api.Prod{rule(1), {Left: 1}}},
		{Terms: a, Nons: s, Prods: []api.Prod{rule(1), {Left: non + 1}}},
		{Terms: a, Nons: s, Prods: []api.Prod{rule(1), {Left: math.MaxInt}}},
		{Terms: a, Nons: s, Prods: []api.Prod{rule(1), rule(slices.Repeat([]int{1}, api.MaxRight+1)...)}},
		{Terms: a, Nons: []string{"S", "T"}, Prods: []api.Prod{rule(1)}},
		{Terms: a, Nons: []string{"S", "S"}, Prods: []api.Prod{rule(1), {Left: non + 1}}},
		{Terms: []string{"A"}, Nons: s, Prods: []api.Prod{rule(1)}},
		{Terms: a, Nons: []string{"s"}, Prods: []api.Prod{rule(1)}},
		{Terms: strings.Split("abcdefghi", ""), Nons: s, Prods: []api.Prod{rule(1)}},
		{Terms: strings.Split("abcdefgh", ""), Nons: s, Prods: many},
	}
}

func TestWrong(t *testing.T) { // P10.1: each wrong in one thing
	g := parse(t, "S: S S | a | b |")
	wrong := func(g api.Grammar, length, most int) {
		t.Helper()
		if l, e := lang.Words(g, length, most); len(l) != 0 || e != api.ErrArg {
			t.Error(length, most, l, e)
		}
	}
	for _, n := range []int{-1, math.MinInt, math.MaxInt} {
		wrong(g, n, 9)
		wrong(g, 2, n)
		wrong(g, n, n)
		wrong(g, n, 0)
		wrong(g, 0, n)
	}
	for _, n := range []int{maxLength + 1, maxLength + 2, 100} {
		wrong(g, n, 9)
		wrong(g, n, 0)
	}
	for _, n := range []int{maxWords + 1, maxWords + 2, 100000} {
		wrong(g, 2, n)
		wrong(g, 0, n)
	}
	for i, bad := range refused() {
		wrong(bad, 3, 9)
		wrong(bad, 0, 0)
		wrong(bad, -1, 501)
		for _, w := range [][]int{nil, {}, {1}, {1, 1}, {2}, slices.Repeat([]int{1}, 7)} {
			if lang.Has(bad, w) || lang.Begins(bad, w) {
				t.Error(i, w)
			}
		}
	}
	for _, sym := range []int{api.End, -1, 3, 9, non - 1, non, non + 1, math.MinInt, math.MaxInt} {
		for _, w := range [][]int{{sym}, {sym, 1}, {1, sym}, {1, 2, sym, 1}, append(slices.Repeat([]int{1}, maxWord-1), sym)} {
			if lang.Has(g, w) || lang.Begins(g, w) {
				t.Error(w)
			}
		}
	}
	for _, n := range []int{maxWord + 1, maxWord + 2, 100, 100000} {
		if w := slices.Repeat([]int{1}, n); lang.Has(g, w) || lang.Begins(g, w) {
			t.Error(n)
		}
	}
}

func TestEdges(t *testing.T) { // P10.1: the last that may be
	g := parse(t, "S: S S | a | b |")
	for _, n := range []int{maxWord - 1, maxWord} {
		for sym := 1; sym <= 2; sym++ {
			if w := slices.Repeat([]int{sym}, n); !lang.Has(g, w) || !lang.Begins(g, w) {
				t.Error(w)
			}
		}
	}
	if l, e := lang.Words(g, maxLength, maxWords); len(l) != 127 || e != api.OK || !rising(l) {
		t.Error(len(l), e)
	}
	if l, e := lang.Words(g, maxLength, 126); len(l) != 126 || e != api.OK || !slices.Equal(l[125], []int{2, 2, 2, 2, 2, 1}) {
		t.Error(l, e)
	}
	// As much of a grammar as may be.
	full := parse(t, "A: B C D E F G\nB: a | b | c | d | e | f | g | h\nC: B\nD: C\nE: D | H\nF: E\nG: F\nH: a | b | c | d | e | f | g | B C D E F G | ")
	if len(full.Prods) != api.MaxProds || len(full.Terms) != api.MaxTerms || len(full.Nons) != api.MaxNons {
		t.Fatal(full)
	}
	l, e := lang.Words(full, maxLength, maxWords)
	if e != api.OK || len(l) != maxWords || !rising(l) {
		t.Fatal(len(l), e)
	}
	// E, F and G may be empty, and no others: three terminals at least, so at most 512 words of three.
	if want := lang.All(8, 3)[1+8+64:]; !sameWords(l, want[:maxWords]) {
		t.Error(l)
	}
	if w := []int{8, 7, 6, 5, 4, 3}; !lang.Has(full, w) || !lang.Has(full, w[:3]) || lang.Has(full, w[:2]) || !lang.Begins(full, w[:2]) {
		t.Error(w)
	}
	// Many of the greatest length.
	six := parse(t, "S: T T T T T T\nT: a | b | c | d | e | f | g | h")
	want := lang.All(8, 3)[1+8+64:]
	for i := range want {
		want[i] = append([]int{1, 1, 1}, want[i]...)
	}
	for _, n := range []int{0, 1, 8, 9, maxWords - 1, maxWords} {
		if l, e := lang.Words(six, maxLength, n); e != api.OK || !sameWords(l, want[:n]) {
			t.Error(n, len(l), e)
		}
	}
	// Productions need not stand by their Left, nor need the start's come first.
	apart := api.Grammar{Terms: []string{"a", "b"}, Nons: []string{"S", "T"}, Prods: []api.Prod{
		{Left: non + 1, Right: []int{2}}, {Left: non, Right: []int{1}}, {Left: non + 1, Right: []int{1, non}}, {Left: non, Right: []int{non + 1, 2}},
	}}
	if l, e := lang.Words(apart, 4, 9); e != api.OK || told(apart, l) != "a,bb,aab,abbb," {
		t.Error(told(apart, l), e)
	}
}
