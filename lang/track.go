package lang

import (
	"math/bits"

	"exegete/api"
)

// places is a set of places of a track, each a digit.
type places uint16

func only(place int) places {
	return 1 << place
}

// track is a row of places, 0 to last, with steps by terminals from each to the next one; there may be steps from the last one to itself, too. A word leads from place to place; so a question about words is one about where those of the start lead to. A track is handed on as a value: what is fixed in one is not in the one it came from.
type track struct {
	prods []api.Prod
	terms int // there are the terminals 1 to terms
	last  int
	steps [api.MaxTerms + 1]places         // of each terminal: where a step leads on to the next place
	stays places                           // where a step of any terminal leads to the same place
	ends  [api.MaxNons][maxWord + 1]places // of each nonterminal, from each place: where its words lead to
}

// freeTrack has a step by each terminal from each place on: it is that of all words of a length.
func freeTrack(prods []api.Prod, terms, length int) track {
	t := track{prods: prods, terms: terms, last: length}
	for i := range terms {
		t.steps[i+1] = only(length) - 1
	}
	t.settle(t.last)
	return t
}

// wordTrack is that of a word, or, if it is open, of all that begin with it.
func wordTrack(prods []api.Prod, terms int, word []int, open bool) track {
	t := track{prods: prods, terms: terms, last: len(word)}
	for place, term := range word {
		t.steps[term] |= only(place)
	}
	if open {
		t.stays = only(t.last)
	}
	t.settle(t.last)
	return t
}

// fixed has at that place the step of that terminal alone. Nothing changes behind the place: no step leads back.
func (t track) fixed(place, term int) track {
	for i := range t.terms {
		if i+1 != term {
			t.steps[i+1] &^= only(place)
		}
	}
	t.settle(place)
	return t
}

// leads tells whether a word of the start leads from the first place to the last.
func (t track) leads() bool {
	return t.ends[0][0]&only(t.last) != 0
}

// settle finds where words lead to from this place and all ahead of it; it must be known of those behind. Each place's own comes to an end, as it only grows.
func (t *track) settle(from int) {
	for at := from; at >= 0; at-- {
		for i := range t.ends {
			t.ends[i][at] = 0
		}
		for t.grow(at) {
		}
	}
}

// grow adds what productions give of what is there by now, and tells whether that was anything new.
func (t *track) grow(at int) bool {
	grown := false
	for _, p := range t.prods {
		was := t.ends[p.Left-api.Non][at]
		now := was | t.row(p.Right, at)
		t.ends[p.Left-api.Non][at] = now
		grown = grown || now != was
	}
	return grown
}

// row tells where words of these symbols lead to.
func (t *track) row(syms []int, at int) places {
	l := only(at)
	for _, sym := range syms {
		if sym < api.Non {
			l = l&t.steps[sym]<<1 | l&t.stays
		} else {
			l = t.on(sym-api.Non, l)
		}
	}
	return l
}

// on tells where words of a nonterminal lead to from these places.
func (t *track) on(non int, from places) places {
	var l places
	for left := from; left != 0; left &= left - 1 { // that takes the lowest one out
		l |= t.ends[non][bits.TrailingZeros16(uint16(left))]
	}
	return l
}
