package gram

import (
	"slices"

	"exegete/api"
	"exegete/scan"
)

// fault is what ends Parse, and where. The reading is several calls deep where it meets one: it is thrown by panic, and caught in Parse.
type fault struct {
	line, col int
	e         api.Errno
}

func refuse(at scan.Token, e api.Errno) {
	panic(fault{at.Line, at.Col, e})
}

// Parse tells the grammar of a text, or the first fault of it with its place.
func Parse(text string) (g api.Grammar, line, col int, e api.Errno) {
	defer func() {
		thrown := recover()
		if f, ok := thrown.(fault); ok {
			line, col, e = f.line, f.col, f.e
		} else if thrown != nil {
			panic(thrown) // a fault of this program must not be told as one of the text
		}
	}()
	return read(text), 0, 0, api.OK
}

// read takes the names of all rules ahead of the first part, as a part may name a rule that comes behind it.
func read(text string) api.Grammar {
	tokens, line, col, e := scan.Tokens(text)
	if e != api.OK {
		panic(fault{line, col, e})
	}
	checkForm(tokens)
	l := rules(tokens)
	if len(l) == 0 {
		panic(fault{e: api.ErrForm})
	}
	var b builder
	for _, rule := range l {
		b.addNon(rule[0])
	}
	for i, rule := range l {
		b.addParts(api.Non+i, rule[2:])
	}
	if len(b.g.Terms) == 0 {
		panic(fault{e: api.ErrForm})
	}
	return b.g
}

// checkForm refuses the first token that may not stand at its place in its line.
func checkForm(tokens []scan.Token) {
	place := 0
	for _, t := range tokens {
		if !mayStand(t.Kind, place) {
			refuse(t, api.ErrForm)
		}
		place++
		if t.Kind == scan.Line {
			place = 0
		}
	}
}

func mayStand(kind, place int) bool {
	switch place {
	case 0:
		return kind == scan.Upper || kind == scan.Line
	case 1:
		return kind == scan.Colon
	}
	return kind != scan.Colon
}

// rules cuts tokens into lines, each with its end, but passes over those of an end alone.
func rules(tokens []scan.Token) [][]scan.Token {
	var l [][]scan.Token
	start := 0
	for i, t := range tokens {
		if t.Kind != scan.Line {
			continue
		}
		if i > start {
			l = append(l, tokens[start:i+1])
		}
		start = i + 1
	}
	return l
}

// builder has the grammar, as far as it is read.
type builder struct{ g api.Grammar }

func (b *builder) addNon(name scan.Token) {
	if slices.Contains(b.g.Nons, name.Text) {
		refuse(name, api.ErrTwice)
	}
	if len(b.g.Nons) == api.MaxNons {
		refuse(name, api.ErrLimit)
	}
	b.g.Nons = append(b.g.Nons, name.Text)
}

// addParts adds each part of a rule's body. The body has the line's end, so there is a token at the start of an empty part too.
func (b *builder) addParts(left int, body []scan.Token) {
	start := 0
	for i, t := range body {
		if t.Kind == scan.Bar || t.Kind == scan.Line {
			b.addProd(left, body[start:i], body[start])
			start = i + 1
		}
	}
}

func (b *builder) addProd(left int, names []scan.Token, at scan.Token) {
	p := api.Prod{Left: left}
	for _, name := range names {
		if len(p.Right) == api.MaxRight {
			refuse(name, api.ErrLimit)
		}
		p.Right = append(p.Right, b.symbol(name))
	}
	if len(b.g.Prods) == api.MaxProds {
		refuse(at, api.ErrLimit)
	}
	if stands(b.g.Prods, p) {
		refuse(at, api.ErrTwice)
	}
	b.g.Prods = append(b.g.Prods, p)
}

// symbol tells a name's number. A terminal gets its number where it comes first.
func (b *builder) symbol(name scan.Token) int {
	if sym, ok := Find(b.g, name.Text); ok {
		return sym
	}
	if name.Kind == scan.Upper {
		refuse(name, api.ErrNone)
	}
	if len(b.g.Terms) == api.MaxTerms {
		refuse(name, api.ErrLimit)
	}
	b.g.Terms = append(b.g.Terms, name.Text)
	return len(b.g.Terms)
}
