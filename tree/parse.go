package tree

import (
	"slices"
	"strings"

	"exegete/api"
	"exegete/gram"
)

const maxSymbols = 400 // that a text may have, for Parse to read it

// fault ends Parse. The reading is as many calls deep as the text has trees open where it meets one: it is thrown by panic, and caught in Parse.
type fault struct{}

// Parse tells the derivation of which s is the Print.
func Parse(g api.Grammar, s string) (t api.Tree, e api.Errno) {
	defer func() {
		thrown := recover()
		if _, ok := thrown.(fault); ok {
			e = api.ErrForm
		} else if thrown != nil {
			panic(thrown) // a fault of this program must not be told as one of the text
		}
	}()
	return read(g, s), api.OK
}

func read(g api.Grammar, s string) api.Tree {
	r := reader{g: g, rest: s}
	t := r.tree()
	r.must(r.rest == "")
	return t
}

// reader has what is left of a text, and how many symbols were read.
type reader struct {
	g       api.Grammar
	rest    string
	symbols int
}

func (r *reader) must(holds bool) {
	if !holds {
		panic(fault{})
	}
}

// tree takes a tree from the text. Each has a symbol of its own, so what bounds these bounds how deep the calls go.
func (r *reader) tree() api.Tree {
	if !r.took("(") {
		t := api.Tree{Sym: r.symbol(), Prod: leaf}
		r.must(t.Sym != api.End) // it has a name, but is in no tree
		return t
	}
	t := api.Tree{Sym: r.symbol()}
	for r.took(" ") {
		t.Kids = append(t.Kids, r.tree())
	}
	r.must(r.took(")"))
	t.Prod = slices.IndexFunc(r.g.Prods, func(p api.Prod) bool { return derives(p, t) })
	r.must(t.Prod >= 0)
	return t
}

func (r *reader) took(sign string) bool {
	rest, ok := strings.CutPrefix(r.rest, sign)
	r.rest = rest
	return ok
}

// symbol takes a name, as far as the next sign, and tells whose it is.
func (r *reader) symbol() int {
	r.symbols++
	r.must(r.symbols <= maxSymbols)
	end := strings.IndexAny(r.rest, " ()")
	if end < 0 {
		end = len(r.rest)
	}
	sym, ok := gram.Find(r.g, r.rest[:end])
	r.must(ok)
	r.rest = r.rest[end:]
	return sym
}

// derives tells whether p makes of t's symbol just those of its Kids.
func derives(p api.Prod, t api.Tree) bool {
	return p.Left == t.Sym && slices.EqualFunc(p.Right, t.Kids, func(sym int, kid api.Tree) bool { return sym == kid.Sym })
}
