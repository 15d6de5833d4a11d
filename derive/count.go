package derive

import "exegete/api"

// above has the nonterminals that stand above something with just its leaves. It grows, or the leaves get fewer, with each step down: so a search for plain trees ends.
type above [api.MaxNons]bool

// has tells whether sym is one; a terminal never stands above anything.
func (s above) has(sym int) bool {
	return sym >= api.Non && s[sym-api.Non]
}

func (s above) with(non int) above {
	s[non-api.Non] = true
	return s
}

// span has the leaves from place from to place to of the word, and what stands above all of them.
type span struct {
	from, to int
	above    above
}

// cut parts a span behind its first n leaves. What stands above it has just the leaves of a part only where that part has all of them.
func (s span) cut(n int) (first, rest span) {
	middle := s.from + n
	first, rest = span{from: s.from, to: middle}, span{from: middle, to: s.to}
	if first.to == s.to {
		first.above = s.above
	}
	if rest.from == s.from {
		rest.above = s.above
	}
	return first, rest
}

// goal is what trees are looked for: those of a symbol, with these leaves.
type goal struct {
	sym int
	span
}

func whole(root int, word []int) goal {
	return goal{sym: root, span: span{to: len(word)}}
}

// under is what the Kids of x must be, if they are of this production.
func (x goal) under(prod int) row {
	s := x.span
	s.above = s.above.with(x.sym)
	return row{prod: prod, span: s}
}

// row is what rows of trees are looked for: those of the symbols of a production from dot on, with these leaves.
type row struct {
	prod, dot int
	span
}

// counter knows how many there are of what it was asked by now. It counts to most alone, as no greater number has to be told.
type counter struct {
	prods []api.Prod
	word  []int
	most  int
	goals map[goal]int
	rows  map[row]int
}

func newCounter(g api.Grammar, word []int, most int) *counter {
	return &counter{prods: g.Prods, word: word, most: most, goals: map[goal]int{}, rows: map[row]int{}}
}

// trees tells how many trees there are of x.
func (c *counter) trees(x goal) int {
	n, known := c.goals[x]
	if !known {
		n = min(c.sumProds(x), c.most)
		c.goals[x] = n
	}
	return n
}

func (c *counter) sumProds(x goal) int {
	if x.above.has(x.sym) {
		return 0
	}
	if c.isLeaf(x) {
		return 1
	}
	n := 0
	for prod, p := range c.prods {
		if n >= c.most {
			break
		}
		if p.Left == x.sym {
			n += c.kidRows(x.under(prod))
		}
	}
	return n
}

// isLeaf tells whether a leaf is a tree of x. Then it is the only one: in any other it would stand under its own symbol.
func (c *counter) isLeaf(x goal) bool {
	return x.to == x.from+1 && c.word[x.from] == x.sym
}

// kidRows tells how many rows of trees there are of r. Where something stands above, only one goal asks for it, and that goal's number is kept; without it a row may stand in many.
func (c *counter) kidRows(r row) int {
	if r.above != (above{}) {
		return min(c.sumCuts(r), c.most)
	}
	n, known := c.rows[r]
	if !known {
		n = min(c.sumCuts(r), c.most)
		c.rows[r] = n
	}
	return n
}

func (c *counter) sumCuts(r row) int {
	if c.isDone(r) {
		if r.from == r.to {
			return 1
		}
		return 0
	}
	n := 0
	for size := 0; size <= r.to-r.from && n < c.most; size++ {
		first, rest := c.cut(r, size)
		if k := c.trees(first); k > 0 {
			n += k * c.kidRows(rest)
		}
	}
	return n
}

// isDone: no symbol of the production is left.
func (c *counter) isDone(r row) bool {
	return r.dot == len(c.prods[r.prod].Right)
}

// cut parts a row behind its first symbol, which gets the first size leaves.
func (c *counter) cut(r row, size int) (goal, row) {
	first, rest := r.span.cut(size)
	return goal{sym: c.prods[r.prod].Right[r.dot], span: first}, row{prod: r.prod, dot: r.dot + 1, span: rest}
}
