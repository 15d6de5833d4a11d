package derive

import (
	"slices"

	"exegete/api"
)

// tree finds the tree of x at a place in the order, which must be below c.trees(x). Numbers that c cut to its most do no harm: any place is below them.
func (c *counter) tree(x goal, place int) api.Tree {
	if c.isLeaf(x) {
		return api.Tree{Sym: x.sym, Prod: leaf}
	}
	for prod, p := range c.prods {
		if p.Left != x.sym {
			continue
		}
		r := x.under(prod)
		n := c.kidRows(r)
		if place < n {
			return api.Tree{Sym: x.sym, Prod: prod, Kids: c.addKids(slices.Grow([]api.Tree(nil), len(p.Right)), r, place)}
		}
		place -= n
	}
	return api.Tree{}
}

// addKids adds to l the row of trees of r at a place in the order: the first tree is one of a fixed number of leaves, and each such tree comes with all rows that may stand behind it.
func (c *counter) addKids(l []api.Tree, r row, place int) []api.Tree {
	if c.isDone(r) {
		return l
	}
	for size := range r.to - r.from + 1 {
		first, rest := c.cut(r, size)
		behind := c.kidRows(rest)
		n := c.trees(first) * behind
		if place < n {
			return c.addKids(append(l, c.tree(first, place/behind)), rest, place%behind)
		}
		place -= n
	}
	return l
}
