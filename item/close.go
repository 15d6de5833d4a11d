package item

import (
	"exegete/api"
	"exegete/set"
)

// closing is a list of items on its way to be closed.
type closing struct {
	// all has, of each production (the start's own first) and each place of its dot, what stands ahead: so each item is in it once, and they come out in order.
	all [1 + api.MaxProds][1 + api.MaxRight]set.Set
	// begun has, of each nonterminal, with what ahead its productions are there by now: most items ask for what an earlier one brought.
	begun [api.MaxNons]set.Set
	// open are those of all that were not looked at yet.
	open []api.Item
}

// put takes in an item that is Right.
func (c *closing) put(x api.Item) {
	at := &c.all[x.Prod-own][x.Dot]
	if !at.Has(x.Ahead) {
		*at = at.With(x.Ahead)
		c.open = append(c.open, x)
	}
}

// take takes out one that was not looked at yet.
func (c *closing) take() api.Item {
	last := len(c.open) - 1
	x := c.open[last]
	c.open = c.open[:last]
	return x
}

// list tells all items, by Less.
func (c *closing) list() []api.Item {
	var l []api.Item
	for i, dots := range c.all {
		for dot, aheads := range dots {
			for _, ahead := range aheads.List() {
				l = append(l, api.Item{Prod: i + own, Dot: dot, Ahead: ahead})
			}
		}
	}
	return l
}

// Close tells those of l that are Right, and all that they bring.
func (m *Maker) Close(l ...api.Item) []api.Item {
	var c closing
	for _, x := range l {
		if m.Right(x) {
			c.put(x)
		}
	}
	for len(c.open) > 0 {
		m.bring(&c, c.take())
	}
	return c.list()
}

// bring puts in what x brings: the productions of the nonterminal behind its dot, at their beginning, with each thing ahead that may come behind that nonterminal.
func (m *Maker) bring(c *closing, x api.Item) {
	rest := m.rest(x)
	if len(rest) == 0 || rest[0] < api.Non {
		return
	}
	non := rest[0] - api.Non
	fresh := m.begins.Ahead(rest[1:], x.Ahead).Less(c.begun[non])
	c.begun[non] = c.begun[non].Join(fresh)
	for _, prod := range m.of[non].List() {
		for _, ahead := range fresh.List() {
			c.put(api.Item{Prod: prod, Dot: 0, Ahead: ahead})
		}
	}
}

// Go tells where sym leads from l. Of l alone: what it would bring is not asked for.
func (m *Maker) Go(l []api.Item, sym int) []api.Item {
	var over []api.Item
	for _, x := range l {
		if next, ok := m.Next(x); ok && next == sym {
			x.Dot++
			over = append(over, x)
		}
	}
	return m.Close(over...)
}

// Begin tells the items ahead of the first symbol.
func (m *Maker) Begin() []api.Item {
	return m.Close(api.Item{Prod: own, Dot: 0, Ahead: api.End})
}
