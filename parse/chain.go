package parse

import "prompter/api"

// link is a twig, and the one behind it.
type link struct {
	api.Twig
	next *link
}

// chain is some trees, one behind the other. As their twigs are links, one may be put ahead of what was read already without moving that.
type chain struct {
	first, last *link
	trees       int
}

// leaf is the tree of x, which has no parts.
func leaf(x api.Twig) chain {
	return chain{}.under(x)
}

// then is the trees of c, and behind them those of d.
func (c chain) then(d chain) chain {
	switch {
	case c.trees == 0:
		return d
	case d.trees == 0:
		return c
	}
	c.last.next = d.first
	return chain{c.first, d.last, c.trees + d.trees}
}

// under is the tree of x, whose parts are the trees of c.
func (c chain) under(x api.Twig) chain {
	x.Kids = c.trees
	top := &link{Twig: x}
	whole := chain{top, top, 1}.then(c)
	whole.trees = 1
	return whole
}

// tree is the twigs of c in their order.
func (c chain) tree() (t api.Tree) {
	for l := c.first; l != nil; l = l.next {
		t = append(t, l.Twig)
	}
	return t
}
