package balance

import (
	"slices"

	"commodatum/api"
)

// cut is a tree from which a core, a node with two kids, is cut out.
type cut struct {
	sides   []side      // what is connected with the core, the outermost first
	has     [kinds]bool // the kinds of the sides
	core    *tree
	negated bool // not the core but its negation is connected with the sides
}

// side is a tree with the kind that connects it.
type side struct {
	kind int
	t    *tree
}

// cutOut goes down the larger kids of t until the kids of the core can be balanced to what the depth leaves for them, or have at most half the size of t. So what is around the core has less than half the size.
func cutOut(t *tree, depth int) cut {
	c := cut{core: t}
	for {
		c.dropNot()
		small, large := c.core.kids[0], c.core.kids[1]
		if small.size > large.size {
			small, large = large, small
		}
		if 2*large.size <= t.size || kidsCan(c.core, depth-c.cost()) {
			return c
		}
		c.enter(large, small)
	}
}

func (c *cut) dropNot() {
	if c.core.kind == api.FNot {
		c.core, c.negated = c.core.kids[0], !c.negated
	}
}

// enter makes a kid of the core the core, and the other kid a side. A negation moves inwards.
func (c *cut) enter(kid, other *tree) {
	s := side{c.core.kind, other}
	switch {
	case c.negated && s.kind == api.FAnd:
		s = side{api.FOr, negation(other)}
	case c.negated && s.kind == api.FOr:
		s = side{api.FAnd, negation(other)}
	}
	c.sides = append(c.sides, s)
	c.has[s.kind] = true
	c.core = kid
}

// turned returns what replaces the core, negated if the core is.
func (c cut) turned(core *tree) *tree {
	if c.negated {
		return negation(core)
	}
	return core
}

// around returns the sides with a tree in place of the core, which is not turned.
func (c cut) around(t *tree) *tree {
	for _, s := range slices.Backward(c.sides) {
		t = join(s.kind, s.t, t)
	}
	return t
}

// plus returns the kind that adds the product of core and factor to the rest. Unless there are exclusive ors, the "or" will do, which is not as deep.
func (c cut) plus() int {
	switch {
	case c.has[sum]:
		return sum
	case c.has[api.FXor]:
		return api.FXor
	}
	return api.FOr
}

// factor returns the product of all that the core is multiplied by. Where an exclusive or adds, "a or b" is a plus "not a" times b.
func (c cut) factor() *tree {
	product := constant(1)
	for _, s := range c.sides {
		switch {
		case s.kind == api.FAnd:
			product = and(product, s.t)
		case s.kind == api.FOr && c.has[api.FXor]:
			product = and(product, negation(s.t))
		}
	}
	return product
}

// cost returns how much deeper the sum of the rest and the product is than the core.
func (c cut) cost() int {
	total := 0
	if c.has[api.FOr] || c.has[api.FXor] || c.has[sum] {
		total += cost(c.plus())
	}
	if c.has[api.FAnd] || c.has[api.FOr] && c.has[api.FXor] {
		total++
	}
	return total
}
