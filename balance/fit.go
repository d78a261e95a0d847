package balance

import (
	"math/bits"
	"slices"
)

// limit returns the depth to which every tree with the size can be balanced: 2, and 4 more for each doubling of the size.
func limit(size int) int { return 4*bits.Len(uint(size-1)) + 2 }

// can reports whether t can be balanced to the depth.
func can(t *tree, depth int) bool { return t.depth <= depth || limit(t.size) <= depth }

// kidsCan reports whether t can have the depth if its kids are balanced.
func kidsCan(t *tree, depth int) bool {
	return !slices.ContainsFunc(t.kids, func(k *tree) bool { return !can(k, depth-cost(t.kind)) })
}

// fit returns a tree with the value of t and at most the depth, to which t can be balanced.
func fit(t *tree, depth int) *tree {
	if t.depth <= depth {
		return t
	}
	return split(t, depth)
}

// fitKids returns t with its kids balanced, so that it has at most the depth.
func fitKids(t *tree, depth int) *tree {
	depth -= cost(t.kind)
	return join(t.kind, fit(t.kids[0], depth), fit(t.kids[1], depth))
}

// split balances t by means of a core of it. The value of t is linear in the core: it is the rest, which is the value for a core of 0, plus the core times a factor.
// The rest, the factor and the kids of the core can be balanced to what the depth leaves for them: they have at most half the size of t, for which 4 less suffices, or the core was chosen accordingly.
func split(t *tree, depth int) *tree {
	c := cutOut(t, depth)
	inside := depth - c.cost()
	if !kidsCan(c.core, inside) {
		return choose(c, depth-2)
	}
	rest := fit(c.around(constant(0)), depth-cost(c.plus()))
	factor := fit(c.factor(), inside)
	core := c.turned(fitKids(c.core, inside))
	return join(c.plus(), rest, and(core, factor))
}

// choose takes the value for a core of 1 or that for a core of 0, as the core says. It uses the core twice, but makes it only 2 deeper, where an exclusive or of a product makes it 3 deeper.
func choose(c cut, inside int) *tree {
	core := c.turned(fitKids(c.core, inside))
	one := fit(c.around(constant(1)), inside)
	zero := fit(c.around(constant(0)), inside)
	return or(and(core, one), and(negation(core), zero))
}
