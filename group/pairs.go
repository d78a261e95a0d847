package group

import (
	"slices"

	"commodatum/api"
	"commodatum/perm"
)

// pair stands for the commutator of a and b.
type pair struct{ a, b element }

// step is how a product of commutators was reached: from a product of one factor less, by the commutator of a pair.
type step struct {
	from element
	by   pair
}

// Pairs returns a shortest list of pairs of elements of l such that the product of their commutators is g.
func Pairs(l []api.Perm, g api.Perm) ([][2]api.Perm, api.Errno) {
	c, e := closedOf(l)
	if e != api.OK || !perm.Valid(g) {
		return nil, api.ErrForm
	}
	goal := pack(g)
	if len(g) != c.points || !c.has[goal] {
		return nil, api.ErrArg
	}
	if !c.derive().has[goal] {
		return nil, api.ErrNone
	}
	var pairs [][2]api.Perm
	for _, p := range shortest(c.commutators(), goal) {
		pairs = append(pairs, [2]api.Perm{unpack(p.a, c.points), unpack(p.b, c.points)})
	}
	return pairs, api.OK
}

// shortest returns the pairs of a shortest product of the pairs' commutators that is goal, which is such a product.
func shortest(pairs []pair, goal element) []pair {
	steps := map[element]step{neutral(): {}}
	reached := []element{neutral()}
	for at := 0; at < len(reached); at++ {
		if _, found := steps[goal]; found {
			break
		}
		from := reached[at]
		for _, p := range pairs {
			next := from.times(commutator(p.a, p.b))
			if _, met := steps[next]; !met {
				steps[next] = step{from, p}
				reached = append(reached, next)
			}
		}
	}
	return walkBack(steps, goal)
}

// walkBack returns the pairs of the steps that lead from the identity to goal.
func walkBack(steps map[element]step, goal element) []pair {
	var list []pair
	for goal != neutral() {
		last := steps[goal]
		list = append(list, last.by)
		goal = last.from
	}
	slices.Reverse(list)
	return list
}

// commutators returns a pair for each commutator other than the identity.
func (c *closed) commutators() []pair {
	var pairs []pair
	met := map[element]bool{neutral(): true}
	add := func(p pair) {
		if e := commutator(p.a, p.b); !met[e] {
			met[e] = true
			pairs = append(pairs, p)
		}
	}
	// The conjugates of a commutator are the commutators of the conjugates of its pair,
	// so that it is enough to begin with one element of each class.
	for _, class := range c.classes() {
		for _, b := range c.list {
			add(pair{class[0], b})
		}
	}
	for at := 0; at < len(pairs); at++ {
		from := pairs[at]
		for _, by := range c.gens {
			add(pair{from.a.conjugate(by), from.b.conjugate(by)})
		}
	}
	return pairs
}
