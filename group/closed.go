package group

import "commodatum/api"

// closed is a group of permutations. Its generators are few, because each of them enlarges the group of those before it:
// what holds for all elements if it holds for the generators is therefore checked fast.
type closed struct {
	points int
	gens   []element
	list   []element
	has    map[element]bool
}

// trivial returns the group of the identity.
func trivial(points int) *closed {
	return &closed{
		points: points,
		list:   []element{neutral()},
		has:    map[element]bool{neutral(): true},
	}
}

// generate returns the least group that contains the permutations, which are valid and at least one.
func generate(perms []api.Perm) *closed {
	c := trivial(len(perms[0]))
	for _, p := range perms {
		c.extend(pack(p))
	}
	return c
}

// extend enlarges the group to the least one that also contains e.
func (c *closed) extend(e element) {
	if c.has[e] {
		return
	}
	c.gens = append(c.gens, e)
	add := func(e element) {
		if !c.has[e] {
			c.has[e] = true
			c.list = append(c.list, e)
		}
	}
	// The list grows while it is passed through. Products are enough: in a finite group, an inverse is a power.
	for at := 0; at < len(c.list); at++ {
		from := c.list[at]
		for _, g := range c.gens {
			add(from.times(g))
		}
	}
}

// perms returns the elements, rising.
func (c *closed) perms() []api.Perm {
	return unpackAll(sorted(c.list), c.points)
}

// derive returns the derived group. It is the least group that contains the commutators of generators
// and is mapped to itself by conjugation with generators.
func (c *closed) derive() *closed {
	d := trivial(c.points)
	for _, a := range c.gens {
		for _, b := range c.gens {
			d.extend(commutator(a, b))
		}
	}
	// The generators of d become more while they are passed through.
	for at := 0; at < len(d.gens); at++ {
		from := d.gens[at]
		for _, by := range c.gens {
			d.extend(from.conjugate(by))
		}
	}
	return d
}

// series returns c, its derived group and so on, up to the first group that is its own derived group.
func (c *closed) series() []*closed {
	list := []*closed{c}
	for {
		next := c.derive()
		if len(next.list) == len(c.list) {
			return list
		}
		list = append(list, next)
		c = next
	}
}

// contains reports whether each element of part is one of c.
func (c *closed) contains(part *closed) bool {
	for _, g := range part.gens {
		if !c.has[g] {
			return false
		}
	}
	return true
}

// normal reports whether conjugation with elements of c maps sub to itself.
func (c *closed) normal(sub *closed) bool {
	for _, e := range sub.gens {
		for _, by := range c.gens {
			if !sub.has[e.conjugate(by)] {
				return false
			}
		}
	}
	return true
}

// central reports whether e commutes with every element.
func (c *closed) central(e element) bool {
	for _, g := range c.gens {
		if e.times(g) != g.times(e) {
			return false
		}
	}
	return true
}

// class returns the elements that are conjugate to e, beginning with e.
func (c *closed) class(e element) []element {
	list := []element{e}
	met := map[element]bool{e: true}
	for at := 0; at < len(list); at++ {
		from := list[at]
		for _, by := range c.gens {
			if next := from.conjugate(by); !met[next] {
				met[next] = true
				list = append(list, next)
			}
		}
	}
	return list
}

// classes returns the classes of conjugate elements, each rising, and rising by their first elements.
func (c *closed) classes() [][]element {
	var classes [][]element
	met := map[element]bool{}
	for _, e := range sorted(c.list) {
		if met[e] {
			continue
		}
		class := sorted(c.class(e))
		for _, member := range class {
			met[member] = true
		}
		classes = append(classes, class)
	}
	return classes
}
