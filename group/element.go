package group

import (
	"slices"

	"commodatum/api"
)

// element is a permutation of MaxPoints points. One of fewer points fixes the others, so that all elements are multiplied alike and compared as arrays.
type element [api.MaxPoints]uint8

func neutral() element {
	var e element
	for i := range e {
		e[i] = uint8(i)
	}
	return e
}

func pack(p api.Perm) element {
	e := neutral()
	for i, image := range p {
		e[i] = uint8(image)
	}
	return e
}

func unpack(e element, points int) api.Perm {
	p := make(api.Perm, points)
	for i := range p {
		p[i] = int(e[i])
	}
	return p
}

func unpackAll(list []element, points int) []api.Perm {
	perms := make([]api.Perm, len(list))
	for i, e := range list {
		perms[i] = unpack(e, points)
	}
	return perms
}

// sorted returns the elements in the order of their permutations, which the points that all of them fix do not change.
func sorted(list []element) []element {
	return slices.SortedFunc(slices.Values(list), func(a, b element) int {
		return slices.Compare(a[:], b[:])
	})
}

// times returns the product: first a, then b.
func (a element) times(b element) element {
	var product element
	for i, image := range a {
		product[i] = b[image]
	}
	return product
}

func (a element) inverse() element {
	var back element
	for i, image := range a {
		back[image] = uint8(i)
	}
	return back
}

// conjugate returns the product of the inverse of by, a and by.
func (a element) conjugate(by element) element {
	var image element
	for i, at := range by {
		image[at] = by[a[i]]
	}
	return image
}

func commutator(a, b element) element {
	return a.inverse().times(a.conjugate(b))
}
