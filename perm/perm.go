// Package perm computes with permutations; see shared/doc/01-perm.md.
package perm

import "commodatum/api"

// marks tells for each point whether it has been met.
type marks [api.MaxPoints]bool

// Valid reports whether p has 1 to MaxPoints points and contains each of them exactly once.
func Valid(p api.Perm) bool {
	if len(p) < 1 || len(p) > api.MaxPoints {
		return false
	}
	var met marks
	for _, image := range p {
		if image < 0 || image >= len(p) || met[image] {
			return false
		}
		met[image] = true
	}
	return true
}

// Identity returns the identity of n points.
func Identity(n int) (api.Perm, api.Errno) {
	if n < 1 || n > api.MaxPoints {
		return nil, api.ErrArg
	}
	return identity(n), api.OK
}

// Mul returns the product of p and q: the permutation that maps i to q[p[i]].
func Mul(p, q api.Perm) (api.Perm, api.Errno) {
	if e := checkPair(p, q); e != api.OK {
		return nil, e
	}
	return mul(p, q), api.OK
}

// Commutator returns the product of the inverse of p, the inverse of q, p and q, in this order.
func Commutator(p, q api.Perm) (api.Perm, api.Errno) {
	if e := checkPair(p, q); e != api.OK {
		return nil, e
	}
	return mul(mul(inverse(p), inverse(q)), mul(p, q)), api.OK
}

// Inverse returns the permutation whose product with p is the identity.
func Inverse(p api.Perm) (api.Perm, api.Errno) {
	if !Valid(p) {
		return nil, api.ErrForm
	}
	return inverse(p), api.OK
}

// Power returns the product of k factors p, or for a negative k of -k inverses of p.
func Power(p api.Perm, k int) (api.Perm, api.Errno) {
	if !Valid(p) {
		return nil, api.ErrForm
	}
	// Only k modulo the order matters. Without this, a large k would take too long, and the least int has no negative.
	order := Order(p)
	k = (k%order + order) % order
	power := identity(len(p))
	for range k {
		power = mul(power, p)
	}
	return power, api.OK
}

// checkPair returns the error of a function of two permutations with the same number of points.
func checkPair(p, q api.Perm) api.Errno {
	if !Valid(p) || !Valid(q) {
		return api.ErrForm
	}
	if len(p) != len(q) {
		return api.ErrArg
	}
	return api.OK
}

func identity(n int) api.Perm {
	p := make(api.Perm, n)
	for i := range p {
		p[i] = i
	}
	return p
}

func mul(p, q api.Perm) api.Perm {
	product := make(api.Perm, len(p))
	for i, image := range p {
		product[i] = q[image]
	}
	return product
}

func inverse(p api.Perm) api.Perm {
	back := make(api.Perm, len(p))
	for i, image := range p {
		back[image] = i
	}
	return back
}
