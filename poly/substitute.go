package poly

import (
	"commodatum/api"
	"commodatum/field"
)

// substitution replaces the variables of a polynomial in n variables by polynomials in m variables.
type substitution struct {
	f     api.Field
	list  []api.Poly // what replaces each variable
	term  []int      // the exponents of the term that was replaced last
	parts []*sum     // parts[i] is the product of the powers of list[0] to list[i-1] in it
	total *sum
}

// Substitute returns the polynomial in m variables that results from replacing variable i of p by l[i].
func Substitute(f api.Field, n int, p api.Poly, m int, l []api.Poly) (api.Poly, api.Errno) {
	if !Valid(f, n, p) || !areValid(f, m, l) {
		return nil, api.ErrForm
	}
	if len(l) != n {
		return nil, api.ErrArg
	}
	s := newSubstitution(f, n, m, l)
	for _, t := range p {
		if e := s.addTerm(t); e != api.OK {
			return nil, e
		}
	}
	return s.total.poly()
}

// areValid reports whether m is a number of variables and l consists of polynomials in m variables.
func areValid(f api.Field, m int, l []api.Poly) bool {
	if !isCount(m) {
		return false
	}
	for _, p := range l {
		if !Valid(f, m, p) {
			return false
		}
	}
	return true
}

func newSubstitution(f api.Field, n, m int, l []api.Poly) *substitution {
	one := newSum(f)
	one.add(appendKey(nil, make([]int, m)), 1)
	s := &substitution{f: f, list: l, term: make([]int, n), parts: make([]*sum, n+1), total: newSum(f)}
	for i := range s.parts {
		s.parts[i] = one
	}
	return s
}

// addTerm adds what t becomes.
func (s *substitution) addTerm(t api.Term) api.Errno {
	if e := s.replace(t.E); e != api.OK {
		return e
	}
	product := s.parts[len(t.E)]
	for key, c := range product.terms {
		multiple, _ := field.Mul(s.f, c, t.C)
		s.total.add([]byte(key), multiple)
	}
	if s.total.count > api.MaxTerms {
		return api.ErrSize
	}
	// Sums that vanish are kept until they are as many as terms may be: not each term is followed by a search for them.
	if len(s.total.terms) > 2*api.MaxTerms {
		s.total.prune()
	}
	return api.OK
}

// replace computes the parts for the next list of exponents, which is greater than the one before: up to the first exponent that grows, the parts remain.
func (s *substitution) replace(exponents []int) api.Errno {
	first := 0
	for first < len(exponents) && exponents[first] == s.term[first] {
		first++
	}
	for i := first; i < len(exponents); i++ {
		part, e := s.parts[i], exponents[i]
		if i == first {
			part, e = s.parts[i+1], e-s.term[i]
		}
		product, errno := raise(part, s.list[i], e)
		if errno != api.OK {
			return errno
		}
		s.parts[i+1] = product
	}
	copy(s.term, exponents)
	return api.OK
}

// raise multiplies s by p as often as e says. Each intermediate result is one of multiplying step by step, so that no other limit is exceeded.
func raise(s *sum, p api.Poly, e int) (*sum, api.Errno) {
	for e > 0 && s.count > 0 {
		k := simplePower(s.f, p, e)
		product, errno := s.times(powerOfTerms(s.f, p, k))
		if errno != api.OK {
			return nil, errno
		}
		s = product
		e -= k
	}
	return s, api.OK
}

// simplePower returns the greatest k up to e for which the power of a sum is known to be the sum of the powers: any k for one term, and powers of the characteristic.
func simplePower(f api.Field, p api.Poly, e int) int {
	if len(p) <= 1 {
		return e
	}
	k := 1
	for k*f.P <= e {
		k *= f.P
	}
	return k
}

// powerOfTerms returns the sum of the powers of the terms of p. Its exponents may be too great, until it is multiplied.
func powerOfTerms(f api.Field, p api.Poly, k int) api.Poly {
	power := make(api.Poly, len(p))
	for i, t := range p {
		power[i].C, _ = field.Power(f, t.C, k)
		power[i].E = make([]int, len(t.E))
		for j, e := range t.E {
			power[i].E[j] = e * k
		}
	}
	return power
}
