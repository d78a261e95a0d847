package poly

import (
	"maps"
	"slices"

	"commodatum/api"
	"commodatum/field"
)

// maxPairs is how many pairs of terms are multiplied at most for one product.
const maxPairs = 1000000

// sum is a polynomial that grows term by term.
type sum struct {
	f     api.Field
	terms map[string]int // the coefficients, by the keys of the exponents; some may be 0
	count int            // how many of them are not 0
}

func newSum(f api.Field) *sum { return &sum{f: f, terms: map[string]int{}} }

// appendKey writes each exponent as two bytes, the higher one first: keys are ordered as lists of exponents are.
func appendKey(key []byte, exponents []int) []byte {
	for _, e := range exponents {
		key = append(key, byte(e>>8), byte(e))
	}
	return key
}

// exponentsOf is the inverse of appendKey.
func exponentsOf(key string) []int {
	list := make([]int, len(key)/2)
	for i := range list {
		list[i] = int(key[2*i])<<8 | int(key[2*i+1])
	}
	return list
}

// appendProduct writes the key of the product of two terms, unless an exponent is too great.
func appendProduct(product []byte, key string, exponents []int) ([]byte, bool) {
	for i, e := range exponents {
		e += int(key[2*i])<<8 | int(key[2*i+1])
		if e > api.MaxPower {
			return nil, false
		}
		product = append(product, byte(e>>8), byte(e))
	}
	return product, true
}

// add adds a term.
func (s *sum) add(key []byte, c int) {
	if c == 0 {
		return
	}
	before := s.terms[string(key)]
	if before == 0 {
		s.terms[string(key)] = c
		s.count++
		return
	}
	after, _ := field.Add(s.f, before, c)
	s.terms[string(key)] = after
	if after == 0 {
		s.count--
	}
}

func (s *sum) addPoly(p api.Poly) {
	key := []byte{}
	for _, t := range p {
		key = appendKey(key[:0], t.E)
		s.add(key, t.C)
	}
}

// prune removes the terms with the coefficient 0.
func (s *sum) prune() {
	if len(s.terms) > s.count {
		maps.DeleteFunc(s.terms, func(key string, c int) bool { return c == 0 })
	}
}

// poly returns the terms in order, or ErrSize if there are too many.
func (s *sum) poly() (api.Poly, api.Errno) {
	if s.count > api.MaxTerms {
		return nil, api.ErrSize
	}
	s.prune()
	list := make(api.Poly, 0, s.count)
	for _, key := range slices.Sorted(maps.Keys(s.terms)) {
		list = append(list, api.Term{C: s.terms[key], E: exponentsOf(key)})
	}
	return list, api.OK
}

// times returns the product of s, which is pruned, and p, or ErrSize if it exceeds a limit.
func (s *sum) times(p api.Poly) (*sum, api.Errno) {
	if s.count*len(p) > maxPairs {
		return nil, api.ErrSize
	}
	product := newSum(s.f)
	key := []byte{}
	for of, a := range s.terms {
		for _, t := range p {
			fits := false
			key, fits = appendProduct(key[:0], of, t.E)
			if !fits {
				// There are no divisors of 0: the product of the terms of highest degree in this variable does not vanish.
				return nil, api.ErrSize
			}
			c, _ := field.Mul(s.f, a, t.C)
			product.add(key, c)
		}
	}
	if product.count > api.MaxTerms {
		return nil, api.ErrSize
	}
	product.prune()
	return product, api.OK
}
